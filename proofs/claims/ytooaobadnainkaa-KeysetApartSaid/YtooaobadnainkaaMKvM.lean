/- What the walks of the laws on states ask of the program's package kv. Some states side by side, and blocks that no state's call changes. What the known commands of the law's wakes come to. The law's wakes on states: commands that are known. -/
import Derived.Test.YtooaobadnainkaaMKvD
import Derived.Test.YtooaobadnainkaaCmSpec
import Derived.Test.YtooaobadnainkaaCmGreatM
-- KvK
namespace Go.Proofs.Ytooaobadnainkaa
open Go.RowKit
/-- Pairs within the limits of a state. -/
structure LimP (l : List PV) : Prop where
  len : l.length ≤ 5000
  each : ∀ p ∈ l, p.1.size ≤ 1000 ∧ p.2.size ≤ 1000
def ReplyV (r : Nat × ByteArray) : Value := .agg #[.int .u8 (r.1 : Int), .string r.2]
/-- Texts that are not too long for a walk, and as many. -/
structure TxtS (w : World) (v : Value) (l : List ByteArray) : Prop where
  ex : ∃ A L c, v = .slice A L c ∧ L = l.length ∧ L ≤ c ∧ HasS w A l
end Go.Proofs.Ytooaobadnainkaa
-- KvW
namespace Go.Proofs.Ytooaobadnainkaa
open Go.RowKit
def upd {α : Type} (f : Nat → α) (i : Nat) (x : α) : Nat → α := fun j => if j = i then x else f j
theorem upd_same {α : Type} (f : Nat → α) (i : Nat) (x : α) : upd f i x i = x := if_pos rfl
theorem upd_other {α : Type} {f : Nat → α} {i j : Nat} {x : α} (h : j ≠ i) : upd f i x j = f j := if_neg h
section
/-- What the blocks P hold stays. -/
def Still (P : Nat → Prop) (W W' : World) : Prop := ∀ k, P k → W'.heap[k]? = W.heap[k]?
end
end Go.Proofs.Ytooaobadnainkaa
-- KvWkM
namespace Go.Proofs.Ytooaobadnainkaa
open Go.RowKit
abbrev kA : ByteArray := ⟨#[97]⟩
abbrev kB : ByteArray := ⟨#[98]⟩
abbrev k7 : ByteArray := ⟨#[55]⟩
abbrev kM2 : ByteArray := ⟨#[45, 50]⟩
abbrev kE : ByteArray := ⟨#[]⟩
def wm1 : CM := ⟨1, 0, 1, [kA], kE, k7, 0⟩
def wm2 : CM := ⟨1, 0, 4, [kA], kE, kE, -9⟩
def wm3 : CM := ⟨1, 0, 6, [kA, kB], kE, kE, 0⟩
def wm4 : CM := ⟨1, 0, 2, [kA], kE, kE, 0⟩
def wm5 : CM := ⟨1, 0, 7, [kA, kB], kE, kE, 0⟩
theorem each1 : ∀ k ∈ [kA], 1 ≤ k.size ∧ k.size ≤ 32 := fun k hk => by
  obtain rfl : k = kA := by simpa using hk
  decide
theorem each2 : ∀ k ∈ [kA, kB], 1 ≤ k.size ∧ k.size ≤ 32 := fun k hk => by
  have : k = kA ∨ k = kB := by simpa using hk
  rcases this with rfl | rfl <;> decide
theorem may1 : wm1.may = true := CM.may_iff.2 ⟨by decide, each1, by decide, by decide, by decide, by decide, by decide, by decide, by decide⟩
theorem may2 : wm2.may = true := CM.may_iff.2 ⟨by decide, each1, by decide, by decide, by decide, by decide, by decide, by decide, by decide⟩
theorem may3 : wm3.may = true := CM.may_iff.2 ⟨by decide, each2, by decide, by decide, by decide, by decide, by decide, by decide, by decide⟩
theorem may4 : wm4.may = true := CM.may_iff.2 ⟨by decide, each1, by decide, by decide, by decide, by decide, by decide, by decide, by decide⟩
theorem may5 : wm5.may = true := CM.may_iff.2 ⟨by decide, each2, by decide, by decide, by decide, by decide, by decide, by decide, by decide⟩
theorem wd1 : doP [] wm1 = ([(kA, k7)], 0, kE) := by
  rw [doP_put may1 rfl (show keyP wm1.ks 0 = kA from rfl)]
  rfl
theorem look_one {a b v : ByteArray} (h : a ≠ b) : lookP [(a, v)] b = none := by rw [lookP_cons, if_neg h]; rfl
theorem look_own (a v : ByteArray) : lookP [(a, v)] a = some v := by rw [lookP_cons, if_pos rfl]
theorem num7 : numM k7.data.toList = some 7 := by
  have : k7.data.toList = [55] := rfl
  rw [this, numM, if_neg (by decide), numD, if_neg (by unfold badD; decide), if_neg (by decide), if_neg (by decide), if_pos (by decide)]
  rfl
theorem dec2 : decI (-2) = [45, 50] := by
  unfold decI
  rw [decN]
  decide
theorem wd2 : doP [(kA, k7)] wm2 = ([(kA, kM2)], 0, kM2) := by
  rw [doP_add may2 rfl (show keyP wm2.ks 0 = kA from rfl)]
  have h1 : seedP [(kA, k7)] kA = some 7 := by rw [seedP, look_own]; exact num7
  have h2 : sumP [(kA, k7)] kA wm2.n = some (-2) := by rw [sumP_some h1]; rfl
  unfold addP
  rw [h2]
  show (withP [(kA, k7)] kA (str (decI (-2))), 0, str (decI (-2))) = _
  rw [dec2]
  rfl
theorem ne_ab : kA ≠ kB := by decide
theorem wd3 : doP [(kA, kM2)] wm3 = ([(kB, kM2)], 0, kE) := by
  rw [doP_swap may3 rfl (show keyP wm3.ks 0 = kA from rfl) (show keyP wm3.ks 1 = kB from rfl)]
  unfold swapP
  rw [look_own, look_one ne_ab]
  rfl
theorem wd4 : doP [(kB, kM2)] wm4 = ([(kB, kM2)], 1, kE) := doP_get0 may4 rfl (show keyP wm4.ks 0 = kA from rfl) (look_one (Ne.symm ne_ab))
theorem wd5 : doP [(kB, kM2)] wm5 = ([(kB, kM2)], 0, ⟨#[44, 45, 50, 44]⟩) := by
  rw [doP_join may5 rfl]
  have : joinP [(kB, kM2)] wm5.ks = [44, 45, 50, 44] := by
    show joinP [(kB, kM2)] [kA, kB] = _
    unfold joinP
    rw [List.flatMap_cons, List.flatMap_cons, look_one (Ne.symm ne_ab), look_own]
    rfl
  rw [this]
  rfl
end Go.Proofs.Ytooaobadnainkaa
-- KvWk
namespace Go.Proofs.Ytooaobadnainkaa
open Go.RowKit
/-- A command that is known; its keys lie in block S. -/
def wv (S kd L : Nat) (ks : List ByteArray) (new : ByteArray) (n : Int) : CmdV := ⟨1, 0, kd, some ⟨S, 0, none⟩, L, L, ks, kE, new, n⟩
theorem wv_small {S kd L : Nat} {ks : List ByteArray} {new : ByteArray} {n : Int} (hL2 : ks.length ≤ 2) (hnew : new.size ≤ 64) (hks : ∀ k ∈ ks, k.size ≤ 64) : ¬ (wv S kd L ks new n).great := by
  rintro (h | h | h | ⟨j, hj, h⟩)
  · revert h; show ¬ 500 < kE.size; decide
  · have h' : 500 < new.size := h; omega
  · have h' : 100 < ks.length := h; omega
  · have h' : 500 < (ks[j]'hj).size := h
    have := hks _ (List.getElem_mem hj)
    omega
theorem sm1 : ∀ k ∈ [kA], k.size ≤ 64 := fun k hk => by have := each1 k hk; omega
theorem sm2 : ∀ k ∈ [kA, kB], k.size ≤ 64 := fun k hk => by have := each2 k hk; omega
theorem limP_one {a b : ByteArray} (h1 : a.size ≤ 1000) (h2 : b.size ≤ 1000) : LimP [(a, b)] := ⟨by simp, fun p hp => by
  have : p = (a, b) := by simpa using hp
  subst this
  exact ⟨h1, h2⟩⟩
theorem limP_nil : LimP [] := ⟨by simp, fun p hp => by cases hp⟩
end Go.Proofs.Ytooaobadnainkaa
