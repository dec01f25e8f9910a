/- What the walks of the laws on states ask of the program's package kv. Some states side by side, and blocks that no state's call changes. What the known commands of the law's wakes come to. The law's wakes on states: commands that are known. -/
import Derived.Test.YtfkdlmokigeemaaDoorMKvD
import Derived.Test.YtfkdlmokigeemaaDoorCmGreat
import Derived.Test.YtfkdlmokigeemaaDoorCmSpec
import Derived.Laws.StructEq
import Derived.Deep.DeepCutAuto
-- KvK
namespace Go.Proofs.YtfkdlmokigeemaaDoor
open Go.RowKit

/-- Pairs within the limits of a state. -/
structure LimP (l : List PV) : Prop where
  len : l.length ≤ 5000
  each : ∀ p ∈ l, p.1.size ≤ 1000 ∧ p.2.size ≤ 1000
def ReplyV (r : Nat × ByteArray) : Value := .agg #[.int .u8 (r.1 : Int), .string r.2]
/-- Texts that are not too long for a walk, and as many. -/
structure TxtS (w : World) (v : Value) (l : List ByteArray) : Prop where
  ex : ∃ A L c, v = .slice A L c ∧ L = l.length ∧ L ≤ c ∧ HasS w A l
/-- The program's package kv; T tells what the program's own tables hold. A state is its pairs, in order. -/
structure KvK (T : World → Prop) where
  grew : ∀ {w w' : World}, T w → Below w.heap.size w w' → T w'
  Pl : (Nat → Prop) → World → Nat → List PV → Prop
  keep : ∀ {F G : Nat → Prop} {w w' : World} {R : Nat} {l : List PV}, Pl F w R l → Only G w w' → (∀ k, F k → ¬ G k) → Pl F w' R l
  lt : ∀ {F : Nat → Prop} {w : World} {R : Nat} {l : List PV}, Pl F w R l → ∀ k, F k → k < w.heap.size
  sorted : ∀ {F : Nat → Prop} {w : World} {R : Nat} {l : List PV}, Pl F w R l → SortedP l
  new : ∀ (w : World), T w → Calls Tryd.prog 8 #[] w fun e W' => ∃ F R, e = .returned (.pointer (some ⟨R, 0, none⟩)) ∧ Pl F W' R [] ∧ (∀ k, F k → w.heap.size ≤ k) ∧ Below w.heap.size w W'
  do_ : ∀ {F : Nat → Prop} {w : World} {R : Nat} {l : List PV} (v : CmdV), Pl F w R l → T w → LimP l → v.ok w → ¬ v.great → Calls Tryd.prog 9 #[.pointer (some ⟨R, 0, none⟩), v.val] w fun e W' => e = .returned (ReplyV (doP l v.m).2) ∧ ∃ F', Pl F' W' R (doP l v.m).1 ∧ Only F w W' ∧ ∀ k, F' k → F k ∨ w.heap.size ≤ k
  doNil : ∀ (w : World) (v : CmdV), T w → v.ok w → Calls Tryd.prog 9 #[.pointer none, v.val] w fun e W' => e = .returned (ReplyV (2, ⟨#[]⟩)) ∧ Below w.heap.size w W'
  get : ∀ {F : Nat → Prop} {w : World} {R : Nat} {l : List PV} (k : ByteArray), Pl F w R l → k.size ≤ maxLen → Calls Tryd.prog 12 #[.pointer (some ⟨R, 0, none⟩), .string k] w fun e W' => e = .returned (.tuple #[.string ((lookP l k).getD ⟨#[]⟩), .bool (lookP l k).isSome]) ∧ Below w.heap.size w W'
  getNil : ∀ (w : World) (k : ByteArray), k.size ≤ maxLen → Calls Tryd.prog 12 #[.pointer none, .string k] w fun e W' => e = .returned (.tuple #[.string ⟨#[]⟩, .bool false]) ∧ Below w.heap.size w W'
  len : ∀ {F : Nat → Prop} {w : World} {R : Nat} {l : List PV}, Pl F w R l → Calls Tryd.prog 14 #[.pointer (some ⟨R, 0, none⟩)] w fun e W' => e = .returned (.int .i64 (l.length : Int)) ∧ Below w.heap.size w W'
  lenNil : ∀ (w : World), Calls Tryd.prog 14 #[.pointer none] w fun e W' => e = .returned (.int .i64 0) ∧ Below w.heap.size w W'
  copy : ∀ {F : Nat → Prop} {w : World} {R : Nat} {l : List PV}, Pl F w R l → T w → LimP l → Calls Tryd.prog 11 #[.pointer (some ⟨R, 0, none⟩)] w fun e W' => ∃ F' R', e = .returned (.pointer (some ⟨R', 0, none⟩)) ∧ Pl F' W' R' l ∧ (∀ k, F' k → w.heap.size ≤ k) ∧ Below w.heap.size w W'
  copyNil : ∀ (w : World), T w → Calls Tryd.prog 11 #[.pointer none] w fun e W' => e = .returned (.pointer none) ∧ Below w.heap.size w W'
  same : ∀ {F G : Nat → Prop} {w : World} {R S : Nat} {l m : List PV}, Pl F w R l → Pl G w S m → T w → LimP l → LimP m → ∃ b : Bool, (b = true ↔ l = m) ∧ Calls Tryd.prog 13 #[.pointer (some ⟨R, 0, none⟩), .pointer (some ⟨S, 0, none⟩)] w fun e W' => e = .returned (.bool b) ∧ Below w.heap.size w W'
  sameNil : ∀ {G : Nat → Prop} {w : World} {S : Nat} {m : List PV}, Pl G w S m → T w → LimP m → ∃ b : Bool, (b = true ↔ m = []) ∧ Calls Tryd.prog 13 #[.pointer none, .pointer (some ⟨S, 0, none⟩)] w fun e W' => e = .returned (.bool b) ∧ Below w.heap.size w W'
/-- A state that came since w; nothing else changed. -/
structure LiveK {T : World → Prop} (K : KvK T) (w : World) (R : Nat) (l : List PV) (W : World) : Prop where
  ex : ∃ F, K.Pl F W R l ∧ ∀ k, F k → w.heap.size ≤ k
  below : Below w.heap.size w W
section
variable {T : World → Prop} {K : KvK T} {w W W' : World} {R : Nat} {l : List PV}
theorem LiveK.grew (h : LiveK K w R l W) (hb : Below W.heap.size W W') : LiveK K w R l W' := by
  obtain ⟨F, h1, h2⟩ := h.ex
  exact ⟨⟨F, K.keep h1 (Only.of_grew (F := fun _ => False) hb) (fun _ _ => id), h2⟩, h.below.trans (Below.mono hb h.below.size)⟩
theorem LiveK.t (h : LiveK K w R l W) (hT : T w) : T W := K.grew hT h.below
theorem LiveK.sorted (h : LiveK K w R l W) : SortedP l := by
  obtain ⟨F, h1, _⟩ := h.ex
  exact K.sorted h1
theorem LiveK.new (K : KvK T) (w : World) (hT : T w) : Calls Tryd.prog 8 #[] w fun e W' => ∃ R, e = .returned (.pointer (some ⟨R, 0, none⟩)) ∧ LiveK K w R [] W' :=
  (K.new w hT).mono fun _ _ ⟨F, R, k1, k2, k3, k4⟩ => ⟨R, k1, ⟨F, k2, k3⟩, k4⟩
theorem LiveK.since {w0 : World} (h : LiveK K w R l W) (hb : Below w0.heap.size w0 w) : LiveK K w0 R l W := by
  obtain ⟨F, h1, h2⟩ := h.ex
  exact ⟨⟨F, h1, fun k hk => Nat.le_trans hb.size (h2 k hk)⟩, hb.trans (Below.mono h.below hb.size)⟩
theorem LiveK.do_ (h : LiveK K w R l W) (hT : T w) (hl : LimP l) (v : CmdV) (hv : v.ok W) (hg : ¬ v.great) : Calls Tryd.prog 9 #[.pointer (some ⟨R, 0, none⟩), v.val] W fun e W' => e = .returned (ReplyV (doP l v.m).2) ∧ LiveK K w R (doP l v.m).1 W' := by
  obtain ⟨F, h1, h2⟩ := h.ex
  exact (K.do_ v h1 (h.t hT) hl hv hg).mono fun _ _ ⟨he, F', k1, k2, k3⟩ => ⟨he, ⟨F', k1, fun k hk => (k3 k hk).elim (h2 k) (fun h' => Nat.le_trans h.below.size h')⟩, h.below.trans (k2.below h.below.size h2)⟩
theorem LiveK.get (h : LiveK K w R l W) (k : ByteArray) (hk : k.size ≤ maxLen) : Calls Tryd.prog 12 #[.pointer (some ⟨R, 0, none⟩), .string k] W fun e W' => e = .returned (.tuple #[.string ((lookP l k).getD ⟨#[]⟩), .bool (lookP l k).isSome]) ∧ LiveK K w R l W' ∧ Below W.heap.size W W' := by
  obtain ⟨F, h1, h2⟩ := h.ex
  exact (K.get k h1 hk).mono fun _ _ ⟨he, hb⟩ => ⟨he, h.grew hb, hb⟩
theorem LiveK.len (h : LiveK K w R l W) : Calls Tryd.prog 14 #[.pointer (some ⟨R, 0, none⟩)] W fun e W' => e = .returned (.int .i64 (l.length : Int)) ∧ LiveK K w R l W' ∧ Below W.heap.size W W' := by
  obtain ⟨F, h1, h2⟩ := h.ex
  exact (K.len h1).mono fun _ _ ⟨he, hb⟩ => ⟨he, h.grew hb, hb⟩
theorem LiveK.copy (h : LiveK K w R l W) (hT : T w) (hl : LimP l) : Calls Tryd.prog 11 #[.pointer (some ⟨R, 0, none⟩)] W fun e W' => ∃ S, e = .returned (.pointer (some ⟨S, 0, none⟩)) ∧ LiveK K w R l W' ∧ LiveK K W S l W' ∧ Below W.heap.size W W' := by
  obtain ⟨F, h1, h2⟩ := h.ex
  exact (K.copy h1 (h.t hT) hl).mono fun _ _ ⟨F', S, he, k1, k2, hb⟩ => ⟨S, he, h.grew hb, ⟨⟨F', k1, k2⟩, hb⟩, hb⟩
end
end Go.Proofs.YtfkdlmokigeemaaDoor

-- KvW
namespace Go.Proofs.YtfkdlmokigeemaaDoor
open Go.RowKit

def upd {α : Type} (f : Nat → α) (i : Nat) (x : α) : Nat → α := fun j => if j = i then x else f j
theorem upd_same {α : Type} (f : Nat → α) (i : Nat) (x : α) : upd f i x i = x := if_pos rfl
theorem upd_other {α : Type} {f : Nat → α} {i j : Nat} {x : α} (h : j ≠ i) : upd f i x j = f j := if_neg h
/-- n states that came since w, apart from one another and from the blocks P. -/
structure KW {T : World → Prop} (K : KvK T) (w : World) (n : Nat) (R : Nat → Nat) (l : Nat → List PV) (P : Nat → Prop) (W : World) : Prop where
  ex : ∃ F : Nat → Nat → Prop, (∀ i, i < n → K.Pl (F i) W (R i) (l i)) ∧ (∀ i, i < n → ∀ k, F i k → w.heap.size ≤ k ∧ ¬ P k) ∧ (∀ i j, i < n → j < n → i ≠ j → ∀ k, F i k → ¬ F j k)
  below : Below w.heap.size w W
  p : ∀ k, P k → k < W.heap.size
section
variable {T : World → Prop} {K : KvK T} {w W W' : World} {n : Nat} {R : Nat → Nat} {l : Nat → List PV} {P : Nat → Prop}
theorem KW.zero (K : KvK T) (w : World) (R : Nat → Nat) (l : Nat → List PV) : KW K w 0 R l (fun _ => False) w :=
  ⟨⟨fun _ _ => False, fun _i hi => absurd hi (Nat.not_lt_zero _), fun _i hi => absurd hi (Nat.not_lt_zero _), fun _i _j hi => absurd hi (Nat.not_lt_zero _)⟩, Below.refl _ _, fun _k hk => hk.elim⟩
theorem KW.t (h : KW K w n R l P W) (hT : T w) : T W := K.grew hT h.below
theorem KW.grew (h : KW K w n R l P W) (hb : Below W.heap.size W W') : KW K w n R l P W' := by
  obtain ⟨F, h1, h2, h3⟩ := h.ex
  exact ⟨⟨F, fun i hi => K.keep (h1 i hi) (Only.of_grew (F := fun _ => False) hb) (fun _ _ => id), h2, h3⟩, h.below.trans (Below.mono hb h.below.size), fun k hk => Nat.lt_of_lt_of_le (h.p k hk) hb.size⟩
/-- A block that came since no state has. -/
theorem KW.more (h : KW K w n R l P W) (hb : Below W.heap.size W W') {q : Nat} (h1 : W.heap.size ≤ q) (h2 : q < W'.heap.size) : KW K w n R l (fun k => k = q ∨ P k) W' := by
  obtain ⟨F, f1, f2, f3⟩ := h.ex
  refine ⟨⟨F, fun i hi => K.keep (f1 i hi) (Only.of_grew (F := fun _ => False) hb) (fun _ _ => id), fun i hi k hk => ⟨(f2 i hi k hk).1, ?_⟩, f3⟩, h.below.trans (Below.mono hb h.below.size), ?_⟩
  · rintro (rfl | hp)
    · exact absurd (K.lt (f1 i hi) k hk) (Nat.not_lt.2 h1)
    · exact (f2 i hi k hk).2 hp
  · rintro k (rfl | hk)
    · exact h2
    · exact Nat.lt_of_lt_of_le (h.p k hk) hb.size
theorem KW.set (h : KW K w n R l P W) {q : Nat} (hq : P q) (hw : w.heap.size ≤ q) (i : Nat) (v : Value) : KW K w n R l P (W.setCell ⟨q, i, none⟩ v) := by
  obtain ⟨F, f1, f2, f3⟩ := h.ex
  have ho : Only (fun k => k = q) W (W.setCell ⟨q, i, none⟩ v) := (Only.refl (fun k => k = q) W).setCell (p := ⟨q, i, none⟩) (.inl rfl) v
  exact ⟨⟨F, fun i hi => K.keep (f1 i hi) ho (fun k hk e => (f2 i hi k hk).2 (by rw [show k = q from e]; exact hq)), f2, f3⟩, h.below.setCell (p := ⟨q, i, none⟩) hw v, fun k hk => by have := h.p k hk; simpa [World.setCell] using this⟩
theorem KW.new (h : KW K w n R l P W) (hT : T w) : Calls Tryd.prog 8 #[] W fun e W' => ∃ S, e = .returned (.pointer (some ⟨S, 0, none⟩)) ∧ KW K w (n + 1) (upd R n S) (upd l n []) P W' ∧ Below W.heap.size W W' := by
  obtain ⟨F, f1, f2, f3⟩ := h.ex
  refine (K.new W (h.t hT)).mono fun e W' ⟨G, S, he, k1, k2, hb⟩ => ⟨S, he, ⟨⟨upd F n G, fun i hi => ?_, fun i hi k hk => ?_, fun i j hi hj hij k hk => ?_⟩, h.below.trans (Below.mono hb h.below.size), fun k hk => Nat.lt_of_lt_of_le (h.p k hk) hb.size⟩, hb⟩
  · by_cases hin : i = n
    · subst hin; rw [upd_same, upd_same, upd_same]; exact k1
    · rw [upd_other hin, upd_other hin, upd_other hin]
      exact K.keep (f1 i (by omega)) (Only.of_grew (F := fun _ => False) hb) (fun _ _ => id)
  · by_cases hin : i = n
    · subst hin; rw [upd_same] at hk
      exact ⟨Nat.le_trans h.below.size (k2 k hk), fun hp => absurd (h.p k hp) (Nat.not_lt.2 (k2 k hk))⟩
    · rw [upd_other hin] at hk; exact f2 i (by omega) k hk
  · by_cases hin : i = n
    · subst hin; rw [upd_same] at hk; rw [upd_other (Ne.symm hij)]
      exact fun hf => absurd (K.lt (f1 j (by omega)) k hf) (Nat.not_lt.2 (k2 k hk))
    · rw [upd_other hin] at hk
      by_cases hjn : j = n
      · subst hjn; rw [upd_same]
        exact fun hg => absurd (K.lt (f1 i (by omega)) k hk) (Nat.not_lt.2 (k2 k hg))
      · rw [upd_other hjn]; exact f3 i j (by omega) (by omega) hij k hk
theorem KW.copy (h : KW K w n R l P W) (hT : T w) (i : Nat) (hi : i < n) (hl : LimP (l i)) : Calls Tryd.prog 11 #[.pointer (some ⟨R i, 0, none⟩)] W fun e W' => ∃ S, e = .returned (.pointer (some ⟨S, 0, none⟩)) ∧ KW K w (n + 1) (upd R n S) (upd l n (l i)) P W' ∧ Below W.heap.size W W' := by
  obtain ⟨F, f1, f2, f3⟩ := h.ex
  refine (K.copy (f1 i hi) (h.t hT) hl).mono fun e W' ⟨G, S, he, k1, k2, hb⟩ => ⟨S, he, ⟨⟨upd F n G, fun i hi => ?_, fun i hi k hk => ?_, fun i j hi hj hij k hk => ?_⟩, h.below.trans (Below.mono hb h.below.size), fun k hk => Nat.lt_of_lt_of_le (h.p k hk) hb.size⟩, hb⟩
  · by_cases hin : i = n
    · subst hin; rw [upd_same, upd_same, upd_same]; exact k1
    · rw [upd_other hin, upd_other hin, upd_other hin]
      exact K.keep (f1 i (by omega)) (Only.of_grew (F := fun _ => False) hb) (fun _ _ => id)
  · by_cases hin : i = n
    · subst hin; rw [upd_same] at hk
      exact ⟨Nat.le_trans h.below.size (k2 k hk), fun hp => absurd (h.p k hp) (Nat.not_lt.2 (k2 k hk))⟩
    · rw [upd_other hin] at hk; exact f2 i (by omega) k hk
  · by_cases hin : i = n
    · subst hin; rw [upd_same] at hk; rw [upd_other (Ne.symm hij)]
      exact fun hf => absurd (K.lt (f1 j (by omega)) k hf) (Nat.not_lt.2 (k2 k hk))
    · rw [upd_other hin] at hk
      by_cases hjn : j = n
      · subst hjn; rw [upd_same]
        exact fun hg => absurd (K.lt (f1 i (by omega)) k hk) (Nat.not_lt.2 (k2 k hg))
      · rw [upd_other hjn]; exact f3 i j (by omega) (by omega) hij k hk
/-- What the blocks P hold stays. -/
def Still (P : Nat → Prop) (W W' : World) : Prop := ∀ k, P k → W'.heap[k]? = W.heap[k]?
theorem KW.do_ (h : KW K w n R l P W) (hT : T w) (i : Nat) (hi : i < n) (hl : LimP (l i)) (v : CmdV) (hv : v.ok W) (hg : ¬ v.great) : Calls Tryd.prog 9 #[.pointer (some ⟨R i, 0, none⟩), v.val] W fun e W' => e = .returned (ReplyV (doP (l i) v.m).2) ∧ KW K w n R (upd l i (doP (l i) v.m).1) P W' ∧ Still P W W' := by
  obtain ⟨F, f1, f2, f3⟩ := h.ex
  refine (K.do_ v (f1 i hi) (h.t hT) hl hv hg).mono fun e W' ⟨he, G, k1, k2, k3⟩ => ⟨he, ⟨⟨upd F i G, fun j hj => ?_, fun j hj k hk => ?_, fun a b ha hb hab k hk => ?_⟩, h.below.trans (k2.below h.below.size fun x hx => (f2 i hi x hx).1), fun k hk => Nat.lt_of_lt_of_le (h.p k hk) k2.size⟩, fun k hk => k2.block k (h.p k hk) (fun hf => (f2 i hi k hf).2 hk)⟩
  · by_cases hji : j = i
    · subst hji; rw [upd_same, upd_same]; exact k1
    · rw [upd_other hji, upd_other hji]
      exact K.keep (f1 j hj) k2 fun k hk => f3 j i hj hi hji k hk
  · by_cases hji : j = i
    · subst hji; rw [upd_same] at hk
      rcases k3 k hk with h' | h'
      · exact f2 j hj k h'
      · exact ⟨Nat.le_trans h.below.size h', fun hp => absurd (h.p k hp) (Nat.not_lt.2 h')⟩
    · rw [upd_other hji] at hk; exact f2 j hj k hk
  · by_cases hai : a = i
    · subst hai; rw [upd_same] at hk; rw [upd_other (Ne.symm hab)]
      rcases k3 k hk with h' | h'
      · exact f3 a b ha hb hab k h'
      · exact fun hf => absurd (K.lt (f1 b hb) k hf) (Nat.not_lt.2 h')
    · rw [upd_other hai] at hk
      by_cases hbi : b = i
      · subst hbi; rw [upd_same]
        intro hg
        rcases k3 k hg with h' | h'
        · exact f3 a b ha hb hab k hk h'
        · exact absurd (K.lt (f1 a ha) k hk) (Nat.not_lt.2 h')
      · rw [upd_other hbi]; exact f3 a b ha hb hab k hk
theorem KW.get (h : KW K w n R l P W) (i : Nat) (hi : i < n) (k : ByteArray) (hk : k.size ≤ maxLen) : Calls Tryd.prog 12 #[.pointer (some ⟨R i, 0, none⟩), .string k] W fun e W' => e = .returned (.tuple #[.string ((lookP (l i) k).getD ⟨#[]⟩), .bool (lookP (l i) k).isSome]) ∧ KW K w n R l P W' ∧ Below W.heap.size W W' := by
  obtain ⟨F, f1, f2, f3⟩ := h.ex
  exact (K.get k (f1 i hi) hk).mono fun _ _ ⟨he, hb⟩ => ⟨he, h.grew hb, hb⟩
theorem KW.len (h : KW K w n R l P W) (i : Nat) (hi : i < n) : Calls Tryd.prog 14 #[.pointer (some ⟨R i, 0, none⟩)] W fun e W' => e = .returned (.int .i64 ((l i).length : Int)) ∧ KW K w n R l P W' ∧ Below W.heap.size W W' := by
  obtain ⟨F, f1, f2, f3⟩ := h.ex
  exact (K.len (f1 i hi)).mono fun _ _ ⟨he, hb⟩ => ⟨he, h.grew hb, hb⟩
theorem KW.same (h : KW K w n R l P W) (hT : T w) (i j : Nat) (hi : i < n) (hj : j < n) (hl : LimP (l i)) (hm : LimP (l j)) : ∃ b : Bool, (b = true ↔ l i = l j) ∧ Calls Tryd.prog 13 #[.pointer (some ⟨R i, 0, none⟩), .pointer (some ⟨R j, 0, none⟩)] W fun e W' => e = .returned (.bool b) ∧ KW K w n R l P W' ∧ Below W.heap.size W W' := by
  obtain ⟨F, f1, f2, f3⟩ := h.ex
  obtain ⟨b, hb, hc⟩ := K.same (f1 i hi) (f1 j hj) (h.t hT) hl hm
  exact ⟨b, hb, hc.mono fun _ _ ⟨he, hb⟩ => ⟨he, h.grew hb, hb⟩⟩
theorem KW.sorted (h : KW K w n R l P W) (i : Nat) (hi : i < n) : SortedP (l i) := by
  obtain ⟨F, f1, _⟩ := h.ex
  exact K.sorted (f1 i hi)
end
end Go.Proofs.YtfkdlmokigeemaaDoor

-- KvWkM
namespace Go.Proofs.YtfkdlmokigeemaaDoor
open Go.RowKit

abbrev kA : ByteArray := ⟨#[97]⟩
abbrev kB : ByteArray := ⟨#[98]⟩
abbrev k7 : ByteArray := ⟨#[55]⟩
abbrev kM2 : ByteArray := ⟨#[45, 50]⟩
abbrev kE : ByteArray := ⟨#[]⟩
def wm1 : CM := ⟨1, 0, 1, [kA], kE, k7, 0⟩
def wm2 : CM := ⟨1, 0, 4, [kA], kE, kE, -9⟩
def wm3 : CM := ⟨1, 0, 6, [kA, kB], kE, kE, 0⟩
def wm4 : CM := ⟨1, 0, 2, [kA], kE, kE, 0⟩
def wm5 : CM := ⟨1, 0, 7, [kA, kB], kE, kE, 0⟩
theorem each1 : ∀ k ∈ [kA], 1 ≤ k.size ∧ k.size ≤ 32 := fun k hk => by
  obtain rfl : k = kA := by simpa using hk
  decide
theorem each2 : ∀ k ∈ [kA, kB], 1 ≤ k.size ∧ k.size ≤ 32 := fun k hk => by
  have : k = kA ∨ k = kB := by simpa using hk
  rcases this with rfl | rfl <;> decide
theorem may1 : wm1.may = true := CM.may_iff.2 ⟨by decide, each1, by decide, by decide, by decide, by decide, by decide, by decide, by decide⟩
theorem may2 : wm2.may = true := CM.may_iff.2 ⟨by decide, each1, by decide, by decide, by decide, by decide, by decide, by decide, by decide⟩
theorem may3 : wm3.may = true := CM.may_iff.2 ⟨by decide, each2, by decide, by decide, by decide, by decide, by decide, by decide, by decide⟩
theorem may4 : wm4.may = true := CM.may_iff.2 ⟨by decide, each1, by decide, by decide, by decide, by decide, by decide, by decide, by decide⟩
theorem may5 : wm5.may = true := CM.may_iff.2 ⟨by decide, each2, by decide, by decide, by decide, by decide, by decide, by decide, by decide⟩
theorem wd1 : doP [] wm1 = ([(kA, k7)], 0, kE) := by
  rw [doP_put may1 rfl (show keyP wm1.ks 0 = kA from rfl)]
  rfl
theorem look_one {a b v : ByteArray} (h : a ≠ b) : lookP [(a, v)] b = none := by rw [lookP_cons, if_neg h]; rfl
theorem look_own (a v : ByteArray) : lookP [(a, v)] a = some v := by rw [lookP_cons, if_pos rfl]
theorem num7 : numM k7.data.toList = some 7 := by
  have : k7.data.toList = [55] := rfl
  rw [this, numM, if_neg (by decide), numD, if_neg (by unfold badD; decide), if_neg (by decide), if_neg (by decide), if_pos (by decide)]
  rfl
theorem dec2 : decI (-2) = [45, 50] := by
  unfold decI
  rw [decN]
  decide
theorem wd2 : doP [(kA, k7)] wm2 = ([(kA, kM2)], 0, kM2) := by
  rw [doP_add may2 rfl (show keyP wm2.ks 0 = kA from rfl)]
  have h1 : seedP [(kA, k7)] kA = some 7 := by rw [seedP, look_own]; exact num7
  have h2 : sumP [(kA, k7)] kA wm2.n = some (-2) := by rw [sumP_some h1]; rfl
  unfold addP
  rw [h2]
  show (withP [(kA, k7)] kA (str (decI (-2))), 0, str (decI (-2))) = _
  rw [dec2]
  rfl
theorem ne_ab : kA ≠ kB := by decide
theorem wd3 : doP [(kA, kM2)] wm3 = ([(kB, kM2)], 0, kE) := by
  rw [doP_swap may3 rfl (show keyP wm3.ks 0 = kA from rfl) (show keyP wm3.ks 1 = kB from rfl)]
  unfold swapP
  rw [look_own, look_one ne_ab]
  rfl
theorem wd4 : doP [(kB, kM2)] wm4 = ([(kB, kM2)], 1, kE) := doP_get0 may4 rfl (show keyP wm4.ks 0 = kA from rfl) (look_one (Ne.symm ne_ab))
theorem wd5 : doP [(kB, kM2)] wm5 = ([(kB, kM2)], 0, ⟨#[44, 45, 50, 44]⟩) := by
  rw [doP_join may5 rfl]
  have : joinP [(kB, kM2)] wm5.ks = [44, 45, 50, 44] := by
    show joinP [(kB, kM2)] [kA, kB] = _
    unfold joinP
    rw [List.flatMap_cons, List.flatMap_cons, look_one (Ne.symm ne_ab), look_own]
    rfl
  rw [this]
  rfl
end Go.Proofs.YtfkdlmokigeemaaDoor

-- KvWk
namespace Go.Proofs.YtfkdlmokigeemaaDoor
open Go.RowKit

/-- A command that is known; its keys lie in block S. -/
def wv (S kd L : Nat) (ks : List ByteArray) (new : ByteArray) (n : Int) : CmdV := ⟨1, 0, kd, some ⟨S, 0, none⟩, L, L, ks, kE, new, n⟩
theorem wv_ok {w : World} {S kd L : Nat} {ks : List ByteArray} {new : ByteArray} {n : Int} (hk : kd < 256) (hL : L = ks.length) (hL2 : L ≤ 2) (hn : -9223372036854775808 ≤ n ∧ n ≤ 9223372036854775807) (hnew : new.size ≤ 64) (hks : ∀ k ∈ ks, k.size ≤ 64)
    (h : ∃ cs, w.heap[S]? = some (.cells cs 9 (0, 0)) ∧ ∀ j (hj : j < ks.length), cs[j]? = some (.string ks[j])) : (wv S kd L ks new n).ok w := by
  obtain ⟨cs, h1, h2⟩ := h
  exact ⟨by show 1 < 4294967296; omega, by show 0 < 4294967296; omega, hk, hn, hL, by show L ≤ _; omega, fun _ => ⟨S, 0, rfl, (Array.getElem?_eq_some_iff.1 h1).1, fun j hj => by rw [blk_cell h1, Nat.zero_add]; exact h2 j hj⟩, fun k hk => by have := hks k hk; simp only [maxLen]; omega, by show kE.size ≤ _; simp only [maxLen]; decide, by show new.size ≤ _; simp only [maxLen]; omega⟩
theorem wv_small {S kd L : Nat} {ks : List ByteArray} {new : ByteArray} {n : Int} (hL2 : ks.length ≤ 2) (hnew : new.size ≤ 64) (hks : ∀ k ∈ ks, k.size ≤ 64) : ¬ (wv S kd L ks new n).great := by
  rintro (h | h | h | ⟨j, hj, h⟩)
  · revert h; show ¬ 500 < kE.size; decide
  · have h' : 500 < new.size := h; omega
  · have h' : 100 < ks.length := h; omega
  · have h' : 500 < (ks[j]'hj).size := h
    have := hks _ (List.getElem_mem hj)
    omega
theorem sm1 : ∀ k ∈ [kA], k.size ≤ 64 := fun k hk => by have := each1 k hk; omega
theorem sm2 : ∀ k ∈ [kA, kB], k.size ≤ 64 := fun k hk => by have := each2 k hk; omega
theorem blk1 (V : World) : ∃ cs, (V.alloc (.cells #[.string kA] 9)).heap[V.heap.size]? = some (.cells cs 9 (0, 0)) ∧ ∀ j (hj : j < [kA].length), cs[j]? = some (.string ([kA][j])) :=
  ⟨_, World.alloc_heap_new V _, fun j hj => by
    have : j = 0 := by simp at hj; omega
    subst this
    rfl⟩
theorem blk2 (V : World) : ∃ cs, (V.alloc (.cells #[.string kA, .string kB] 9)).heap[V.heap.size]? = some (.cells cs 9 (0, 0)) ∧ ∀ j (hj : j < [kA, kB].length), cs[j]? = some (.string ([kA, kB][j])) :=
  ⟨_, World.alloc_heap_new V _, fun j hj => by
    have : j = 0 ∨ j = 1 := by simp at hj; omega
    rcases this with rfl | rfl <;> rfl⟩
theorem limP_one {a b : ByteArray} (h1 : a.size ≤ 1000) (h2 : b.size ≤ 1000) : LimP [(a, b)] := ⟨by simp, fun p hp => by
  have : p = (a, b) := by simpa using hp
  subst this
  exact ⟨h1, h2⟩⟩
theorem limP_nil : LimP [] := ⟨by simp, fun p hp => by cases hp⟩
/-- The reply that a block bears. -/
def RepAt (W : World) (q c : Nat) (t : ByteArray) : Prop := W.heap[q]? = some (.cells #[.int .u8 (c : Int), .string t] 33 (0, 0))
theorem rep_new {V : World} (c : Nat) (t : ByteArray) : RepAt (V.alloc (.cells #[.int .u8 (c : Int), .string t] 33)) V.heap.size c t :=
  World.alloc_heap_new V _
section
variable {T : World → Prop} {K : KvK T} {w V : World} {n : Nat} {R : Nat → Nat} {l : Nat → List PV} {P : Nat → Prop}
theorem KW.rep (h : KW K w n R l P V) (c : Nat) (t : ByteArray) : KW K w n R l (fun k => k = V.heap.size ∨ P k) (V.alloc (.cells #[.int .u8 (c : Int), .string t] 33)) :=
  h.more ((Below.refl _ V).alloc (Nat.le_refl _) _) (Nat.le_refl _) (by simp)
theorem rep_keep {W W' : World} {q c : Nat} {t : ByteArray} (h : RepAt W q c t) (hb : W'.heap[q]? = W.heap[q]?) : RepAt W' q c t := hb.trans h
end
/-- The world behind a reply that was stored. -/
def repW (V : World) (c : Nat) (t : ByteArray) : World := V.alloc (.cells #[.int .u8 (c : Int), .string t] 33)
theorem repW_old {V : World} {c : Nat} {t : ByteArray} {k : Nat} (hk : k < V.heap.size) : (repW V c t).heap[k]? = V.heap[k]? := Below.heap_alloc _ _ _ hk
set_option maxRecDepth 100000 in
set_option maxHeartbeats 4000000 in
theorem wakes9_any {T : World → Prop} (K : KvK T) (w : World) (hT : T w) : Calls Tryd.prog 5 #[] w fun e W' => e = .returned (.bool true) ∧ Below w.heap.size w W' := by
  have HT := Lib.hid hT
  clear hT
  go_enter Tryd.func5, Tryd.ntmps5
  go_wp2_with fail
  refine ((KW.zero K w (fun _ => 0) (fun _ => [])).new HT.out).mono ?_
  rintro e V0 ⟨S0, rfl, h0, -⟩
  have H0 := Lib.hid h0
  clear h0
  go_upto_region 2 with (fail)
  have hg1 : Below V0.heap.size V0 (V0.alloc (.cells #[.string kA] 9)) := (Below.refl _ _).alloc (Nat.le_refl _) _
  have hd1 := (H0.out.grew hg1).do_ HT.out 0 (by omega) limP_nil (wv V0.heap.size 1 1 [kA] k7 0) (wv_ok (by decide) (by decide) (by decide) (by decide) (by decide) sm1 (blk1 V0)) (wv_small (by decide) (by decide) sm1)
  have HD1 := Lib.hid hd1
  have HG1 := Lib.hid hg1
  clear hd1 hg1
  go_wp2_with fail
  refine HD1.out.mono ?_
  rintro e U1 ⟨he, hk1, hst1⟩
  have he2 : e = .returned (ReplyV (0, kE)) := he.trans (congrArg (fun z : List PV × Nat × ByteArray => Ending.returned (ReplyV z.2)) wd1)
  subst he2
  clear he
  simp only [ReplyV]
  have K1 : Hid (∃ l' : Nat → List PV, l' 0 = [(kA, k7)] ∧ KW K w 1 (upd (fun _ => 0) 0 S0) l' (fun _ => False) U1) := Lib.hid ⟨_, congrArg Prod.fst wd1, hk1⟩
  have ST1 := Lib.hid hst1
  clear hk1 hst1 HD1
  clear  HG1 ST1
  obtain ⟨l1, hl1, hK1⟩ := K1.out
  go_upto_region 3 with (fail)
  obtain ⟨V1, hV1⟩ : ∃ V1, V1 = U1.alloc (.cells #[.int .u8 0, .string kE] 33) := ⟨_, rfl⟩
  rw [← hV1]
  have hW1 : V1 = repW U1 0 kE := hV1
  have hR1 : RepAt V1 U1.heap.size 0 kE := by rw [hW1]; exact rep_new 0 kE
  have hP1 := hK1.rep 0 kE
  have hP1' : KW K w 1 (upd (fun _ => 0) 0 S0) l1 (fun k => k = U1.heap.size ∨ (fun _ => False) k) V1 := by rw [hW1]; exact hP1
  obtain ⟨q1, hq1⟩ : ∃ q, q = U1.heap.size := ⟨_, rfl⟩
  rw [← hq1] at hR1 hP1' ⊢
  have RR1 := Lib.hid hR1
  have H1 := Lib.hid hP1'
  have E1 := Lib.hid hl1
  clear hV1 hW1 hR1 hP1 hP1' hq1 hK1 hl1  K1
  have hg2 : Below V1.heap.size V1 (V1.alloc (.cells #[.string kA] 9)) := (Below.refl _ _).alloc (Nat.le_refl _) _
  have hd2 := (H1.out.grew hg2).do_ HT.out 0 (by omega) (by rw [E1.out]; exact (limP_one (by decide) (by decide))) (wv V1.heap.size 4 1 [kA] kE (-9)) (wv_ok (by decide) (by decide) (by decide) (by decide) (by decide) sm1 (blk1 V1)) (wv_small (by decide) (by decide) sm1)
  have HD2 := Lib.hid hd2
  have HG2 := Lib.hid hg2
  clear hd2 hg2
  go_wp2_with fail
  refine HD2.out.mono ?_
  rintro e U2 ⟨he, hk2, hst2⟩
  have he2 : e = .returned (ReplyV (0, kM2)) := he.trans (by rw [E1.out]; exact congrArg (fun z : List PV × Nat × ByteArray => Ending.returned (ReplyV z.2)) wd2)
  subst he2
  clear he
  simp only [ReplyV]
  have K2 : Hid (∃ l' : Nat → List PV, l' 0 = [(kA, kM2)] ∧ KW K w 1 (upd (fun _ => 0) 0 S0) l' (fun k => k = q1 ∨ (fun _ => False) k) U2) := Lib.hid ⟨_, (by rw [upd_same, E1.out]; exact congrArg Prod.fst wd2), hk2⟩
  have ST2 := Lib.hid hst2
  clear hk2 hst2 HD2
  have R1_2 : Hid (RepAt U2 q1 0 kE) := Lib.hid (rep_keep (rep_keep RR1.out (HG2.out.block _ (H1.out.p _ (.inl rfl)))) (ST2.out _ (.inl rfl)))
  clear RR1 HG2 ST2
  obtain ⟨l2, hl2, hK2⟩ := K2.out
  go_upto_region 4 with (fail)
  obtain ⟨V2, hV2⟩ : ∃ V2, V2 = U2.alloc (.cells #[.int .u8 0, .string kM2] 33) := ⟨_, rfl⟩
  rw [← hV2]
  have hW2 : V2 = repW U2 0 kM2 := hV2
  have hR2 : RepAt V2 U2.heap.size 0 kM2 := by rw [hW2]; exact rep_new 0 kM2
  have hP2 := hK2.rep 0 kM2
  have hP2' : KW K w 1 (upd (fun _ => 0) 0 S0) l2 (fun k => k = U2.heap.size ∨ (fun k => k = q1 ∨ (fun _ => False) k) k) V2 := by rw [hW2]; exact hP2
  have RR1 : Hid (RepAt V2 q1 0 kE) := Lib.hid (rep_keep R1_2.out (by rw [hW2]; exact repW_old (hK2.p _ (.inl rfl))))
  obtain ⟨q2, hq2⟩ : ∃ q, q = U2.heap.size := ⟨_, rfl⟩
  rw [← hq2] at hR2 hP2' ⊢
  have RR2 := Lib.hid hR2
  have H2 := Lib.hid hP2'
  have E2 := Lib.hid hl2
  clear hV2 hW2 hR2 hP2 hP2' hq2 hK2 hl2 R1_2 K2
  have hg3 : Below V2.heap.size V2 (V2.alloc (.cells #[.string kA, .string kB] 9)) := (Below.refl _ _).alloc (Nat.le_refl _) _
  have hd3 := (H2.out.grew hg3).do_ HT.out 0 (by omega) (by rw [E2.out]; exact (limP_one (by decide) (by decide))) (wv V2.heap.size 6 2 [kA, kB] kE 0) (wv_ok (by decide) (by decide) (by decide) (by decide) (by decide) sm2 (blk2 V2)) (wv_small (by decide) (by decide) sm2)
  have HD3 := Lib.hid hd3
  have HG3 := Lib.hid hg3
  clear hd3 hg3
  go_wp2_with fail
  refine HD3.out.mono ?_
  rintro e U3 ⟨he, hk3, hst3⟩
  have he2 : e = .returned (ReplyV (0, kE)) := he.trans (by rw [E2.out]; exact congrArg (fun z : List PV × Nat × ByteArray => Ending.returned (ReplyV z.2)) wd3)
  subst he2
  clear he
  simp only [ReplyV]
  have K3 : Hid (∃ l' : Nat → List PV, l' 0 = [(kB, kM2)] ∧ KW K w 1 (upd (fun _ => 0) 0 S0) l' (fun k => k = q2 ∨ (fun k => k = q1 ∨ (fun _ => False) k) k) U3) := Lib.hid ⟨_, (by rw [upd_same, E2.out]; exact congrArg Prod.fst wd3), hk3⟩
  have ST3 := Lib.hid hst3
  clear hk3 hst3 HD3
  have R2_3 : Hid (RepAt U3 q2 0 kM2) := Lib.hid (rep_keep (rep_keep RR2.out (HG3.out.block _ (H2.out.p _ (.inl rfl)))) (ST3.out _ (.inl rfl)))
  have R1_3 : Hid (RepAt U3 q1 0 kE) := Lib.hid (rep_keep (rep_keep RR1.out (HG3.out.block _ (H2.out.p _ (.inr (.inl rfl))))) (ST3.out _ (.inr (.inl rfl))))
  clear RR2 RR1 HG3 ST3
  obtain ⟨l3, hl3, hK3⟩ := K3.out
  go_upto_region 5 with (fail)
  have RR2 := R2_3
  have RR1 := R1_3
  have H3 := Lib.hid hK3
  have E3 := Lib.hid hl3
  clear hK3 hl3 K3 R2_3 R1_3
  have hg4 : Below U3.heap.size U3 (U3.alloc (.cells #[.string kA] 9)) := (Below.refl _ _).alloc (Nat.le_refl _) _
  have hd4 := (H3.out.grew hg4).do_ HT.out 0 (by omega) (by rw [E3.out]; exact (limP_one (by decide) (by decide))) (wv U3.heap.size 2 1 [kA] kE 0) (wv_ok (by decide) (by decide) (by decide) (by decide) (by decide) sm1 (blk1 U3)) (wv_small (by decide) (by decide) sm1)
  have HD4 := Lib.hid hd4
  have HG4 := Lib.hid hg4
  clear hd4 hg4
  go_wp2_with fail
  refine HD4.out.mono ?_
  rintro e U4 ⟨he, hk4, hst4⟩
  have he2 : e = .returned (ReplyV (1, kE)) := he.trans (by rw [E3.out]; exact congrArg (fun z : List PV × Nat × ByteArray => Ending.returned (ReplyV z.2)) wd4)
  subst he2
  clear he
  simp only [ReplyV]
  have K4 : Hid (∃ l' : Nat → List PV, l' 0 = [(kB, kM2)] ∧ KW K w 1 (upd (fun _ => 0) 0 S0) l' (fun k => k = q2 ∨ (fun k => k = q1 ∨ (fun _ => False) k) k) U4) := Lib.hid ⟨_, (by rw [upd_same, E3.out]; exact congrArg Prod.fst wd4), hk4⟩
  have ST4 := Lib.hid hst4
  clear hk4 hst4 HD4
  have R2_4 : Hid (RepAt U4 q2 0 kM2) := Lib.hid (rep_keep (rep_keep RR2.out (HG4.out.block _ (H3.out.p _ (.inl rfl)))) (ST4.out _ (.inl rfl)))
  have R1_4 : Hid (RepAt U4 q1 0 kE) := Lib.hid (rep_keep (rep_keep RR1.out (HG4.out.block _ (H3.out.p _ (.inr (.inl rfl))))) (ST4.out _ (.inr (.inl rfl))))
  clear RR2 RR1 HG4 ST4
  obtain ⟨l4, hl4, hK4⟩ := K4.out
  go_upto_region 6 with (fail)
  obtain ⟨V4, hV4⟩ : ∃ V4, V4 = U4.alloc (.cells #[.int .u8 1, .string kE] 33) := ⟨_, rfl⟩
  rw [← hV4]
  have hW4 : V4 = repW U4 1 kE := hV4
  have hR4 : RepAt V4 U4.heap.size 1 kE := by rw [hW4]; exact rep_new 1 kE
  have hP4 := hK4.rep 1 kE
  have hP4' : KW K w 1 (upd (fun _ => 0) 0 S0) l4 (fun k => k = U4.heap.size ∨ (fun k => k = q2 ∨ (fun k => k = q1 ∨ (fun _ => False) k) k) k) V4 := by rw [hW4]; exact hP4
  have RR2 : Hid (RepAt V4 q2 0 kM2) := Lib.hid (rep_keep R2_4.out (by rw [hW4]; exact repW_old (hK4.p _ (.inl rfl))))
  have RR1 : Hid (RepAt V4 q1 0 kE) := Lib.hid (rep_keep R1_4.out (by rw [hW4]; exact repW_old (hK4.p _ (.inr (.inl rfl)))))
  obtain ⟨q4, hq4⟩ : ∃ q, q = U4.heap.size := ⟨_, rfl⟩
  rw [← hq4] at hR4 hP4' ⊢
  have RR4 := Lib.hid hR4
  have H4 := Lib.hid hP4'
  have E4 := Lib.hid hl4
  clear hV4 hW4 hR4 hP4 hP4' hq4 hK4 hl4 R2_4 R1_4 K4
  have hg5 : Below V4.heap.size V4 (V4.alloc (.cells #[.string kA, .string kB] 9)) := (Below.refl _ _).alloc (Nat.le_refl _) _
  have hd5 := (H4.out.grew hg5).do_ HT.out 0 (by omega) (by rw [E4.out]; exact (limP_one (by decide) (by decide))) (wv V4.heap.size 7 2 [kA, kB] kE 0) (wv_ok (by decide) (by decide) (by decide) (by decide) (by decide) sm2 (blk2 V4)) (wv_small (by decide) (by decide) sm2)
  have HD5 := Lib.hid hd5
  have HG5 := Lib.hid hg5
  clear hd5 hg5
  go_wp2_with fail
  refine HD5.out.mono ?_
  rintro e U5 ⟨he, hk5, hst5⟩
  have he2 : e = .returned (ReplyV (0, ⟨#[44, 45, 50, 44]⟩)) := he.trans (by rw [E4.out]; exact congrArg (fun z : List PV × Nat × ByteArray => Ending.returned (ReplyV z.2)) wd5)
  subst he2
  clear he
  simp only [ReplyV]
  have K5 : Hid (∃ l' : Nat → List PV, l' 0 = [(kB, kM2)] ∧ KW K w 1 (upd (fun _ => 0) 0 S0) l' (fun k => k = q4 ∨ (fun k => k = q2 ∨ (fun k => k = q1 ∨ (fun _ => False) k) k) k) U5) := Lib.hid ⟨_, (by rw [upd_same, E4.out]; exact congrArg Prod.fst wd5), hk5⟩
  have ST5 := Lib.hid hst5
  clear hk5 hst5 HD5
  have R4_5 : Hid (RepAt U5 q4 1 kE) := Lib.hid (rep_keep (rep_keep RR4.out (HG5.out.block _ (H4.out.p _ (.inl rfl)))) (ST5.out _ (.inl rfl)))
  have R2_5 : Hid (RepAt U5 q2 0 kM2) := Lib.hid (rep_keep (rep_keep RR2.out (HG5.out.block _ (H4.out.p _ (.inr (.inl rfl))))) (ST5.out _ (.inr (.inl rfl))))
  have R1_5 : Hid (RepAt U5 q1 0 kE) := Lib.hid (rep_keep (rep_keep RR1.out (HG5.out.block _ (H4.out.p _ (.inr (.inr (.inl rfl)))))) (ST5.out _ (.inr (.inr (.inl rfl)))))
  clear RR4 RR2 RR1 HG5 ST5
  obtain ⟨l5, hl5, hK5⟩ := K5.out
  go_upto_region 7 with (fail)
  obtain ⟨V5, hV5⟩ : ∃ V5, V5 = U5.alloc (.cells #[.int .u8 0, .string ⟨#[44, 45, 50, 44]⟩] 33) := ⟨_, rfl⟩
  rw [← hV5]
  have hW5 : V5 = repW U5 0 ⟨#[44, 45, 50, 44]⟩ := hV5
  have hR5 : RepAt V5 U5.heap.size 0 ⟨#[44, 45, 50, 44]⟩ := by rw [hW5]; exact rep_new 0 ⟨#[44, 45, 50, 44]⟩
  have hP5 := hK5.rep 0 ⟨#[44, 45, 50, 44]⟩
  have hP5' : KW K w 1 (upd (fun _ => 0) 0 S0) l5 (fun k => k = U5.heap.size ∨ (fun k => k = q4 ∨ (fun k => k = q2 ∨ (fun k => k = q1 ∨ (fun _ => False) k) k) k) k) V5 := by rw [hW5]; exact hP5
  have RR4 : Hid (RepAt V5 q4 1 kE) := Lib.hid (rep_keep R4_5.out (by rw [hW5]; exact repW_old (hK5.p _ (.inl rfl))))
  have RR2 : Hid (RepAt V5 q2 0 kM2) := Lib.hid (rep_keep R2_5.out (by rw [hW5]; exact repW_old (hK5.p _ (.inr (.inl rfl)))))
  have RR1 : Hid (RepAt V5 q1 0 kE) := Lib.hid (rep_keep R1_5.out (by rw [hW5]; exact repW_old (hK5.p _ (.inr (.inr (.inl rfl))))))
  obtain ⟨q5, hq5⟩ : ∃ q, q = U5.heap.size := ⟨_, rfl⟩
  rw [← hq5] at hR5 hP5' ⊢
  have RR5 := Lib.hid hR5
  have H5 := Lib.hid hP5'
  have E5 := Lib.hid hl5
  clear hV5 hW5 hR5 hP5 hP5' hq5 hK5 hl5 R4_5 R2_5 R1_5 K5
  have b5 : V5.heap[q5]? = _ := RR5.out
  have c50 : V5.cell? ⟨q5, 0, none⟩ = some (.int .u8 0) := by rw [blk_cell b5 0]; rfl
  have c51 : V5.cell? ⟨q5, 1, none⟩ = some (.string ⟨#[44, 45, 50, 44]⟩) := by rw [blk_cell b5 1]; rfl
  clear b5
  have b4 : V5.heap[q4]? = _ := RR4.out
  have c40 : V5.cell? ⟨q4, 0, none⟩ = some (.int .u8 1) := by rw [blk_cell b4 0]; rfl
  have c41 : V5.cell? ⟨q4, 1, none⟩ = some (.string kE) := by rw [blk_cell b4 1]; rfl
  clear b4
  have b2 : V5.heap[q2]? = _ := RR2.out
  have c20 : V5.cell? ⟨q2, 0, none⟩ = some (.int .u8 0) := by rw [blk_cell b2 0]; rfl
  have c21 : V5.cell? ⟨q2, 1, none⟩ = some (.string kM2) := by rw [blk_cell b2 1]; rfl
  clear b2
  have b1 : V5.heap[q1]? = _ := RR1.out
  have c10 : V5.cell? ⟨q1, 0, none⟩ = some (.int .u8 0) := by rw [blk_cell b1 0]; rfl
  have c11 : V5.cell? ⟨q1, 1, none⟩ = some (.string kE) := by rw [blk_cell b1 1]; rfl
  clear b1
  go_wp2_with fail
  refine (H5.out.len 0 (by omega)).mono ?_
  rintro e V6 ⟨rfl, h6, hb6⟩
  have H6 := Lib.hid h6
  clear h6 hb6
  have hlen : (l5 0).length = 1 := by rw [E5.out]; rfl
  simp only [hlen]
  go_wp2
  go_ret
  exact ⟨rfl, H6.out.below⟩
end Go.Proofs.YtfkdlmokigeemaaDoor
