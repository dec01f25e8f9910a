/- What the walks of the laws on commands ask of the program's package cmd. -/
import Derived.Test.YtfaplmpenlbajaaDoorCmMay
import Derived.Test.YtfaplmpenlbajaaDoorCmGreat
import Derived.Test.YtfaplmpenlbajaaDoorRdU
namespace Go.Proofs.YtfaplmpenlbajaaDoor
open Go.RowKit

/-- A slice of the bytes X, within its capacity. -/
def IsBc (w : World) (v : Value) (X : List UInt8) : Prop := ∃ A L c, v = .slice A L c ∧ L = X.length ∧ L ≤ c ∧ HasA w w.heap.size A X
theorem IsBc.grew {w w' : World} {v : Value} {X : List UInt8} (h : IsBc w v X) (hb : Below w.heap.size w w') : IsBc w' v X := by
  obtain ⟨A, L, c, e, h1, h2, h3⟩ := h
  exact ⟨A, L, c, e, h1, h2, h3.below' hb⟩
theorem IsBc.isB {w : World} {v : Value} {X : List UInt8} (h : IsBc w v X) : IsB w v X := by
  obtain ⟨A, L, c, e, h1, _, h3⟩ := h
  exact ⟨A, L, c, e, h1, h3⟩
/-- Commands that a call tells. -/
structure TellsC (w : World) (v : Value) (l : List CmdV) : Prop where
  ex : ∃ A L c, v = .slice A L c ∧ L = l.length ∧ L ≤ c ∧ HasC w A l
theorem TellsC.grew {w w' : World} {v : Value} {l : List CmdV} (h : TellsC w v l) (hb : Below w.heap.size w w') : TellsC w' v l := by
  obtain ⟨A, L, c, e, h1, h2, h3⟩ := h.ex
  exact ⟨A, L, c, e, h1, h2, h3.below hb⟩
/-- What Parse comes to. -/
structure ParseR (bs : List UInt8) (l : List CmdV) (n : Nat) : Prop where
  ok : n = 0 → MayB (l.map CmdV.m) ∧ bs = batchM (l.map CmdV.m)
  no : n ≠ 0 → l = [] ∧ (n = 10 ∨ n = 11)
  back : ∀ ms, MayB ms → (∀ m ∈ ms, m.Wf) → bs = batchM ms → n = 0 ∧ l.map CmdV.m = ms
  more : ∀ ms, MayB ms → (∀ m ∈ ms, m.Wf) → bs = batchM ms ++ [0] → n = 11
  less : ∀ ms, MayB ms → (∀ m ∈ ms, m.Wf) → bs = (batchM ms).take ((batchM ms).length - 1) → n = 10
/-- Texts that are not too long for a walk. -/
structure CM.Short (m : CM) : Prop where
  ks : m.ks.length ≤ 100
  each : ∀ k ∈ m.ks, k.size ≤ 500
  old : m.old.size ≤ 500
  new : m.new.size ≤ 500
theorem CmdV.short {a : CmdV} (h : ¬ a.great) : a.m.Short := by
  unfold CmdV.great at h
  simp only [not_or, not_exists, Nat.not_lt] at h
  obtain ⟨h1, h2, h3, h4⟩ := h
  refine ⟨h3, fun k hk => ?_, h1, h2⟩
  obtain ⟨j, hj, rfl⟩ := List.getElem_of_mem hk
  exact h4 j hj
/-- The program's package cmd; T tells what the program's own tables hold. -/
structure CmdK (T : World → Prop) : Prop where
  grew : ∀ {w w' : World}, T w → Below w.heap.size w w' → T w'
  check : ∀ (a : CmdV) (w : World), T w → a.ok w → a.m.Short → Calls Tryd.prog 10 #[a.val] w fun e W' => e = .returned (.int .i64 ((if a.m.may then 0 else 1 : Nat) : Int)) ∧ Below w.heap.size w W'
  put : ∀ (A : Option Addr) (L c : Nat) (bs : List UInt8) (a : CmdV) (w : World), T w → L = bs.length → L ≤ c → L ≤ 1000 → HasA w w.heap.size A bs → a.ok w → a.m.Short → Calls Tryd.prog 12 #[.slice A L c, a.val] w fun e W' => ∃ v n, e = .returned v ∧ W'.ownsRow w.heap.size 5 1 v n ((bs ++ a.m.one).map enc) ∧ Below w.heap.size w W'
  same : ∀ (a b : CmdV) (w : World), T w → a.ok w → b.ok w → a.m.Short → b.m.Short → Calls Tryd.prog 14 #[a.val, b.val] w fun e W' => e = .returned (.bool (a.same b)) ∧ Below w.heap.size w W'
  batch : ∀ (A : Option Addr) (L c : Nat) (l : List CmdV) (w : World), T w → L = l.length → L ≤ c → L ≤ 100 → HasC w A l → (∀ a ∈ l, a.m.Short) → Calls Tryd.prog 8 #[.slice A L c] w fun e W' => ∃ v, e = .returned (.tuple #[v, .int .i64 ((batchR (l.map CmdV.m)).2 : Int)]) ∧ IsBc W' v (batchR (l.map CmdV.m)).1 ∧ Below w.heap.size w W'
  parse : ∀ (A : Option Addr) (L c : Nat) (bs : List UInt8) (w : World), T w → L = bs.length → L ≤ c → L ≤ 10000 → HasA w w.heap.size A bs → Calls Tryd.prog 21 #[.slice A L c] w fun e W' => ∃ v l, ∃ n : Nat, e = .returned (.tuple #[v, .int .i64 (n : Int)]) ∧ TellsC W' v l ∧ ParseR bs l n ∧ Below w.heap.size w W'
  take : ∀ (R : Nat) (m : CM) (rest : List UInt8) (w : World), T w → m.May → m.Wf → m.one.length + rest.length ≤ 10000 → RdQ w R 64 ⟨0, m.one ++ rest⟩ → Calls Tryd.prog 17 #[.pointer (some ⟨R, 0, none⟩)] w fun e W' => ∃ a : CmdV, e = .returned a.val ∧ a.ok W' ∧ a.m = m ∧ RdQ W' R 64 ⟨0, rest⟩ ∧ w.grownBy W' (some R)

theorem HasC.one {w : World} {b : Nat} {a : CmdV} (h : w.heap[b]? = some (.cells a.cells 26 (0, 0))) (ha : a.ok w) : HasC w (some ⟨b, 0, none⟩) [a] := fun _ =>
  ⟨b, 0, rfl, (Array.getElem?_eq_some_iff.1 h).1, fun j hj => by
    obtain rfl : j = 0 := by simpa using hj
    refine ⟨fun i u hu => ?_, ha⟩
    rw [blk_cell h]
    simpa using hu⟩
theorem HasC.two {w : World} {b : Nat} {a c : CmdV} (h : w.heap[b]? = some (.cells (a.cells ++ c.cells) 26 (0, 0))) (ha : a.ok w) (hc : c.ok w) : HasC w (some ⟨b, 0, none⟩) [a, c] := fun _ =>
  ⟨b, 0, rfl, (Array.getElem?_eq_some_iff.1 h).1, fun j hj => by
    have hj2 : j = 0 ∨ j = 1 := by simp at hj; omega
    have hs : a.cells.size = 7 := rfl
    have hs' : c.cells.size = 7 := rfl
    rcases hj2 with rfl | rfl
    · refine ⟨fun i u hu => ?_, ha⟩
      rw [blk_cell h]
      have hi : i < 7 := by
        have := (Array.getElem?_eq_some_iff.1 hu).1
        exact this
      simp only [List.getElem_cons_zero] at hu
      try simp only [Nat.zero_mul, Nat.zero_add]
      rw [Array.getElem?_append_left (by rw [hs]; exact hi)]
      exact hu
    · refine ⟨fun i u hu => ?_, hc⟩
      rw [blk_cell h]
      simp only [List.getElem_cons_succ, List.getElem_cons_zero] at hu
      try simp only [Nat.one_mul, Nat.zero_add]
      rw [Array.getElem?_append_right (by rw [hs]; omega), hs, Nat.add_sub_cancel_left]
      exact hu⟩
end Go.Proofs.YtfaplmpenlbajaaDoor
