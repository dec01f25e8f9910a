/- Rows of commands. -/
import Derived.Test.YtfaplmpenlbajaaDoorCmSpec
namespace Go.Proofs.YtfaplmpenlbajaaDoor
open Go.RowKit

/-- Commands that lie in a row. -/
def HasC (w : World) (A : Option Addr) (l : List CmdV) : Prop := l ≠ [] → ∃ b o, A = some ⟨b, o, none⟩ ∧ b < w.heap.size ∧ ∀ j (h : j < l.length), (∀ i u, l[j].cells[i]? = some u → w.cell? ⟨b, o + j * 7 + i, none⟩ = some u) ∧ l[j].ok w
theorem CmdV.ok.below {w W : World} {a : CmdV} (h : a.ok w) (hb : Below w.heap.size w W) : a.ok W :=
  ⟨h.cl, h.sq, h.kd, h.n, h.len, h.max, h.has.below hb, h.each, h.old, h.new⟩
theorem HasC.below {w W : World} {A : Option Addr} {l : List CmdV} (h : HasC w A l) (hb : Below w.heap.size w W) : HasC W A l := fun hl => by
  obtain ⟨b, o, e, h1, h2⟩ := h hl
  exact ⟨b, o, e, Nat.lt_of_lt_of_le h1 hb.size, fun j hj => ⟨fun i u hu => (hb.cell (p := ⟨b, o + j * 7 + i, none⟩) h1).trans ((h2 j hj).1 i u hu), (h2 j hj).2.below hb⟩⟩
/-- Whether two rows are alike. -/
def sameAllC : List CmdV → List CmdV → Bool
  | [], [] => true
  | a :: l, b :: m => a.same b && sameAllC l m
  | _, _ => false
theorem sameAllC_len : ∀ {l m : List CmdV}, l.length ≠ m.length → sameAllC l m = false
  | [], [], h => absurd rfl h
  | [], _ :: _, _ => rfl
  | _ :: _, [], _ => rfl
  | a :: l, b :: m, h => by simp only [sameAllC, sameAllC_len (l := l) (m := m) (by simpa using h), Bool.and_false]
theorem sameAllC_no : ∀ {l m : List CmdV} (k : Nat) (h1 : k < l.length) (h2 : k < m.length), l[k].same m[k] = false → sameAllC l m = false
  | a :: l, b :: m, 0, _, _, h => by simp only [List.getElem_cons_zero] at h; simp only [sameAllC, h, Bool.false_and]
  | a :: l, b :: m, k + 1, h1, h2, h => by
    simp only [List.getElem_cons_succ] at h
    simp only [sameAllC, sameAllC_no k (by simpa using h1) (by simpa using h2) h, Bool.and_false]
theorem sameAllC_yes : ∀ {l m : List CmdV}, l.length = m.length → (∀ k (h1 : k < l.length) (h2 : k < m.length), l[k].same m[k] = true) → sameAllC l m = true
  | [], [], _, _ => rfl
  | a :: l, b :: m, hl, h => by
    have h0 := h 0 (by simp) (by simp)
    simp only [List.getElem_cons_zero] at h0
    simp only [sameAllC, h0, Bool.true_and]
    exact sameAllC_yes (by simpa using hl) fun k h1 h2 => h (k + 1) (Nat.succ_lt_succ h1) (Nat.succ_lt_succ h2)

end Go.Proofs.YtfaplmpenlbajaaDoor
