/- Reading batches and rows of numbers: what single operations come to. -/
import Derived.Test.YtooaobadnainkaaKsK
import Derived.Test.YtooaobadnainkaaStepC
namespace Go.Proofs.Ytooaobadnainkaa
open Go.RowKit

theorem wanted_undef {ops : Array Oper} {o og : Oper} {a : Act} {g d : Nat} {b : Bool} (hg : o.guard = some (g, b)) (hog : ops[g]? = some og) (hd : og.dst = some d) (h : a.tmps.getD d undef = undef) : Region.wanted o (yielded ops a.tmps) = false := by
  have hn : yielded ops a.tmps g = none := by
    simp only [yielded, hog, hd, Option.bind_some]
    rw [Array.getD_eq_getD_getElem?] at h
    cases hx : a.tmps[d]? with
    | none => rfl
    | some x => rw [hx] at h; simp at h; subst h; rfl
  simp [Region.wanted, hg, hn]
theorem run_ixC (w : World) (b o L c q : Nat) (h : q < L) : (Instr.indexAt 22 (.slice (some ⟨b, o, none⟩) L c) (.int .i64 (q : Int))).run Try.prog w = .ok (.pointer (some ⟨b, o + q * 7, none⟩)) w := by
  have h1 : (0 : Int) ≤ q := by omega
  have h2 : (q : Int) < L := by omega
  simp [go_sem, h1, h2]
theorem run_ldC (w : World) (b o : Nat) (x : CmdV) (h : ∀ i u, x.cells[i]? = some u → w.cell? ⟨b, o + i, none⟩ = some u) : (Instr.loadAt 31 (.pointer (some ⟨b, o, none⟩))).run Try.prog w = .ok x.val w := by
  have h0 := h 0 _ rfl
  have h1 := h 1 _ rfl
  have h2 := h 2 _ rfl
  have h3 := h 3 _ rfl
  have h4 := h 4 _ rfl
  have h5 := h 5 _ rfl
  have h6 := h 6 _ rfl
  simp only [Nat.add_zero] at h0
  simp [go_sem, h0, h1, h2, h3, h4, h5, h6, CmdV.val, CmdV.cells]
theorem run_ixI (w : World) (b o L c q : Nat) (h : q < L) : (Instr.indexAt 25 (.slice (some ⟨b, o, none⟩) L c) (.int .i64 (q : Int))).run Try.prog w = .ok (.pointer (some ⟨b, o + q, none⟩)) w := by
  have h1 : (0 : Int) ≤ q := by omega
  have h2 : (q : Int) < L := by omega
  simp [go_sem, h1, h2]
theorem run_ldI (w : World) (p : Addr) (v : Int) (h : w.cell? p = some (.int .i64 v)) : (Instr.loadAt 3 (.pointer (some p))).run Try.prog w = .ok (.int .i64 v) w := by
  simp [go_sem, h]
theorem run_geF (w : World) (t : TypeId) (x y : Nat) (h : x < y) : (binOp .geq t (.int .i64 (x : Int)) (.int .i64 (y : Int))).run Try.prog w = .ok (.bool false) w := by
  have h1 : ¬ (y : Int) ≤ x := by omega
  simp [go_sem, h1]
  try omega
theorem run_eqF (w : World) (t : TypeId) (x y : Nat) (h : x ≠ y) : (binOp .eql t (.int .i64 (x : Int)) (.int .i64 (y : Int))).run Try.prog w = .ok (.bool false) w := by
  have h1 : ¬ (x : Int) = y := by omega
  simp [go_sem, h1]
  try omega
theorem run_eqT (w : World) (t : TypeId) (x y : Nat) (h : x = y) : (binOp .eql t (.int .i64 (x : Int)) (.int .i64 (y : Int))).run Try.prog w = .ok (.bool true) w := by
  subst h
  simp [go_sem]
theorem run_neqSame (w : World) (t : TypeId) (x : Nat) : (binOp .neq t (.int .i64 (x : Int)) (.int .i64 (x : Int))).run Try.prog w = .ok (.bool false) w := by
  simp [go_sem]
theorem run_neqB (w : World) (b : Bool) : (binOp .neq 4 (.bool b) (.bool b)).run Try.prog w = .ok (.bool false) w := by
  cases b <;> simp [go_sem, Try.underlying4]
end Go.Proofs.Ytooaobadnainkaa
