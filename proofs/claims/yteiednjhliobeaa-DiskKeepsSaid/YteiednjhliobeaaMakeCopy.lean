/- Making a slice of bytes, and copying bytes into one, at a plain step. -/
import Derived.Test.YteiednjhliobeaaCopyIn
namespace Go.Proofs.Yteiednjhliobeaa
open Go.RowKit

section
variable {w : World} {ops : Array Oper} {rest : List Oper} {o : Oper} {a : Act} {Q : Exit → Act → World → Prop}
/-- 'make([]byte, n)': the block written out. -/
theorem wpList_make_n (hg : o.guard = none) (l c : Operand) (hop : o.op = Op.makeSlice 27 l c) (L : Nat) (hl : a.eval l = .int .i64 (L : Int)) (hc : a.eval c = .int .i64 (L : Int)) (hL : L ≤ 1000000000)
    (hK : wpList Try.prog ops Q rest (a.put o.dst (.slice (some ⟨w.heap.size, 0, none⟩) L L)) (w.alloc (.cells (Array.replicate L (.int .u8 0)) 5))) :
    wpList Try.prog ops Q (o :: rest) a w := by
  obtain ⟨i, hi, hz, hsize, hby⟩ := info_parts info5
  have hr := run_make (P := Try.prog) w 27 5 i _ Try.underlying27 hi hz .i64 .i64 (L : Int) (L : Int) (by omega) (by omega) (by rw [hby]; omega) (by omega)
  simp only [Int.toNat_natCast] at hr
  refine wpList_plain hg fun K hK' => ?_
  unfold Oper.wp
  simp [execOp, hop, hl, hc, hr, Result.andThen]
  refine hK' _ _ ?_
  have e : madeCells #[Value.int .u8 0] L = Array.replicate L (.int .u8 0) := by
    apply Array.ext'
    show (madeCells #[Value.int .u8 0] L).toList = _
    rw [toList_madeCells_one]
    simp
  rw [← e] at hK
  rw [hsize, Nat.mul_one]
  exact hK
/-- 'copy(d, s)', by its run. -/
theorem wpList_copy_run (hg : o.guard = none) (d s : Operand) (t : TypeId) (ho : o.op = .call { callee := .builtin .copy, args := #[d, s], argTypes := #[t, t] }) (vd vs v : Value) (hd : a.eval d = vd) (hs : a.eval s = vs) (w' : World)
    (hr : ∀ ty, (Builtin.copy_ #[t, t] ty #[vd, vs]).run Try.prog w = .ok v w') (h : wpList Try.prog ops Q rest (a.put o.dst v) w') : wpList Try.prog ops Q (o :: rest) a w := by
  refine wpList_plain hg fun K hK => ?_
  unfold Oper.wp execOp
  simp only [ho, resolve, invoke, builtin, Sem.run_bind, Sem.run_pure, Result.andThen_ok, List.map_toArray, List.map_cons, List.map_nil, hd, hs, hr]
  exact hK _ _ h
end
end Go.Proofs.Yteiednjhliobeaa
