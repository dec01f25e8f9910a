/- The landed Less: the statement that draws its order. -/
import Derived.Test.YtkeaeahiokgkiaaRg
import Derived.Test.YtkeaeahiokgkiaaBlA
namespace Go.Proofs.Ytkeaeahiokgkiaa
open Go.RowKit

theorem noGuardBA : Try.prog.eqGuardType Try.prog.depth 25 = false := by kernel_rfl
theorem guardBA (op : BinOp) (w : World) (x y : Operand) (s u : Array Value) : (eqGuard op 25 x y (.agg s) (.agg u)).run Try.prog w = .ok () w := by
  cases op <;> first
    | (simp [eqGuard]; done)
    | (simp [eqGuard, noGuardBA]; done)
theorem run_bs2 (w : World) (x y : BA) : (Instr.buildSlice 22 2 #[(0, .agg #[.int .u64 (x.n : Int), .int .i64 x.r]), (1, .agg #[.int .u64 (y.n : Int), .int .i64 y.r])]).run Try.prog w = .ok (.slice (some ⟨w.heap.size, 0, none⟩) 2 2) (w.alloc (.cells #[.int .u64 (x.n : Int), .int .i64 x.r, .int .u64 (y.n : Int), .int .i64 y.r] 25)) := by
  simp [go_sem, Instr.buildSlice]
theorem run_bs3B (w : World) (x y z : BA) : (Instr.buildSlice 22 3 #[(0, .agg #[.int .u64 (x.n : Int), .int .i64 x.r]), (1, .agg #[.int .u64 (y.n : Int), .int .i64 y.r]), (2, .agg #[.int .u64 (z.n : Int), .int .i64 z.r])]).run Try.prog w = .ok (.slice (some ⟨w.heap.size, 0, none⟩) 3 3) (w.alloc (.cells #[.int .u64 (x.n : Int), .int .i64 x.r, .int .u64 (y.n : Int), .int .i64 y.r, .int .u64 (z.n : Int), .int .i64 z.r] 25)) := by
  simp [go_sem, Instr.buildSlice]
section
variable {n : Nat} {Q : Exit → Act → World → Prop} {ops : Array Oper} {i : Nat} {o : Oper} {a : Act} {w : World} {K : Act → World → Prop}
theorem step_bs2 {x0 x1 : Operand} (x y : BA) (hi : ops[i]? = some o) (hw : Region.wanted o (yielded ops a.tmps) = true) (ho : o.op = .buildSlice 22 2 #[(0, x0), (1, x1)]) (h0 : a.eval x0 = .agg #[.int .u64 (x.n : Int), .int .i64 x.r]) (h1 : a.eval x1 = .agg #[.int .u64 (y.n : Int), .int .i64 y.r]) (h : K (a.put o.dst (.slice (some ⟨w.heap.size, 0, none⟩) 2 2)) (w.alloc (.cells #[.int .u64 (x.n : Int), .int .i64 x.r, .int .u64 (y.n : Int), .int .i64 y.r] 25))) : wpOpIn Fence.wide n Try.prog ops Q i K a w :=
  step_run hi hw (by rw [ho]; intro c h; cases h) (by simp [Oper.about, ho]) (by simp [execOp, ho, h0, h1, run_bs2]) h
theorem step_bs3B {x0 x1 x2 : Operand} (x y z : BA) (hi : ops[i]? = some o) (hw : Region.wanted o (yielded ops a.tmps) = true) (ho : o.op = .buildSlice 22 3 #[(0, x0), (1, x1), (2, x2)]) (h0 : a.eval x0 = .agg #[.int .u64 (x.n : Int), .int .i64 x.r]) (h1 : a.eval x1 = .agg #[.int .u64 (y.n : Int), .int .i64 y.r]) (h2 : a.eval x2 = .agg #[.int .u64 (z.n : Int), .int .i64 z.r]) (h : K (a.put o.dst (.slice (some ⟨w.heap.size, 0, none⟩) 3 3)) (w.alloc (.cells #[.int .u64 (x.n : Int), .int .i64 x.r, .int .u64 (y.n : Int), .int .i64 y.r, .int .u64 (z.n : Int), .int .i64 z.r] 25))) : wpOpIn Fence.wide n Try.prog ops Q i K a w :=
  step_run hi hw (by rw [ho]; intro c h; cases h) (by simp [Oper.about, ho]) (by simp [execOp, ho, h0, h1, h2, run_bs3B]) h
end
theorem has2 {w : World} {x y : BA} (hx : x.ok) (hy : y.ok) : HasBA (w.alloc (.cells #[.int .u64 (x.n : Int), .int .i64 x.r, .int .u64 (y.n : Int), .int .i64 y.r] 25)) (some ⟨w.heap.size, 0, none⟩) [x, y] :=
  hasBA_blk (World.alloc_heap_new w _) (by
    intro z hz
    simp only [List.mem_cons, List.not_mem_nil, or_false] at hz
    rcases hz with rfl | rfl
    · exact hx
    · exact hy)
theorem has3B {w : World} {x y z : BA} (hx : x.ok) (hy : y.ok) (hz : z.ok) : HasBA (w.alloc (.cells #[.int .u64 (x.n : Int), .int .i64 x.r, .int .u64 (y.n : Int), .int .i64 y.r, .int .u64 (z.n : Int), .int .i64 z.r] 25)) (some ⟨w.heap.size, 0, none⟩) [x, y, z] :=
  hasBA_blk (World.alloc_heap_new w _) (by
    intro u hu
    simp only [List.mem_cons, List.not_mem_nil, or_false] at hu
    rcases hu with rfl | rfl | rfl
    · exact hx
    · exact hy
    · exact hz)
/-- A row of ballots, as a value. -/
def IsBA (w : World) (v : Value) (l : List BA) : Prop := ∃ A c, v = .slice A l.length c ∧ HasBA w A l
theorem IsBA.grew {w w' : World} {v : Value} {l : List BA} (h : IsBA w v l) (hg : Grew w w') : IsBA w' v l := by
  obtain ⟨A, c, e, h⟩ := h
  exact ⟨A, c, e, h.below hg⟩
noncomputable def opsLsT : List Oper := opsOf Try.f11 1
set_option maxRecDepth 100000 in
set_option maxHeartbeats 4000000 in
theorem less_t (p q : Nat) (x y : BA)  (a : Act) (w : World) (Q : Exit → Act → World → Prop) (hN : a.tmps.size = 16) (h2 : a.tmps.getD 2 undef = .pointer (some ⟨p, 0, none⟩)) (h3 : a.tmps.getD 3 undef = .pointer (some ⟨q, 0, none⟩)) (hpl : p < w.heap.size) (hql : q < w.heap.size) (cx0 : w.cell? ⟨p, 0, none⟩ = some (.int .u64 (x.n : Int))) (cx1 : w.cell? ⟨p, 0 + 1, none⟩ = some (.int .i64 x.r)) (cy0 : w.cell? ⟨q, 0, none⟩ = some (.int .u64 (y.n : Int))) (cy1 : w.cell? ⟨q, 0 + 1, none⟩ = some (.int .i64 y.r)) (hxy : decide (x = y) = false) (hx : x.ok) (hy : y.ok) (hQ : ∀ (v11 : Value), ∀ (w' : World), (fun v w => IsBA w v [x, y]) v11 w' → Grew w w' → Q .normal (puts [(5, .agg #[.int .u64 (x.n : Int), .int .i64 x.r]), (6, .agg #[.int .u64 (y.n : Int), .int .i64 y.r]), (7, .bool true), (8, .bool true), (9, .agg #[.int .u64 (x.n : Int), .int .i64 x.r]), (10, .agg #[.int .u64 (y.n : Int), .int .i64 y.r]), (11, v11), (12, .agg #[.int .u64 ((maxB [x, y]).n : Int), .int .i64 (maxB [x, y]).r]), (13, .agg #[.int .u64 (y.n : Int), .int .i64 y.r]), (14, .bool (decide (maxB [x, y] = y))), (15, .bool (decide (maxB [x, y] = y))), (4, .bool (decide (maxB [x, y] = y)))] a) w')
    : (Code.region 1 opsLsT.toArray true).wp Try.prog Q a w := by
  refine region_v 16 opsLsT [(2, .pointer (some ⟨p, 0, none⟩)), (3, .pointer (some ⟨q, 0, none⟩))] [6, 7] [.eq (.agg #[.int .u64 (x.n : Int), .int .i64 x.r]), .eq (.agg #[.int .u64 (y.n : Int), .int .i64 y.r]), .eq (.bool true), .eq (.bool true), .eq (.agg #[.int .u64 (x.n : Int), .int .i64 x.r]), .eq (.agg #[.int .u64 (y.n : Int), .int .i64 y.r]), .pr fun v w => IsBA w v [x, y], .eq (.agg #[.int .u64 ((maxB [x, y]).n : Int), .int .i64 (maxB [x, y]).r]), .eq (.agg #[.int .u64 (y.n : Int), .int .i64 y.r]), .eq (.bool (decide (maxB [x, y] = y))), .eq (.bool (decide (maxB [x, y] = y))), .eq (.bool (decide (maxB [x, y] = y)))] Grew Grew.refl Grew.trans follows (by kernel_rfl) (by kernel_rfl) hN ⟨h2, h3, trivial⟩ rfl ?_ ?_ ?_ ?_
  · exact ⟨(fun _ _ _ h hg => h.grew hg), trivial⟩
  · intro _ w' hR _
    exact ⟨fun _ => ob_load (ldBA _ _ _ _ _ ((Below.cell hR.undraw (p := ⟨p, 0, none⟩) hpl).trans cx0) ((Below.cell hR.undraw (p := ⟨p, 0 + 1, none⟩) hpl).trans cx1)), fun _ => ob_load (ldBA _ _ _ _ _ ((Below.cell hR.undraw (p := ⟨q, 0, none⟩) hql).trans cy0) ((Below.cell hR.undraw (p := ⟨q, 0 + 1, none⟩) hql).trans cy1)), fun _ => ob_bin (guardBA _ _ _ _ _ _) ((neBA _ x y).trans (by rw [hxy]; rfl)), fun _ => rfl, fun _ => ob_load (ldBA _ _ _ _ _ ((Below.cell hR.undraw (p := ⟨p, 0, none⟩) hpl).trans cx0) ((Below.cell hR.undraw (p := ⟨p, 0 + 1, none⟩) hpl).trans cx1)), fun _ => ob_load (ldBA _ _ _ _ _ ((Below.cell hR.undraw (p := ⟨q, 0, none⟩) hql).trans cy0) ((Below.cell hR.undraw (p := ⟨q, 0 + 1, none⟩) hql).trans cy1)), trivial, trivial, fun _ => ob_load (ldBA _ _ _ _ _ ((Below.cell hR.undraw (p := ⟨q, 0, none⟩) hql).trans cy0) ((Below.cell hR.undraw (p := ⟨q, 0 + 1, none⟩) hql).trans cy1)), fun _ => ob_bin (guardBA _ _ _ _ _ _) (eqBA _ _ _), fun _ => ob_pick rfl rfl, fun _ => rfl, trivial⟩
  · refine ⟨?_, ?_, trivial⟩
    · rintro o _ ho hd a' w' hF hR hp
      have hio := (nthO_eq _ _).symm.trans ho
      cases ho
      cases hd
      have q3 : a'.tmps.getD 8 undef = .bool true := hp 3 _ 8 rfl rfl rfl
      have q4 : a'.tmps.getD 9 undef = .agg #[.int .u64 (x.n : Int), .int .i64 x.r] := hp 4 _ 9 rfl rfl rfl
      have q5 : a'.tmps.getD 10 undef = .agg #[.int .u64 (y.n : Int), .int .i64 y.r] := hp 5 _ 10 rfl rfl rfl
      exact step_bs2 x y rfl (wanted_on rfl (show opsLsT.toArray[3]? = some _ from rfl) rfl q3) rfl q4 q5 ⟨_, rfl, ⟨_, _, rfl, has2 hx hy⟩, (Below.refl _ _).alloc (Nat.le_refl _) _⟩
    · rintro o _ ho hd a' w' hF hR hp
      have hio := (nthO_eq _ _).symm.trans ho
      cases ho
      cases hd
      have q3 : a'.tmps.getD 8 undef = .bool true := hp 3 _ 8 rfl rfl rfl
      have q6 : (fun v w => IsBA w v [x, y]) (a'.tmps.getD 11 undef) w' := hp 6 _ 11 rfl rfl rfl
      obtain ⟨A, c, eA, hA⟩ := q6
      refine step_callD hio (wanted_on rfl (show opsLsT.toArray[3]? = some _ from rfl) rfl q3) rfl (enters_of Try.func13 (by kernel_rfl) rfl) (show Array.map a'.eval #[.tmp 11] = _ from by simp only [List.map_toArray, List.map_cons, List.map_nil, Act.eval, eA]) ((max_any A _ c [x, y] w' rfl (show 2 ≤ 1000 by decide) hA).mono ?_)
      rintro e w'' ⟨rfl, hb⟩
      exact ⟨_, rfl, _, rfl, rfl, hb⟩
  · intro u w' hR h
    exact hQ (u 6) w' (h 6 (Nat.le_of_ble_eq_true rfl)) hR.undraw
noncomputable def opsLsF : List Oper := opsOf Try.f11 1
set_option maxRecDepth 100000 in
set_option maxHeartbeats 4000000 in
theorem less_f (p q : Nat) (x y : BA)  (a : Act) (w : World) (Q : Exit → Act → World → Prop) (hN : a.tmps.size = 16) (h2 : a.tmps.getD 2 undef = .pointer (some ⟨p, 0, none⟩)) (h3 : a.tmps.getD 3 undef = .pointer (some ⟨q, 0, none⟩)) (hpl : p < w.heap.size) (hql : q < w.heap.size) (cx0 : w.cell? ⟨p, 0, none⟩ = some (.int .u64 (x.n : Int))) (cx1 : w.cell? ⟨p, 0 + 1, none⟩ = some (.int .i64 x.r)) (cy0 : w.cell? ⟨q, 0, none⟩ = some (.int .u64 (y.n : Int))) (cy1 : w.cell? ⟨q, 0 + 1, none⟩ = some (.int .i64 y.r)) (hxy : decide (x = y) = true) (hQ : ∀ (w' : World), Grew w w' → Q .normal (puts [(5, .agg #[.int .u64 (x.n : Int), .int .i64 x.r]), (6, .agg #[.int .u64 (y.n : Int), .int .i64 y.r]), (7, .bool false), (8, .bool false), (9, undef), (10, undef), (11, undef), (12, undef), (13, undef), (14, undef), (15, .bool false), (4, .bool false)] a) w')
    : (Code.region 1 opsLsF.toArray true).wp Try.prog Q a w := by
  refine region_v 16 opsLsF [(2, .pointer (some ⟨p, 0, none⟩)), (3, .pointer (some ⟨q, 0, none⟩))] [] [.eq (.agg #[.int .u64 (x.n : Int), .int .i64 x.r]), .eq (.agg #[.int .u64 (y.n : Int), .int .i64 y.r]), .eq (.bool false), .eq (.bool false), .eq (undef), .eq (undef), .eq (undef), .eq (undef), .eq (undef), .eq (undef), .eq (.bool false), .eq (.bool false)] Grew Grew.refl Grew.trans follows (by kernel_rfl) (by kernel_rfl) hN ⟨h2, h3, trivial⟩ rfl trivial ?_ ?_ ?_
  · intro _ w' hR _
    exact ⟨fun _ => ob_load (ldBA _ _ _ _ _ ((Below.cell hR.undraw (p := ⟨p, 0, none⟩) hpl).trans cx0) ((Below.cell hR.undraw (p := ⟨p, 0 + 1, none⟩) hpl).trans cx1)), fun _ => ob_load (ldBA _ _ _ _ _ ((Below.cell hR.undraw (p := ⟨q, 0, none⟩) hql).trans cy0) ((Below.cell hR.undraw (p := ⟨q, 0 + 1, none⟩) hql).trans cy1)), fun _ => ob_bin (guardBA _ _ _ _ _ _) ((neBA _ x y).trans (by rw [hxy]; rfl)), fun _ => rfl, fun _ => rfl, fun _ => rfl, fun _ => rfl, fun _ => rfl, fun _ => rfl, fun _ => rfl, fun _ => ob_pick rfl rfl, fun _ => rfl, trivial⟩
  · exact trivial
  · intro _ w' hR _
    exact hQ  w'  hR.undraw
end Go.Proofs.Ytkeaeahiokgkiaa
