/- A tally that is known: spans as values; the statement that draws its order. -/
import Derived.Test.YtnpkaljmncehhaaRg
import Derived.Test.YtnpkaljmncehhaaVoK
import Derived.Laws.StructEq
import Derived.Deep.DeepCutAuto
namespace Go.Proofs.Ytnpkaljmncehhaa
open Go.RowKit

/-- A struct's two cells in a new block. -/
theorem box2 {w W : World} {x y : Value} {t : TypeId} (h : W = w.alloc (.cells #[x, y] t)) : Below w.heap.size w W ∧ W.heap[w.heap.size]? = some (.cells #[x, y] t (0, 0)) ∧ W.heap.size = w.heap.size + 1 := by
  subst h
  exact ⟨(Below.refl _ w).alloc (Nat.le_refl _) _, World.alloc_heap_new w _, Array.size_push _⟩
theorem fin2 {w W : World} {g : Nat} {x0 y0 : Value} {t : TypeId} (hb : Below w.heap.size w W) (k : W.heap[g]? = some (.cells #[x0, y0] t (0, 0))) (hg : w.heap.size ≤ g) (x y : Value) (V : World) (hV : V = (W.setCell ⟨g, 0, none⟩ x).setCell ⟨g, 1, none⟩ y) :
    Below w.heap.size w V ∧ V.cell? ⟨g, 0, none⟩ = some x ∧ V.cell? ⟨g, 1, none⟩ = some y ∧ V.heap[g]? = some (.cells #[x, y] t (0, 0)) := by
  subst hV
  have k3 := blk_set (blk_set k 0 x) 1 y
  refine ⟨(hb.setCell (p := ⟨g, 0, none⟩) hg _).setCell (p := ⟨g, 1, none⟩) hg _, ?_, ?_, by simpa using k3⟩
  · simpa using blk_cell k3 0
  · simpa using blk_cell k3 1
set_option maxRecDepth 100000 in
set_option maxHeartbeats 1000000 in
theorem span_any (a b : Int) (w : World) : Calls Try.prog 13 #[.int .u64 a, .int .u64 b] w fun e W' => e = .returned (.agg #[.int .u64 a, .int .u64 b]) ∧ Below w.heap.size w W' := by
  go_enter Try.func13, Try.ntmps13
  go_upto_region 1 with (fail)
  obtain ⟨W0, hW0⟩ : ∃ W0, W0 = w.alloc (.cells #[.int .u64 0, .int .u64 0] 42) := ⟨_, rfl⟩
  rw [← hW0]
  obtain ⟨b0, k0, s0⟩ := box2 hW0
  obtain ⟨p, hp⟩ : ∃ p, p = w.heap.size := ⟨_, rfl⟩
  rw [← hp] at k0 ⊢
  have z0 := blk_cell k0 0
  have z1 := blk_cell k0 1
  have u0 := blk_frozen k0 0
  have u1 := blk_frozen k0 1
  simp at z0 z1
  obtain ⟨W1, hW1⟩ : ∃ W1, W1 = (W0.setCell ⟨p, 0, none⟩ (.int .u64 a)).setCell ⟨p, 1, none⟩ (.int .u64 b) := ⟨_, rfl⟩
  obtain ⟨f1, f2, f3, _⟩ := fin2 b0 k0 (by omega) _ _ W1 hW1
  have HB := Lib.hid f1
  clear f1 b0 k0 s0 hp hW0
  go_wp2
  rw [← hW1]
  exact bodyPost_ret (v := .agg #[.int .u64 a, .int .u64 b]) (by simp [results, Try.results13, go_sem, f2, f3]) rfl ⟨rfl, HB.out⟩
theorem noGuardSp : Try.prog.eqGuardType Try.prog.depth 42 = false := by kernel_rfl
theorem guardSp (op : BinOp) (w : World) (x y : Operand) (s u : Array Value) : (eqGuard op 42 x y (.agg s) (.agg u)).run Try.prog w = .ok () w := by
  cases op <;> first
    | (simp [eqGuard]; done)
    | (simp [eqGuard, noGuardSp]; done)
theorem eqSpL (w : World) (n r : Int) : (binOp .eql 42 (.agg #[.int .u64 n, .int .u64 r]) (.agg #[.int .u64 n, .int .u64 r])).run Try.prog w = .ok (.bool true) w := by
  simp [go_sem]
theorem ldSp (w : World) (b o : Nat) (x y : Int) (h0 : w.cell? ⟨b, o, none⟩ = some (.int .u64 x)) (h1 : w.cell? ⟨b, o + 1, none⟩ = some (.int .u64 y)) : (Instr.loadAt 42 (.pointer (some ⟨b, o, none⟩))).run Try.prog w = .ok (.agg #[.int .u64 x, .int .u64 y]) w := by
  simp [go_sem, h0, h1]
theorem ixSp (w : World) (b o L c q : Nat) (h : q < L) : (Instr.indexAt 50 (.slice (some ⟨b, o, none⟩) L c) (.int .i64 (q : Int))).run Try.prog w = .ok (.pointer (some ⟨b, o + q * 2, none⟩)) w := by
  have h1 : (0 : Int) ≤ q := by omega
  have h2 : (q : Int) < L := by omega
  simp [go_sem, h1, h2]
theorem ixSp0 (w : World) (b o c : Nat) : (Instr.indexAt 50 (.slice (some ⟨b, o, none⟩) 1 c) (.int .i64 0)).run Try.prog w = .ok (.pointer (some ⟨b, o, none⟩)) w := ixSp w b o 1 c 0 (by decide)
noncomputable def opsVk : List Oper := opsOf Try.f7 7
set_option maxRecDepth 100000 in
set_option maxHeartbeats 4000000 in
theorem wakes15_r (R ba oa ca bb ob cb : Nat)  (a : Act) (w : World) (Q : Exit → Act → World → Prop) (hN : a.tmps.size = 88) (h1 : a.tmps.getD 1 undef = .pointer (some ⟨R, 0, none⟩)) (h3 : a.tmps.getD 3 undef = .slice (some ⟨ba, oa, none⟩) 1 ca) (h4 : a.tmps.getD 4 undef = .slice (some ⟨bb, ob, none⟩) 1 cb) (hal : ba < w.heap.size) (hbl : bb < w.heap.size) (ha0 : w.cell? ⟨ba, oa, none⟩ = some (.int .u64 1)) (ha1 : w.cell? ⟨ba, oa + 1, none⟩ = some (.int .u64 9)) (hb0 : w.cell? ⟨bb, ob, none⟩ = some (.int .u64 4)) (hb1 : w.cell? ⟨bb, ob + 1, none⟩ = some (.int .u64 4)) (hC : ∀ w', Grew w w' → Calls Try.prog 15 #[.pointer (some ⟨R, 0, none⟩), .int .u64 2] w' fun e W' => e = .returned (.bool true) ∧ Below w'.heap.size w' W') (hH3 : ∀ w', Grew w w' → Calls Try.prog 19 #[.pointer (some ⟨R, 0, none⟩), .int .i64 2, .int .u64 3] w' fun e W' => e = .returned (.bool true) ∧ Below w'.heap.size w' W') (hH4 : ∀ w', Grew w w' → Calls Try.prog 19 #[.pointer (some ⟨R, 0, none⟩), .int .i64 2, .int .u64 4] w' fun e W' => e = .returned (.bool false) ∧ Below w'.heap.size w' W') (hM4 : ∀ w', Grew w w' → Calls Try.prog 16 #[.int .i64 4] w' fun e W' => e = .returned (.int .i64 3) ∧ Below w'.heap.size w' W') (hM5 : ∀ w', Grew w w' → Calls Try.prog 16 #[.int .i64 5] w' fun e W' => e = .returned (.int .i64 3) ∧ Below w'.heap.size w' W') (hQ : ∀ (w' : World), Grew w w' → Q .normal (puts [(45, .slice (some ⟨ba, oa, none⟩) 1 ca), (46, .int .i64 1), (47, .bool true), (48, .bool true), (49, .slice (some ⟨ba, oa, none⟩) 1 ca), (50, .pointer (some ⟨ba, oa, none⟩)), (51, .agg #[.int .u64 1, .int .u64 9]), (52, .agg #[.int .u64 1, .int .u64 9]), (53, .bool true), (54, .bool true), (55, .bool true), (56, .slice (some ⟨bb, ob, none⟩) 1 cb), (57, .int .i64 1), (58, .bool true), (59, .bool true), (60, .bool true), (61, .slice (some ⟨bb, ob, none⟩) 1 cb), (62, .pointer (some ⟨bb, ob, none⟩)), (63, .agg #[.int .u64 4, .int .u64 4]), (64, .agg #[.int .u64 4, .int .u64 4]), (65, .bool true), (66, .bool true), (67, .bool true), (68, .pointer (some ⟨R, 0, none⟩)), (69, .bool true), (70, .bool true), (71, .bool true), (72, .pointer (some ⟨R, 0, none⟩)), (73, .bool true), (74, .bool true), (75, .bool true), (76, .pointer (some ⟨R, 0, none⟩)), (77, .bool false), (78, .bool true), (79, .bool true), (80, .bool true), (81, .int .i64 3), (82, .bool true), (83, .bool true), (84, .bool true), (85, .int .i64 3), (86, .bool true), (87, .bool true), (0, .bool true)] a) w')
    : (Code.region 7 opsVk.toArray true).wp Try.prog Q a w := by
  refine region_v 88 opsVk [(1, .pointer (some ⟨R, 0, none⟩)), (3, .slice (some ⟨ba, oa, none⟩) 1 ca), (4, .slice (some ⟨bb, ob, none⟩) 1 cb)] [7, 19, 24, 28, 32, 36, 40] [.eq (.slice (some ⟨ba, oa, none⟩) 1 ca), .eq (.int .i64 1), .eq (.bool true), .eq (.bool true), .eq (.slice (some ⟨ba, oa, none⟩) 1 ca), .eq (.pointer (some ⟨ba, oa, none⟩)), .eq (.agg #[.int .u64 1, .int .u64 9]), .eq (.agg #[.int .u64 1, .int .u64 9]), .eq (.bool true), .eq (.bool true), .eq (.bool true), .eq (.slice (some ⟨bb, ob, none⟩) 1 cb), .eq (.int .i64 1), .eq (.bool true), .eq (.bool true), .eq (.bool true), .eq (.slice (some ⟨bb, ob, none⟩) 1 cb), .eq (.pointer (some ⟨bb, ob, none⟩)), .eq (.agg #[.int .u64 4, .int .u64 4]), .eq (.agg #[.int .u64 4, .int .u64 4]), .eq (.bool true), .eq (.bool true), .eq (.bool true), .eq (.pointer (some ⟨R, 0, none⟩)), .eq (.bool true), .eq (.bool true), .eq (.bool true), .eq (.pointer (some ⟨R, 0, none⟩)), .eq (.bool true), .eq (.bool true), .eq (.bool true), .eq (.pointer (some ⟨R, 0, none⟩)), .eq (.bool false), .eq (.bool true), .eq (.bool true), .eq (.bool true), .eq (.int .i64 3), .eq (.bool true), .eq (.bool true), .eq (.bool true), .eq (.int .i64 3), .eq (.bool true), .eq (.bool true), .eq (.bool true)] Grew Grew.refl Grew.trans follows (by kernel_rfl) (by kernel_rfl) hN ⟨h1, h3, h4, trivial⟩ rfl ?_ ?_ ?_ ?_
  · exact trivial
  · intro _ w' hR _
    exact ⟨fun _ => rfl, fun _ => ob_len Try.underlying50 rfl, fun _ => ob_bin (guard_int _ _ _ _ _ _ _ _ _) ((run_eqi _ _ _ _ _).trans (by rfl)), fun _ => rfl, fun _ => rfl, fun _ => ob_idx (ixSp0 _ _ _ _), fun _ => ob_load (ldSp _ _ _ _ _ ((Below.cell hR.undraw (p := ⟨ba, oa, none⟩) hal).trans ha0) ((Below.cell hR.undraw (p := ⟨ba, oa + 1, none⟩) hal).trans ha1)), trivial, fun _ => ob_bin (guardSp _ _ _ _ _ _) (eqSpL _ _ _), fun _ => ob_pick rfl rfl, fun _ => rfl, fun _ => rfl, fun _ => ob_len Try.underlying50 rfl, fun _ => ob_bin (guard_int _ _ _ _ _ _ _ _ _) ((run_eqi _ _ _ _ _).trans (by rfl)), fun _ => ob_pick rfl rfl, fun _ => rfl, fun _ => rfl, fun _ => ob_idx (ixSp0 _ _ _ _), fun _ => ob_load (ldSp _ _ _ _ _ ((Below.cell hR.undraw (p := ⟨bb, ob, none⟩) hbl).trans hb0) ((Below.cell hR.undraw (p := ⟨bb, ob + 1, none⟩) hbl).trans hb1)), trivial, fun _ => ob_bin (guardSp _ _ _ _ _ _) (eqSpL _ _ _), fun _ => ob_pick rfl rfl, fun _ => rfl, fun _ => rfl, trivial, fun _ => ob_pick rfl rfl, fun _ => rfl, fun _ => rfl, trivial, fun _ => ob_pick rfl rfl, fun _ => rfl, fun _ => rfl, trivial, fun _ => ob_un (run_not _ _), fun _ => ob_pick rfl rfl, fun _ => rfl, trivial, fun _ => ob_bin (guard_int _ _ _ _ _ _ _ _ _) ((run_eqi _ _ _ _ _).trans (by rfl)), fun _ => ob_pick rfl rfl, fun _ => rfl, trivial, fun _ => ob_bin (guard_int _ _ _ _ _ _ _ _ _) ((run_eqi _ _ _ _ _).trans (by rfl)), fun _ => ob_pick rfl rfl, fun _ => rfl, trivial⟩
  · refine ⟨?_, ?_, ?_, ?_, ?_, ?_, ?_, trivial⟩
    · rintro o _ ho hd a' w' hF hR hp
      have hio := (nthO_eq _ _).symm.trans ho
      cases ho
      cases hd
      have q3 : a'.tmps.getD 48 undef = .bool true := hp 3 _ 48 rfl rfl rfl
      refine step_callD hio (wanted_on rfl (show opsVk.toArray[3]? = some _ from rfl) rfl q3) rfl (enters_of Try.func13 (by kernel_rfl) rfl) (show Array.map a'.eval #[.const (.int .u64 1), .const (.int .u64 9)] = _ from by simp only [List.map_toArray, List.map_cons, List.map_nil, Act.eval]) ((span_any 1 9 w').mono ?_)
      rintro e w'' ⟨rfl, hb⟩
      exact ⟨_, rfl, _, rfl, rfl, hb⟩
    · rintro o _ ho hd a' w' hF hR hp
      have hio := (nthO_eq _ _).symm.trans ho
      cases ho
      cases hd
      have q15 : a'.tmps.getD 60 undef = .bool true := hp 15 _ 60 rfl rfl rfl
      refine step_callD hio (wanted_on rfl (show opsVk.toArray[15]? = some _ from rfl) rfl q15) rfl (enters_of Try.func13 (by kernel_rfl) rfl) (show Array.map a'.eval #[.const (.int .u64 4), .const (.int .u64 4)] = _ from by simp only [List.map_toArray, List.map_cons, List.map_nil, Act.eval]) ((span_any 4 4 w').mono ?_)
      rintro e w'' ⟨rfl, hb⟩
      exact ⟨_, rfl, _, rfl, rfl, hb⟩
    · rintro o _ ho hd a' w' hF hR hp
      have hio := (nthO_eq _ _).symm.trans ho
      cases ho
      cases hd
      have q22 : a'.tmps.getD 67 undef = .bool true := hp 22 _ 67 rfl rfl rfl
      have q23 : a'.tmps.getD 68 undef = .pointer (some ⟨R, 0, none⟩) := hp 23 _ 68 rfl rfl rfl
      refine step_callD hio (wanted_on rfl (show opsVk.toArray[22]? = some _ from rfl) rfl q22) rfl (enters_of Try.func15 (by kernel_rfl) rfl) (show Array.map a'.eval #[.tmp 68, .const (.int .u64 2)] = _ from by simp only [List.map_toArray, List.map_cons, List.map_nil, Act.eval, q23]) ((hC w' hR.undraw).mono ?_)
      rintro e w'' ⟨rfl, hb⟩
      exact ⟨_, rfl, _, rfl, rfl, hb⟩
    · rintro o _ ho hd a' w' hF hR hp
      have hio := (nthO_eq _ _).symm.trans ho
      cases ho
      cases hd
      have q26 : a'.tmps.getD 71 undef = .bool true := hp 26 _ 71 rfl rfl rfl
      have q27 : a'.tmps.getD 72 undef = .pointer (some ⟨R, 0, none⟩) := hp 27 _ 72 rfl rfl rfl
      refine step_callD hio (wanted_on rfl (show opsVk.toArray[26]? = some _ from rfl) rfl q26) rfl (enters_of Try.func19 (by kernel_rfl) rfl) (show Array.map a'.eval #[.tmp 72, .const (.int .i64 2), .const (.int .u64 3)] = _ from by simp only [List.map_toArray, List.map_cons, List.map_nil, Act.eval, q27]) ((hH3 w' hR.undraw).mono ?_)
      rintro e w'' ⟨rfl, hb⟩
      exact ⟨_, rfl, _, rfl, rfl, hb⟩
    · rintro o _ ho hd a' w' hF hR hp
      have hio := (nthO_eq _ _).symm.trans ho
      cases ho
      cases hd
      have q30 : a'.tmps.getD 75 undef = .bool true := hp 30 _ 75 rfl rfl rfl
      have q31 : a'.tmps.getD 76 undef = .pointer (some ⟨R, 0, none⟩) := hp 31 _ 76 rfl rfl rfl
      refine step_callD hio (wanted_on rfl (show opsVk.toArray[30]? = some _ from rfl) rfl q30) rfl (enters_of Try.func19 (by kernel_rfl) rfl) (show Array.map a'.eval #[.tmp 76, .const (.int .i64 2), .const (.int .u64 4)] = _ from by simp only [List.map_toArray, List.map_cons, List.map_nil, Act.eval, q31]) ((hH4 w' hR.undraw).mono ?_)
      rintro e w'' ⟨rfl, hb⟩
      exact ⟨_, rfl, _, rfl, rfl, hb⟩
    · rintro o _ ho hd a' w' hF hR hp
      have hio := (nthO_eq _ _).symm.trans ho
      cases ho
      cases hd
      have q35 : a'.tmps.getD 80 undef = .bool true := hp 35 _ 80 rfl rfl rfl
      refine step_callD hio (wanted_on rfl (show opsVk.toArray[35]? = some _ from rfl) rfl q35) rfl (enters_of Try.func16 (by kernel_rfl) rfl) (show Array.map a'.eval #[.const (.int .i64 4)] = _ from by simp only [List.map_toArray, List.map_cons, List.map_nil, Act.eval]) ((hM4 w' hR.undraw).mono ?_)
      rintro e w'' ⟨rfl, hb⟩
      exact ⟨_, rfl, _, rfl, rfl, hb⟩
    · rintro o _ ho hd a' w' hF hR hp
      have hio := (nthO_eq _ _).symm.trans ho
      cases ho
      cases hd
      have q39 : a'.tmps.getD 84 undef = .bool true := hp 39 _ 84 rfl rfl rfl
      refine step_callD hio (wanted_on rfl (show opsVk.toArray[39]? = some _ from rfl) rfl q39) rfl (enters_of Try.func16 (by kernel_rfl) rfl) (show Array.map a'.eval #[.const (.int .i64 5)] = _ from by simp only [List.map_toArray, List.map_cons, List.map_nil, Act.eval]) ((hM5 w' hR.undraw).mono ?_)
      rintro e w'' ⟨rfl, hb⟩
      exact ⟨_, rfl, _, rfl, rfl, hb⟩
  · intro _ w' hR _
    exact hQ  w'  hR.undraw
end Go.Proofs.Ytnpkaljmncehhaa
