/- Ballots that are known: the statement that draws its order. -/
import Derived.Test.YtkeaeahiokgkiaaBlBy
namespace Go.Proofs.Ytkeaeahiokgkiaa
open Go.RowKit

theorem eqL (w : World) (n r : Int) : (binOp .eql 25 (.agg #[.int .u64 n, .int .i64 r]) (.agg #[.int .u64 n, .int .i64 r])).run Try.prog w = .ok (.bool true) w := by
  simp [go_sem]
theorem okL (n r : Nat) (hn : n < 18446744073709551616) (hr : r < 9223372036854775808) : (⟨n, (r : Int)⟩ : BA).ok := ⟨hn, by show _ ≤ (r : Int); omega, by show (r : Int) ≤ _; omega⟩
theorem less12 (w : World) : Calls Try.prog 11 #[.agg #[.int .u64 1, .int .i64 2], .agg #[.int .u64 2, .int .i64 0]] w fun e W' => e = .returned (.bool true) ∧ Below w.heap.size w W' := by
  have h := less_any ⟨1, 2⟩ ⟨2, 0⟩ (okL 1 2 (by decide) (by decide)) (okL 2 0 (by decide) (by decide)) w
  rw [show decide (ltB ⟨1, 2⟩ ⟨2, 0⟩) = true by decide] at h
  exact h
theorem less20 (w : World) : Calls Try.prog 11 #[.agg #[.int .u64 2, .int .i64 0], .agg #[.int .u64 2, .int .i64 0]] w fun e W' => e = .returned (.bool false) ∧ Below w.heap.size w W' := by
  have h := less_any ⟨2, 0⟩ ⟨2, 0⟩ (okL 2 0 (by decide) (by decide)) (okL 2 0 (by decide) (by decide)) w
  rw [show decide (ltB ⟨2, 0⟩ ⟨2, 0⟩) = false by decide] at h
  exact h
theorem next02 (w : World) : Calls Try.prog 9 #[.agg #[.int .u64 0, .int .i64 0], .int .i64 2] w fun e W' => e = .returned (.tuple #[.agg #[.int .u64 1, .int .i64 2], .int .i64 0]) ∧ Below w.heap.size w W' := by
  have h := next_any ⟨0, 0⟩ 2 (okL 0 0 (by decide) (by decide)) w
  rw [show nextB ⟨0, 0⟩ 2 = (⟨1, 2⟩, 0) by decide] at h
  exact h
theorem next32 (w : World) : Calls Try.prog 9 #[.agg #[.int .u64 3, .int .i64 1], .int .i64 2] w fun e W' => e = .returned (.tuple #[.agg #[.int .u64 3, .int .i64 2], .int .i64 0]) ∧ Below w.heap.size w W' := by
  have h := next_any ⟨3, 1⟩ 2 (okL 3 1 (by decide) (by decide)) w
  rw [show nextB ⟨3, 1⟩ 2 = (⟨3, 2⟩, 0) by decide] at h
  exact h
theorem next31 (w : World) : Calls Try.prog 9 #[.agg #[.int .u64 3, .int .i64 1], .int .i64 1] w fun e W' => e = .returned (.tuple #[.agg #[.int .u64 4, .int .i64 1], .int .i64 0]) ∧ Below w.heap.size w W' := by
  have h := next_any ⟨3, 1⟩ 1 (okL 3 1 (by decide) (by decide)) w
  rw [show nextB ⟨3, 1⟩ 1 = (⟨4, 1⟩, 0) by decide] at h
  exact h
theorem has3L (w : World) : HasBA (w.alloc (.cells #[.int .u64 1, .int .i64 1, .int .u64 1, .int .i64 2, .int .u64 1, .int .i64 0] 25)) (some ⟨w.heap.size, 0, none⟩) [⟨1, 1⟩, ⟨1, 2⟩, ⟨1, 0⟩] :=
  has3B (okL 1 1 (by decide) (by decide)) (okL 1 2 (by decide) (by decide)) (okL 1 0 (by decide) (by decide))
theorem max3L (A : Option Addr) (c : Nat) (w : World) (hA : HasBA w A [⟨1, 1⟩, ⟨1, 2⟩, ⟨1, 0⟩]) : Calls Try.prog 13 #[.slice A 3 c] w fun e W' => e = .returned (.agg #[.int .u64 1, .int .i64 2]) ∧ Below w.heap.size w W' := by
  have h := max_any A 3 c [⟨1, 1⟩, ⟨1, 2⟩, ⟨1, 0⟩] w rfl (by decide) hA
  rw [show maxB [⟨1, 1⟩, ⟨1, 2⟩, ⟨1, 0⟩] = ⟨1, 2⟩ by decide] at h
  exact h
theorem bytesL : bytesBA ⟨300, 2⟩ = [172, 2, 2] := by
  show vb 300 ++ vb 2 = [172, 2, 2]
  rw [vb_ge (by decide), vb_lt (n := 300 / 128) (by decide)]
  decide
theorem putL (w : World) : Calls Try.prog 15 #[.slice none 0 0, .agg #[.int .u64 300, .int .i64 2]] w (Gives w [172, 2, 2]) := by
  have h := put_any none 0 0 [] ⟨300, 2⟩ rfl (by decide) (okL 300 2 (by decide) (by decide)) ⟨by decide, by decide⟩ w (HasA.nil _ _ _)
  rw [bytesL] at h
  exact h
theorem eqS (w : World) : (binOp .eql 9 (.string (str [172, 2, 2])) (.string { data := #[172, 2, 2] })).run Try.prog w = .ok (.bool true) w := (run_eq w [172, 2, 2] [172, 2, 2]).trans (by simp)
theorem run_bsL (w : World) : (Instr.buildSlice 22 3 #[(0, .agg #[.int .u64 1, .int .i64 1]), (1, .agg #[.int .u64 1, .int .i64 2]), (2, .agg #[.int .u64 1, .int .i64 0])]).run Try.prog w = .ok (.slice (some ⟨w.heap.size, 0, none⟩) 3 3) (w.alloc (.cells #[.int .u64 1, .int .i64 1, .int .u64 1, .int .i64 2, .int .u64 1, .int .i64 0] 25)) :=
  run_bs3B w ⟨1, 1⟩ ⟨1, 2⟩ ⟨1, 0⟩
section
variable {n : Nat} {Q : Exit → Act → World → Prop} {ops : Array Oper} {i : Nat} {o : Oper} {a : Act} {w : World} {K : Act → World → Prop}
theorem step_bsL {x0 x1 x2 : Operand} (hi : ops[i]? = some o) (hw : Region.wanted o (yielded ops a.tmps) = true) (ho : o.op = .buildSlice 22 3 #[(0, x0), (1, x1), (2, x2)]) (h0 : a.eval x0 = .agg #[.int .u64 1, .int .i64 1]) (h1 : a.eval x1 = .agg #[.int .u64 1, .int .i64 2]) (h2 : a.eval x2 = .agg #[.int .u64 1, .int .i64 0]) (h : K (a.put o.dst (.slice (some ⟨w.heap.size, 0, none⟩) 3 3)) (w.alloc (.cells #[.int .u64 1, .int .i64 1, .int .u64 1, .int .i64 2, .int .u64 1, .int .i64 0] 25))) : wpOpIn Fence.wide n Try.prog ops Q i K a w :=
  step_run hi hw (by rw [ho]; intro c h; cases h) (by simp [Oper.about, ho]) (by simp [execOp, ho, h0, h1, h2, run_bsL]) h
end
noncomputable def opsWk : List Oper := opsOf Try.f8 4
set_option maxRecDepth 100000 in
set_option maxHeartbeats 4000000 in
theorem wakes14_r (p1 p3 p5 : Nat)  (a : Act) (w : World) (Q : Exit → Act → World → Prop) (hN : a.tmps.size = 73) (h1 : a.tmps.getD 1 undef = .pointer (some ⟨p1, 0, none⟩)) (h2 : a.tmps.getD 2 undef = .int .i64 0) (h3 : a.tmps.getD 3 undef = .pointer (some ⟨p3, 0, none⟩)) (h4 : a.tmps.getD 4 undef = .int .i64 0) (h5 : a.tmps.getD 5 undef = .pointer (some ⟨p5, 0, none⟩)) (h6 : a.tmps.getD 6 undef = .int .i64 0) (hp1 : p1 < w.heap.size) (cp10 : w.cell? ⟨p1, 0, none⟩ = some (.int .u64 1)) (cp11 : w.cell? ⟨p1, 0 + 1, none⟩ = some (.int .i64 2)) (hp3 : p3 < w.heap.size) (cp30 : w.cell? ⟨p3, 0, none⟩ = some (.int .u64 3)) (cp31 : w.cell? ⟨p3, 0 + 1, none⟩ = some (.int .i64 2)) (hp5 : p5 < w.heap.size) (cp50 : w.cell? ⟨p5, 0, none⟩ = some (.int .u64 4)) (cp51 : w.cell? ⟨p5, 0 + 1, none⟩ = some (.int .i64 1)) (hQ : ∀ (v62 : Value), ∀ (v69 : Value), ∀ (w' : World), (fun v w => IsBA w v [⟨1, 1⟩, ⟨1, 2⟩, ⟨1, 0⟩]) v62 w' → IsB w' v69 ([172, 2, 2]) → Grew w w' → Q .normal (puts [(22, .agg #[.int .u64 1, .int .i64 2]), (23, .agg #[.int .u64 1, .int .i64 2]), (24, .bool true), (25, .bool true), (26, .int .i64 0), (27, .bool true), (28, .bool true), (29, .bool true), (30, .agg #[.int .u64 3, .int .i64 2]), (31, .agg #[.int .u64 3, .int .i64 2]), (32, .bool true), (33, .bool true), (34, .bool true), (35, .int .i64 0), (36, .bool true), (37, .bool true), (38, .bool true), (39, .agg #[.int .u64 4, .int .i64 1]), (40, .agg #[.int .u64 4, .int .i64 1]), (41, .bool true), (42, .bool true), (43, .bool true), (44, .int .i64 0), (45, .bool true), (46, .bool true), (47, .bool true), (48, .agg #[.int .u64 1, .int .i64 2]), (49, .agg #[.int .u64 2, .int .i64 0]), (50, .bool true), (51, .bool true), (52, .bool true), (53, .agg #[.int .u64 2, .int .i64 0]), (54, .agg #[.int .u64 2, .int .i64 0]), (55, .bool false), (56, .bool true), (57, .bool true), (58, .bool true), (59, .agg #[.int .u64 1, .int .i64 1]), (60, .agg #[.int .u64 1, .int .i64 2]), (61, .agg #[.int .u64 1, .int .i64 0]), (62, v62), (63, .agg #[.int .u64 1, .int .i64 2]), (64, .agg #[.int .u64 1, .int .i64 2]), (65, .bool true), (66, .bool true), (67, .bool true), (68, .agg #[.int .u64 300, .int .i64 2]), (69, v69), (70, .string (str [172, 2, 2])), (71, .bool true), (72, .bool true), (0, .bool true)] a) w')
    : (Code.region 4 opsWk.toArray true).wp Try.prog Q a w := by
  refine region_v 73 opsWk [(1, .pointer (some ⟨p1, 0, none⟩)), (2, .int .i64 0), (3, .pointer (some ⟨p3, 0, none⟩)), (4, .int .i64 0), (5, .pointer (some ⟨p5, 0, none⟩)), (6, .int .i64 0)] [1, 9, 18, 26, 27, 28, 31, 32, 33, 37, 38, 39, 40, 41, 42, 46, 47, 48] [.eq (.agg #[.int .u64 1, .int .i64 2]), .eq (.agg #[.int .u64 1, .int .i64 2]), .eq (.bool true), .eq (.bool true), .eq (.int .i64 0), .eq (.bool true), .eq (.bool true), .eq (.bool true), .eq (.agg #[.int .u64 3, .int .i64 2]), .eq (.agg #[.int .u64 3, .int .i64 2]), .eq (.bool true), .eq (.bool true), .eq (.bool true), .eq (.int .i64 0), .eq (.bool true), .eq (.bool true), .eq (.bool true), .eq (.agg #[.int .u64 4, .int .i64 1]), .eq (.agg #[.int .u64 4, .int .i64 1]), .eq (.bool true), .eq (.bool true), .eq (.bool true), .eq (.int .i64 0), .eq (.bool true), .eq (.bool true), .eq (.bool true), .eq (.agg #[.int .u64 1, .int .i64 2]), .eq (.agg #[.int .u64 2, .int .i64 0]), .eq (.bool true), .eq (.bool true), .eq (.bool true), .eq (.agg #[.int .u64 2, .int .i64 0]), .eq (.agg #[.int .u64 2, .int .i64 0]), .eq (.bool false), .eq (.bool true), .eq (.bool true), .eq (.bool true), .eq (.agg #[.int .u64 1, .int .i64 1]), .eq (.agg #[.int .u64 1, .int .i64 2]), .eq (.agg #[.int .u64 1, .int .i64 0]), .pr fun v w => IsBA w v [⟨1, 1⟩, ⟨1, 2⟩, ⟨1, 0⟩], .eq (.agg #[.int .u64 1, .int .i64 2]), .eq (.agg #[.int .u64 1, .int .i64 2]), .eq (.bool true), .eq (.bool true), .eq (.bool true), .eq (.agg #[.int .u64 300, .int .i64 2]), .pr fun v w => IsB w v ([172, 2, 2]), .eq (.string (str [172, 2, 2])), .eq (.bool true), .eq (.bool true), .eq (.bool true)] Grew Grew.refl Grew.trans follows (by kernel_rfl) (by kernel_rfl) hN ⟨h1, h2, h3, h4, h5, h6, trivial⟩ rfl ?_ ?_ ?_ ?_
  · exact ⟨(fun _ _ _ h hg => h.grew hg), (fun _ _ _ h hg => IsB.grew h hg), trivial⟩
  · intro _ w' hR _
    exact ⟨fun _ => ob_load (ldBA _ _ _ _ _ ((Below.cell hR.undraw (p := ⟨p1, 0, none⟩) hp1).trans cp10) ((Below.cell hR.undraw (p := ⟨p1, 0 + 1, none⟩) hp1).trans cp11)), trivial, fun _ => ob_bin (guardBA _ _ _ _ _ _) (eqL _ _ _), fun _ => rfl, fun _ => rfl, fun _ => ob_bin (guard_int _ _ _ _ _ _ _ _ _) ((run_eqi _ _ _ _ _).trans (by rfl)), fun _ => ob_pick rfl rfl, fun _ => rfl, fun _ => ob_load (ldBA _ _ _ _ _ ((Below.cell hR.undraw (p := ⟨p3, 0, none⟩) hp3).trans cp30) ((Below.cell hR.undraw (p := ⟨p3, 0 + 1, none⟩) hp3).trans cp31)), trivial, fun _ => ob_bin (guardBA _ _ _ _ _ _) (eqL _ _ _), fun _ => ob_pick rfl rfl, fun _ => rfl, fun _ => rfl, fun _ => ob_bin (guard_int _ _ _ _ _ _ _ _ _) ((run_eqi _ _ _ _ _).trans (by rfl)), fun _ => ob_pick rfl rfl, fun _ => rfl, fun _ => ob_load (ldBA _ _ _ _ _ ((Below.cell hR.undraw (p := ⟨p5, 0, none⟩) hp5).trans cp50) ((Below.cell hR.undraw (p := ⟨p5, 0 + 1, none⟩) hp5).trans cp51)), trivial, fun _ => ob_bin (guardBA _ _ _ _ _ _) (eqL _ _ _), fun _ => ob_pick rfl rfl, fun _ => rfl, fun _ => rfl, fun _ => ob_bin (guard_int _ _ _ _ _ _ _ _ _) ((run_eqi _ _ _ _ _).trans (by rfl)), fun _ => ob_pick rfl rfl, fun _ => rfl, trivial, trivial, trivial, fun _ => ob_pick rfl rfl, fun _ => rfl, trivial, trivial, trivial, fun _ => ob_un (run_not _ _), fun _ => ob_pick rfl rfl, fun _ => rfl, trivial, trivial, trivial, trivial, trivial, trivial, fun _ => ob_bin (guardBA _ _ _ _ _ _) (eqL _ _ _), fun _ => ob_pick rfl rfl, fun _ => rfl, trivial, trivial, trivial, fun _ => ob_bin (guard_str _ _ _ _ _ _ _) (eqS _), fun _ => ob_pick rfl rfl, fun _ => rfl, trivial⟩
  · refine ⟨?_, ?_, ?_, ?_, ?_, ?_, ?_, ?_, ?_, ?_, ?_, ?_, ?_, ?_, ?_, ?_, ?_, ?_, trivial⟩
    · rintro o _ ho hd a' w' hF hR hp
      have hio := (nthO_eq _ _).symm.trans ho
      cases ho
      cases hd
      refine step_callD hio rfl rfl (enters_of Try.func20 (by kernel_rfl) rfl) (show Array.map a'.eval #[.const (.int .u64 1), .const (.int .i64 2)] = _ from by simp only [List.map_toArray, List.map_cons, List.map_nil, Act.eval]) ((of_ba 1 2 w').mono ?_)
      rintro e w'' ⟨rfl, hb⟩
      exact ⟨_, rfl, _, rfl, rfl, hb⟩
    · rintro o _ ho hd a' w' hF hR hp
      have hio := (nthO_eq _ _).symm.trans ho
      cases ho
      cases hd
      have q7 : a'.tmps.getD 29 undef = .bool true := hp 7 _ 29 rfl rfl rfl
      refine step_callD hio (wanted_on rfl (show opsWk.toArray[7]? = some _ from rfl) rfl q7) rfl (enters_of Try.func20 (by kernel_rfl) rfl) (show Array.map a'.eval #[.const (.int .u64 3), .const (.int .i64 2)] = _ from by simp only [List.map_toArray, List.map_cons, List.map_nil, Act.eval]) ((of_ba 3 2 w').mono ?_)
      rintro e w'' ⟨rfl, hb⟩
      exact ⟨_, rfl, _, rfl, rfl, hb⟩
    · rintro o _ ho hd a' w' hF hR hp
      have hio := (nthO_eq _ _).symm.trans ho
      cases ho
      cases hd
      have q16 : a'.tmps.getD 38 undef = .bool true := hp 16 _ 38 rfl rfl rfl
      refine step_callD hio (wanted_on rfl (show opsWk.toArray[16]? = some _ from rfl) rfl q16) rfl (enters_of Try.func20 (by kernel_rfl) rfl) (show Array.map a'.eval #[.const (.int .u64 4), .const (.int .i64 1)] = _ from by simp only [List.map_toArray, List.map_cons, List.map_nil, Act.eval]) ((of_ba 4 1 w').mono ?_)
      rintro e w'' ⟨rfl, hb⟩
      exact ⟨_, rfl, _, rfl, rfl, hb⟩
    · rintro o _ ho hd a' w' hF hR hp
      have hio := (nthO_eq _ _).symm.trans ho
      cases ho
      cases hd
      have q25 : a'.tmps.getD 47 undef = .bool true := hp 25 _ 47 rfl rfl rfl
      refine step_callD hio (wanted_on rfl (show opsWk.toArray[25]? = some _ from rfl) rfl q25) rfl (enters_of Try.func20 (by kernel_rfl) rfl) (show Array.map a'.eval #[.const (.int .u64 1), .const (.int .i64 2)] = _ from by simp only [List.map_toArray, List.map_cons, List.map_nil, Act.eval]) ((of_ba 1 2 w').mono ?_)
      rintro e w'' ⟨rfl, hb⟩
      exact ⟨_, rfl, _, rfl, rfl, hb⟩
    · rintro o _ ho hd a' w' hF hR hp
      have hio := (nthO_eq _ _).symm.trans ho
      cases ho
      cases hd
      have q25 : a'.tmps.getD 47 undef = .bool true := hp 25 _ 47 rfl rfl rfl
      refine step_callD hio (wanted_on rfl (show opsWk.toArray[25]? = some _ from rfl) rfl q25) rfl (enters_of Try.func20 (by kernel_rfl) rfl) (show Array.map a'.eval #[.const (.int .u64 2), .const (.int .i64 0)] = _ from by simp only [List.map_toArray, List.map_cons, List.map_nil, Act.eval]) ((of_ba 2 0 w').mono ?_)
      rintro e w'' ⟨rfl, hb⟩
      exact ⟨_, rfl, _, rfl, rfl, hb⟩
    · rintro o _ ho hd a' w' hF hR hp
      have hio := (nthO_eq _ _).symm.trans ho
      cases ho
      cases hd
      have q25 : a'.tmps.getD 47 undef = .bool true := hp 25 _ 47 rfl rfl rfl
      have q26 : a'.tmps.getD 48 undef = .agg #[.int .u64 1, .int .i64 2] := hp 26 _ 48 rfl rfl rfl
      have q27 : a'.tmps.getD 49 undef = .agg #[.int .u64 2, .int .i64 0] := hp 27 _ 49 rfl rfl rfl
      refine step_callD hio (wanted_on rfl (show opsWk.toArray[25]? = some _ from rfl) rfl q25) rfl (enters_of Try.func11 (by kernel_rfl) rfl) (show Array.map a'.eval #[.tmp 48, .tmp 49] = _ from by simp only [List.map_toArray, List.map_cons, List.map_nil, Act.eval, q26, q27]) ((less12 w').mono ?_)
      rintro e w'' ⟨rfl, hb⟩
      exact ⟨_, rfl, _, rfl, rfl, hb⟩
    · rintro o _ ho hd a' w' hF hR hp
      have hio := (nthO_eq _ _).symm.trans ho
      cases ho
      cases hd
      have q30 : a'.tmps.getD 52 undef = .bool true := hp 30 _ 52 rfl rfl rfl
      refine step_callD hio (wanted_on rfl (show opsWk.toArray[30]? = some _ from rfl) rfl q30) rfl (enters_of Try.func20 (by kernel_rfl) rfl) (show Array.map a'.eval #[.const (.int .u64 2), .const (.int .i64 0)] = _ from by simp only [List.map_toArray, List.map_cons, List.map_nil, Act.eval]) ((of_ba 2 0 w').mono ?_)
      rintro e w'' ⟨rfl, hb⟩
      exact ⟨_, rfl, _, rfl, rfl, hb⟩
    · rintro o _ ho hd a' w' hF hR hp
      have hio := (nthO_eq _ _).symm.trans ho
      cases ho
      cases hd
      have q30 : a'.tmps.getD 52 undef = .bool true := hp 30 _ 52 rfl rfl rfl
      refine step_callD hio (wanted_on rfl (show opsWk.toArray[30]? = some _ from rfl) rfl q30) rfl (enters_of Try.func20 (by kernel_rfl) rfl) (show Array.map a'.eval #[.const (.int .u64 2), .const (.int .i64 0)] = _ from by simp only [List.map_toArray, List.map_cons, List.map_nil, Act.eval]) ((of_ba 2 0 w').mono ?_)
      rintro e w'' ⟨rfl, hb⟩
      exact ⟨_, rfl, _, rfl, rfl, hb⟩
    · rintro o _ ho hd a' w' hF hR hp
      have hio := (nthO_eq _ _).symm.trans ho
      cases ho
      cases hd
      have q30 : a'.tmps.getD 52 undef = .bool true := hp 30 _ 52 rfl rfl rfl
      have q31 : a'.tmps.getD 53 undef = .agg #[.int .u64 2, .int .i64 0] := hp 31 _ 53 rfl rfl rfl
      have q32 : a'.tmps.getD 54 undef = .agg #[.int .u64 2, .int .i64 0] := hp 32 _ 54 rfl rfl rfl
      refine step_callD hio (wanted_on rfl (show opsWk.toArray[30]? = some _ from rfl) rfl q30) rfl (enters_of Try.func11 (by kernel_rfl) rfl) (show Array.map a'.eval #[.tmp 53, .tmp 54] = _ from by simp only [List.map_toArray, List.map_cons, List.map_nil, Act.eval, q31, q32]) ((less20 w').mono ?_)
      rintro e w'' ⟨rfl, hb⟩
      exact ⟨_, rfl, _, rfl, rfl, hb⟩
    · rintro o _ ho hd a' w' hF hR hp
      have hio := (nthO_eq _ _).symm.trans ho
      cases ho
      cases hd
      have q36 : a'.tmps.getD 58 undef = .bool true := hp 36 _ 58 rfl rfl rfl
      refine step_callD hio (wanted_on rfl (show opsWk.toArray[36]? = some _ from rfl) rfl q36) rfl (enters_of Try.func20 (by kernel_rfl) rfl) (show Array.map a'.eval #[.const (.int .u64 1), .const (.int .i64 1)] = _ from by simp only [List.map_toArray, List.map_cons, List.map_nil, Act.eval]) ((of_ba 1 1 w').mono ?_)
      rintro e w'' ⟨rfl, hb⟩
      exact ⟨_, rfl, _, rfl, rfl, hb⟩
    · rintro o _ ho hd a' w' hF hR hp
      have hio := (nthO_eq _ _).symm.trans ho
      cases ho
      cases hd
      have q36 : a'.tmps.getD 58 undef = .bool true := hp 36 _ 58 rfl rfl rfl
      refine step_callD hio (wanted_on rfl (show opsWk.toArray[36]? = some _ from rfl) rfl q36) rfl (enters_of Try.func20 (by kernel_rfl) rfl) (show Array.map a'.eval #[.const (.int .u64 1), .const (.int .i64 2)] = _ from by simp only [List.map_toArray, List.map_cons, List.map_nil, Act.eval]) ((of_ba 1 2 w').mono ?_)
      rintro e w'' ⟨rfl, hb⟩
      exact ⟨_, rfl, _, rfl, rfl, hb⟩
    · rintro o _ ho hd a' w' hF hR hp
      have hio := (nthO_eq _ _).symm.trans ho
      cases ho
      cases hd
      have q36 : a'.tmps.getD 58 undef = .bool true := hp 36 _ 58 rfl rfl rfl
      refine step_callD hio (wanted_on rfl (show opsWk.toArray[36]? = some _ from rfl) rfl q36) rfl (enters_of Try.func20 (by kernel_rfl) rfl) (show Array.map a'.eval #[.const (.int .u64 1), .const (.int .i64 0)] = _ from by simp only [List.map_toArray, List.map_cons, List.map_nil, Act.eval]) ((of_ba 1 0 w').mono ?_)
      rintro e w'' ⟨rfl, hb⟩
      exact ⟨_, rfl, _, rfl, rfl, hb⟩
    · rintro o _ ho hd a' w' hF hR hp
      have hio := (nthO_eq _ _).symm.trans ho
      cases ho
      cases hd
      have q36 : a'.tmps.getD 58 undef = .bool true := hp 36 _ 58 rfl rfl rfl
      have q37 : a'.tmps.getD 59 undef = .agg #[.int .u64 1, .int .i64 1] := hp 37 _ 59 rfl rfl rfl
      have q38 : a'.tmps.getD 60 undef = .agg #[.int .u64 1, .int .i64 2] := hp 38 _ 60 rfl rfl rfl
      have q39 : a'.tmps.getD 61 undef = .agg #[.int .u64 1, .int .i64 0] := hp 39 _ 61 rfl rfl rfl
      exact step_bsL hio (wanted_on rfl (show opsWk.toArray[36]? = some _ from rfl) rfl q36) rfl q37 q38 q39 ⟨_, rfl, ⟨_, _, rfl, has3L _⟩, (Below.refl _ _).alloc (Nat.le_refl _) _⟩
    · rintro o _ ho hd a' w' hF hR hp
      have hio := (nthO_eq _ _).symm.trans ho
      cases ho
      cases hd
      have q36 : a'.tmps.getD 58 undef = .bool true := hp 36 _ 58 rfl rfl rfl
      have q40 : (fun v w => IsBA w v [⟨1, 1⟩, ⟨1, 2⟩, ⟨1, 0⟩]) (a'.tmps.getD 62 undef) w' := hp 40 _ 62 rfl rfl rfl
      obtain ⟨A, c, eA, hA⟩ := q40
      refine step_callD hio (wanted_on rfl (show opsWk.toArray[36]? = some _ from rfl) rfl q36) rfl (enters_of Try.func13 (by kernel_rfl) rfl) (show Array.map a'.eval #[.tmp 62] = _ from by simp only [List.map_toArray, List.map_cons, List.map_nil, Act.eval, eA]; rfl) ((max3L A c w' hA).mono ?_)
      rintro e w'' ⟨rfl, hb⟩
      exact ⟨_, rfl, _, rfl, rfl, hb⟩
    · rintro o _ ho hd a' w' hF hR hp
      have hio := (nthO_eq _ _).symm.trans ho
      cases ho
      cases hd
      have q36 : a'.tmps.getD 58 undef = .bool true := hp 36 _ 58 rfl rfl rfl
      refine step_callD hio (wanted_on rfl (show opsWk.toArray[36]? = some _ from rfl) rfl q36) rfl (enters_of Try.func20 (by kernel_rfl) rfl) (show Array.map a'.eval #[.const (.int .u64 1), .const (.int .i64 2)] = _ from by simp only [List.map_toArray, List.map_cons, List.map_nil, Act.eval]) ((of_ba 1 2 w').mono ?_)
      rintro e w'' ⟨rfl, hb⟩
      exact ⟨_, rfl, _, rfl, rfl, hb⟩
    · rintro o _ ho hd a' w' hF hR hp
      have hio := (nthO_eq _ _).symm.trans ho
      cases ho
      cases hd
      have q45 : a'.tmps.getD 67 undef = .bool true := hp 45 _ 67 rfl rfl rfl
      refine step_callD hio (wanted_on rfl (show opsWk.toArray[45]? = some _ from rfl) rfl q45) rfl (enters_of Try.func20 (by kernel_rfl) rfl) (show Array.map a'.eval #[.const (.int .u64 300), .const (.int .i64 2)] = _ from by simp only [List.map_toArray, List.map_cons, List.map_nil, Act.eval]) ((of_ba 300 2 w').mono ?_)
      rintro e w'' ⟨rfl, hb⟩
      exact ⟨_, rfl, _, rfl, rfl, hb⟩
    · rintro o _ ho hd a' w' hF hR hp
      have hio := (nthO_eq _ _).symm.trans ho
      cases ho
      cases hd
      have q45 : a'.tmps.getD 67 undef = .bool true := hp 45 _ 67 rfl rfl rfl
      have q46 : a'.tmps.getD 68 undef = .agg #[.int .u64 300, .int .i64 2] := hp 46 _ 68 rfl rfl rfl
      refine step_callD hio (wanted_on rfl (show opsWk.toArray[45]? = some _ from rfl) rfl q45) rfl (enters_of Try.func15 (by kernel_rfl) rfl) (show Array.map a'.eval #[.const (.slice none 0 0), .tmp 68] = _ from by simp only [List.map_toArray, List.map_cons, List.map_nil, Act.eval, q46]) ((putL w').mono ?_)
      rintro e w'' ⟨g, L, c, rfl, ho, hb⟩
      exact ⟨_, rfl, _, rfl, IsB.own ho, hb⟩
    · rintro o _ ho hd a' w' hF hR hp
      have hio := (nthO_eq _ _).symm.trans ho
      cases ho
      cases hd
      have q45 : a'.tmps.getD 67 undef = .bool true := hp 45 _ 67 rfl rfl rfl
      have q47 : IsB w' (a'.tmps.getD 69 undef) ([172, 2, 2]) := hp 47 _ 69 rfl rfl rfl
      exact step_conv hio (wanted_on rfl (show opsWk.toArray[45]? = some _ from rfl) rfl q45) rfl (show IsB w' (a'.tmps.getD 69 undef) _ from q47) ⟨_, rfl, rfl, Grew.refl _⟩
  · intro u w' hR h
    exact hQ (u 40) (u 47) w' (h 40 (Nat.le_of_ble_eq_true rfl)) (h 47 (Nat.le_of_ble_eq_true rfl)) hR.undraw
end Go.Proofs.Ytkeaeahiokgkiaa
