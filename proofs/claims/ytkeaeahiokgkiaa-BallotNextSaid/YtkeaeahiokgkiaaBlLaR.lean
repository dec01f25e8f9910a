/- The laws of ballots: the statements that draw their order. -/
import Derived.Test.YtkeaeahiokgkiaaBlWk
namespace Go.Proofs.Ytkeaeahiokgkiaa
open Go.RowKit

theorem neIF (t : TypeId) (k : IntKind) (w : World) (x : Int) : (binOp .neq t (.int k x) (.int k x)).run Try.prog w = .ok (.bool false) w := by simp [go_sem]
theorem neIT (t : TypeId) (k : IntKind) (w : World) (x y : Int) (h : ¬ x = y) : (binOp .neq t (.int k x) (.int k y)).run Try.prog w = .ok (.bool true) w := by simp [go_sem, h]
theorem neBF (w : World) (x : Bool) : (binOp .neq 4 (.bool x) (.bool x)).run Try.prog w = .ok (.bool false) w := by cases x <;> simp [go_sem]
theorem neLF (w : World) (x : BA) : (binOp .neq 25 (.agg #[.int .u64 (x.n : Int), .int .i64 x.r]) (.agg #[.int .u64 (x.n : Int), .int .i64 x.r])).run Try.prog w = .ok (.bool false) w := (neBA w x x).trans (by simp)
theorem neSF (w : World) (x : List UInt8) : (binOp .neq 9 (.string (str x)) (.string (str x))).run Try.prog w = .ok (.bool false) w := (run_neq w x x).trans (by simp)
theorem geT (t : TypeId) (k : IntKind) (w : World) (x y : Int) (h : y ≤ x) : (binOp .geq t (.int k x) (.int k y)).run Try.prog w = .ok (.bool true) w := by simp [go_sem, h]
theorem geF (t : TypeId) (k : IntKind) (w : World) (x y : Int) (h : ¬ y ≤ x) : (binOp .geq t (.int k x) (.int k y)).run Try.prog w = .ok (.bool false) w := by simp [go_sem, h]
theorem ltTi (t : TypeId) (k : IntKind) (w : World) (x y : Int) (h : x < y) : (binOp .lss t (.int k x) (.int k y)).run Try.prog w = .ok (.bool true) w := by simp [go_sem, h]
theorem ltFi (t : TypeId) (k : IntKind) (w : World) (x y : Int) (h : ¬ x < y) : (binOp .lss t (.int k x) (.int k y)).run Try.prog w = .ok (.bool false) w := by simp [go_sem, h]
theorem gtFi (t : TypeId) (k : IntKind) (w : World) (x y : Int) (h : ¬ y < x) : (binOp .gtr t (.int k x) (.int k y)).run Try.prog w = .ok (.bool false) w := by simp [go_sem, h]
noncomputable def opsCa : List Oper := opsOf Try.f3 5
set_option maxRecDepth 100000 in
set_option maxHeartbeats 4000000 in
theorem calls_cmp (A : Option Addr) (L c pa pb px py : Nat) (ya yb x : BA) (l : List BA) (er : Nat)  (a : Act) (w : World) (Q : Exit → Act → World → Prop) (hN : a.tmps.size = 82) (h0 : a.tmps.getD 0 undef = .slice A L c) (h6 : a.tmps.getD 6 undef = .pointer (some ⟨pa, 0, none⟩)) (h7 : a.tmps.getD 7 undef = .pointer (some ⟨pb, 0, none⟩)) (h11 : a.tmps.getD 11 undef = .pointer (some ⟨px, 0, none⟩)) (h12 : a.tmps.getD 12 undef = .int .i64 (er : Int)) (h13 : a.tmps.getD 13 undef = .pointer (some ⟨py, 0, none⟩)) (h14 : a.tmps.getD 14 undef = .int .i64 (er : Int)) (kpa : w.heap[pa]? = some (.cells #[.int .u64 (ya.n : Int), .int .i64 ya.r] 25 (0, 0))) (kpb : w.heap[pb]? = some (.cells #[.int .u64 (yb.n : Int), .int .i64 yb.r] 25 (0, 0))) (kpx : w.heap[px]? = some (.cells #[.int .u64 (x.n : Int), .int .i64 x.r] 25 (0, 0))) (kpy : w.heap[py]? = some (.cells #[.int .u64 (x.n : Int), .int .i64 x.r] 25 (0, 0))) (ha : ya.ok) (hb : yb.ok) (hL : L = l.length) (hLm : L ≤ 1000) (hA : HasBA w A l) (hQ : ∀ (w' : World), Grew w w' → Q .normal (puts [(36, .agg #[.int .u64 (x.n : Int), .int .i64 x.r]), (37, .agg #[.int .u64 (x.n : Int), .int .i64 x.r]), (38, .bool false), (39, .bool false), (40, .int .i64 (er : Int)), (41, .int .i64 (er : Int)), (42, .bool false), (43, .bool false), (44, .bool false), (45, .agg #[.int .u64 (ya.n : Int), .int .i64 ya.r]), (46, .agg #[.int .u64 (yb.n : Int), .int .i64 yb.r]), (47, .bool (decide (ltB ya yb))), (48, .agg #[.int .u64 (ya.n : Int), .int .i64 ya.r]), (49, .agg #[.int .u64 (yb.n : Int), .int .i64 yb.r]), (50, .bool (decide (ltB ya yb))), (51, .bool false), (52, .bool false), (53, .bool false), (54, .slice A L c), (55, .agg #[.int .u64 ((maxB l).n : Int), .int .i64 (maxB l).r]), (56, .slice A L c), (57, .agg #[.int .u64 ((maxB l).n : Int), .int .i64 (maxB l).r]), (58, .bool false), (59, .bool false)] a) w')
    : (Code.region 5 opsCa.toArray true).wp Try.prog Q a w := by
  refine region_v 82 opsCa [(0, .slice A L c), (6, .pointer (some ⟨pa, 0, none⟩)), (7, .pointer (some ⟨pb, 0, none⟩)), (11, .pointer (some ⟨px, 0, none⟩)), (12, .int .i64 (er : Int)), (13, .pointer (some ⟨py, 0, none⟩)), (14, .int .i64 (er : Int))] [11, 14, 19, 21] [.eq (.agg #[.int .u64 (x.n : Int), .int .i64 x.r]), .eq (.agg #[.int .u64 (x.n : Int), .int .i64 x.r]), .eq (.bool false), .eq (.bool false), .eq (.int .i64 (er : Int)), .eq (.int .i64 (er : Int)), .eq (.bool false), .eq (.bool false), .eq (.bool false), .eq (.agg #[.int .u64 (ya.n : Int), .int .i64 ya.r]), .eq (.agg #[.int .u64 (yb.n : Int), .int .i64 yb.r]), .eq (.bool (decide (ltB ya yb))), .eq (.agg #[.int .u64 (ya.n : Int), .int .i64 ya.r]), .eq (.agg #[.int .u64 (yb.n : Int), .int .i64 yb.r]), .eq (.bool (decide (ltB ya yb))), .eq (.bool false), .eq (.bool false), .eq (.bool false), .eq (.slice A L c), .eq (.agg #[.int .u64 ((maxB l).n : Int), .int .i64 (maxB l).r]), .eq (.slice A L c), .eq (.agg #[.int .u64 ((maxB l).n : Int), .int .i64 (maxB l).r]), .eq (.bool false), .eq (.bool false)] Grew Grew.refl Grew.trans follows (by kernel_rfl) (by kernel_rfl) hN ⟨h0, h6, h7, h11, h12, h13, h14, trivial⟩ rfl trivial ?_ ?_ ?_
  · intro _ w' hR _
    exact ⟨fun _ => ob_load (ldBA _ _ _ _ _ ((Below.cell hR.undraw (p := ⟨px, 0, none⟩) (Array.getElem?_eq_some_iff.1 kpx).1).trans (by rw [blk_cell kpx 0]; rfl)) ((Below.cell hR.undraw (p := ⟨px, 1, none⟩) (Array.getElem?_eq_some_iff.1 kpx).1).trans (by rw [blk_cell kpx 1]; rfl))), fun _ => ob_load (ldBA _ _ _ _ _ ((Below.cell hR.undraw (p := ⟨py, 0, none⟩) (Array.getElem?_eq_some_iff.1 kpy).1).trans (by rw [blk_cell kpy 0]; rfl)) ((Below.cell hR.undraw (p := ⟨py, 1, none⟩) (Array.getElem?_eq_some_iff.1 kpy).1).trans (by rw [blk_cell kpy 1]; rfl))), fun _ => ob_bin (guardBA _ _ _ _ _ _) (neLF _ _), fun _ => rfl, fun _ => rfl, fun _ => rfl, fun _ => ob_bin (guard_int _ _ _ _ _ _ _ _ _) (neIF _ _ _ _), fun _ => ob_pick rfl rfl, fun _ => rfl, fun _ => ob_load (ldBA _ _ _ _ _ ((Below.cell hR.undraw (p := ⟨pa, 0, none⟩) (Array.getElem?_eq_some_iff.1 kpa).1).trans (by rw [blk_cell kpa 0]; rfl)) ((Below.cell hR.undraw (p := ⟨pa, 1, none⟩) (Array.getElem?_eq_some_iff.1 kpa).1).trans (by rw [blk_cell kpa 1]; rfl))), fun _ => ob_load (ldBA _ _ _ _ _ ((Below.cell hR.undraw (p := ⟨pb, 0, none⟩) (Array.getElem?_eq_some_iff.1 kpb).1).trans (by rw [blk_cell kpb 0]; rfl)) ((Below.cell hR.undraw (p := ⟨pb, 1, none⟩) (Array.getElem?_eq_some_iff.1 kpb).1).trans (by rw [blk_cell kpb 1]; rfl))), trivial, fun _ => ob_load (ldBA _ _ _ _ _ ((Below.cell hR.undraw (p := ⟨pa, 0, none⟩) (Array.getElem?_eq_some_iff.1 kpa).1).trans (by rw [blk_cell kpa 0]; rfl)) ((Below.cell hR.undraw (p := ⟨pa, 1, none⟩) (Array.getElem?_eq_some_iff.1 kpa).1).trans (by rw [blk_cell kpa 1]; rfl))), fun _ => ob_load (ldBA _ _ _ _ _ ((Below.cell hR.undraw (p := ⟨pb, 0, none⟩) (Array.getElem?_eq_some_iff.1 kpb).1).trans (by rw [blk_cell kpb 0]; rfl)) ((Below.cell hR.undraw (p := ⟨pb, 1, none⟩) (Array.getElem?_eq_some_iff.1 kpb).1).trans (by rw [blk_cell kpb 1]; rfl))), trivial, fun _ => ob_bin (guard_bool _ _ _ _ _ _ _) (neBF _ _), fun _ => ob_pick rfl rfl, fun _ => rfl, fun _ => rfl, trivial, fun _ => rfl, trivial, fun _ => ob_bin (guardBA _ _ _ _ _ _) (neLF _ _), fun _ => ob_pick rfl rfl, trivial⟩
  · refine ⟨?_, ?_, ?_, ?_, trivial⟩
    · rintro o _ ho hd a' w' hF hR hp
      have hio := (nthO_eq _ _).symm.trans ho
      cases ho
      cases hd
      have q8 : a'.tmps.getD 44 undef = .bool false := hp 8 _ 44 rfl rfl rfl
      have q9 : a'.tmps.getD 45 undef = .agg #[.int .u64 (ya.n : Int), .int .i64 ya.r] := hp 9 _ 45 rfl rfl rfl
      have q10 : a'.tmps.getD 46 undef = .agg #[.int .u64 (yb.n : Int), .int .i64 yb.r] := hp 10 _ 46 rfl rfl rfl
      refine step_callD hio (wanted_on rfl (show opsCa.toArray[8]? = some _ from rfl) rfl q8) rfl (enters_of Try.func11 (by kernel_rfl) rfl) (show Array.map a'.eval #[.tmp 45, .tmp 46] = _ from by simp only [List.map_toArray, List.map_cons, List.map_nil, Act.eval, q9, q10]) ((less_any ya yb ha hb w').mono ?_)
      rintro e w'' ⟨rfl, hbb⟩
      exact ⟨_, rfl, _, rfl, rfl, hbb⟩
    · rintro o _ ho hd a' w' hF hR hp
      have hio := (nthO_eq _ _).symm.trans ho
      cases ho
      cases hd
      have q8 : a'.tmps.getD 44 undef = .bool false := hp 8 _ 44 rfl rfl rfl
      have q12 : a'.tmps.getD 48 undef = .agg #[.int .u64 (ya.n : Int), .int .i64 ya.r] := hp 12 _ 48 rfl rfl rfl
      have q13 : a'.tmps.getD 49 undef = .agg #[.int .u64 (yb.n : Int), .int .i64 yb.r] := hp 13 _ 49 rfl rfl rfl
      refine step_callD hio (wanted_on rfl (show opsCa.toArray[8]? = some _ from rfl) rfl q8) rfl (enters_of Try.func12 (by kernel_rfl) rfl) (show Array.map a'.eval #[.tmp 48, .tmp 49] = _ from by simp only [List.map_toArray, List.map_cons, List.map_nil, Act.eval, q12, q13]) ((refLess_any ya yb w').mono ?_)
      rintro e w'' ⟨rfl, hbb⟩
      exact ⟨_, rfl, _, rfl, rfl, hbb⟩
    · rintro o _ ho hd a' w' hF hR hp
      have hio := (nthO_eq _ _).symm.trans ho
      cases ho
      cases hd
      have q17 : a'.tmps.getD 53 undef = .bool false := hp 17 _ 53 rfl rfl rfl
      have q18 : a'.tmps.getD 54 undef = .slice A L c := hp 18 _ 54 rfl rfl rfl
      refine step_callD hio (wanted_on rfl (show opsCa.toArray[17]? = some _ from rfl) rfl q17) rfl (enters_of Try.func13 (by kernel_rfl) rfl) (show Array.map a'.eval #[.tmp 54] = _ from by simp only [List.map_toArray, List.map_cons, List.map_nil, Act.eval, q18]) ((max_any A L c l w' hL hLm (hA.below hR.undraw)).mono ?_)
      rintro e w'' ⟨rfl, hbb⟩
      exact ⟨_, rfl, _, rfl, rfl, hbb⟩
    · rintro o _ ho hd a' w' hF hR hp
      have hio := (nthO_eq _ _).symm.trans ho
      cases ho
      cases hd
      have q17 : a'.tmps.getD 53 undef = .bool false := hp 17 _ 53 rfl rfl rfl
      have q20 : a'.tmps.getD 56 undef = .slice A L c := hp 20 _ 56 rfl rfl rfl
      refine step_callD hio (wanted_on rfl (show opsCa.toArray[17]? = some _ from rfl) rfl q17) rfl (enters_of Try.func14 (by kernel_rfl) rfl) (show Array.map a'.eval #[.tmp 56] = _ from by simp only [List.map_toArray, List.map_cons, List.map_nil, Act.eval, q20]) ((refMax_any A L c l w' hL hLm (hA.below hR.undraw)).mono ?_)
      rintro e w'' ⟨rfl, hbb⟩
      exact ⟨_, rfl, _, rfl, rfl, hbb⟩
  · intro _ w' hR _
    exact hQ  w'  hR.undraw
noncomputable def opsCbA : List Oper := opsOf Try.f3 7
set_option maxRecDepth 100000 in
set_option maxHeartbeats 4000000 in
theorem calls_putA (A : Option Addr) (L c pb : Nat) (yb : BA)  (a : Act) (w : World) (Q : Exit → Act → World → Prop) (hN : a.tmps.size = 82) (h4 : a.tmps.getD 4 undef = .slice A L c) (h7 : a.tmps.getD 7 undef = .pointer (some ⟨pb, 0, none⟩)) (kpb : w.heap[pb]? = some (.cells #[.int .u64 (yb.n : Int), .int .i64 yb.r] 25 (0, 0))) (g0 : ¬ 0 ≤ yb.r) (hQ : ∀ (w' : World), Grew w w' → Q .normal (puts [(60, .pointer (some ⟨pb, 1, none⟩)), (61, .int .i64 yb.r), (62, .bool false), (63, .bool false), (64, undef), (65, undef), (66, undef), (67, .bool false), (68, .bool false), (69, undef), (70, undef), (71, undef), (72, undef), (73, undef), (74, undef), (75, undef), (76, undef), (77, undef), (78, undef), (79, undef), (80, .bool false)] a) w')
    : (Code.region 7 opsCbA.toArray true).wp Try.prog Q a w := by
  refine region_v 82 opsCbA [(4, .slice A L c), (7, .pointer (some ⟨pb, 0, none⟩))] [] [.eq (.pointer (some ⟨pb, 1, none⟩)), .eq (.int .i64 yb.r), .eq (.bool false), .eq (.bool false), .eq (undef), .eq (undef), .eq (undef), .eq (.bool false), .eq (.bool false), .eq (undef), .eq (undef), .eq (undef), .eq (undef), .eq (undef), .eq (undef), .eq (undef), .eq (undef), .eq (undef), .eq (undef), .eq (undef), .eq (.bool false)] Grew Grew.refl Grew.trans follows (by kernel_rfl) (by kernel_rfl) hN ⟨h4, h7, trivial⟩ rfl trivial ?_ ?_ ?_
  · intro _ w' hR _
    exact ⟨fun _ => ob_fld (fdBA _ _ _ (.inr rfl)), fun _ => ob_load (ldBi _ _ _ ((Below.cell hR.undraw (p := ⟨pb, 1, none⟩) (Array.getElem?_eq_some_iff.1 kpb).1).trans (by rw [blk_cell kpb 1]; rfl))), fun _ => ob_bin (guard_int _ _ _ _ _ _ _ _ _) (geF _ _ _ _ _ g0), fun _ => rfl, fun _ => rfl, fun _ => rfl, fun _ => rfl, fun _ => ob_pick rfl rfl, fun _ => rfl, fun _ => rfl, fun _ => rfl, fun _ => rfl, fun _ => rfl, fun _ => rfl, fun _ => rfl, fun _ => rfl, fun _ => rfl, fun _ => rfl, fun _ => rfl, fun _ => rfl, fun _ => ob_pick rfl rfl, trivial⟩
  · exact trivial
  · intro _ w' hR _
    exact hQ  w'  hR.undraw
noncomputable def opsCbB : List Oper := opsOf Try.f3 7
set_option maxRecDepth 100000 in
set_option maxHeartbeats 4000000 in
theorem calls_putB (A : Option Addr) (L c pb : Nat) (yb : BA)  (a : Act) (w : World) (Q : Exit → Act → World → Prop) (hN : a.tmps.size = 82) (h4 : a.tmps.getD 4 undef = .slice A L c) (h7 : a.tmps.getD 7 undef = .pointer (some ⟨pb, 0, none⟩)) (kpb : w.heap[pb]? = some (.cells #[.int .u64 (yb.n : Int), .int .i64 yb.r] 25 (0, 0))) (g0 : 0 ≤ yb.r) (g7 : ¬ yb.r < 7) (hQ : ∀ (w' : World), Grew w w' → Q .normal (puts [(60, .pointer (some ⟨pb, 1, none⟩)), (61, .int .i64 yb.r), (62, .bool true), (63, .bool true), (64, .pointer (some ⟨pb, 1, none⟩)), (65, .int .i64 yb.r), (66, .bool false), (67, .bool false), (68, .bool false), (69, undef), (70, undef), (71, undef), (72, undef), (73, undef), (74, undef), (75, undef), (76, undef), (77, undef), (78, undef), (79, undef), (80, .bool false)] a) w')
    : (Code.region 7 opsCbB.toArray true).wp Try.prog Q a w := by
  refine region_v 82 opsCbB [(4, .slice A L c), (7, .pointer (some ⟨pb, 0, none⟩))] [] [.eq (.pointer (some ⟨pb, 1, none⟩)), .eq (.int .i64 yb.r), .eq (.bool true), .eq (.bool true), .eq (.pointer (some ⟨pb, 1, none⟩)), .eq (.int .i64 yb.r), .eq (.bool false), .eq (.bool false), .eq (.bool false), .eq (undef), .eq (undef), .eq (undef), .eq (undef), .eq (undef), .eq (undef), .eq (undef), .eq (undef), .eq (undef), .eq (undef), .eq (undef), .eq (.bool false)] Grew Grew.refl Grew.trans follows (by kernel_rfl) (by kernel_rfl) hN ⟨h4, h7, trivial⟩ rfl trivial ?_ ?_ ?_
  · intro _ w' hR _
    exact ⟨fun _ => ob_fld (fdBA _ _ _ (.inr rfl)), fun _ => ob_load (ldBi _ _ _ ((Below.cell hR.undraw (p := ⟨pb, 1, none⟩) (Array.getElem?_eq_some_iff.1 kpb).1).trans (by rw [blk_cell kpb 1]; rfl))), fun _ => ob_bin (guard_int _ _ _ _ _ _ _ _ _) (geT _ _ _ _ _ g0), fun _ => rfl, fun _ => ob_fld (fdBA _ _ _ (.inr rfl)), fun _ => ob_load (ldBi _ _ _ ((Below.cell hR.undraw (p := ⟨pb, 1, none⟩) (Array.getElem?_eq_some_iff.1 kpb).1).trans (by rw [blk_cell kpb 1]; rfl))), fun _ => ob_bin (guard_int _ _ _ _ _ _ _ _ _) (ltFi _ _ _ _ _ g7), fun _ => ob_pick rfl rfl, fun _ => rfl, fun _ => rfl, fun _ => rfl, fun _ => rfl, fun _ => rfl, fun _ => rfl, fun _ => rfl, fun _ => rfl, fun _ => rfl, fun _ => rfl, fun _ => rfl, fun _ => rfl, fun _ => ob_pick rfl rfl, trivial⟩
  · exact trivial
  · intro _ w' hR _
    exact hQ  w'  hR.undraw
noncomputable def opsCbC : List Oper := opsOf Try.f3 7
set_option maxRecDepth 100000 in
set_option maxHeartbeats 4000000 in
theorem calls_putC (A : Option Addr) (L c pb : Nat) (yb : BA) (bs : List UInt8)  (a : Act) (w : World) (Q : Exit → Act → World → Prop) (hN : a.tmps.size = 82) (h4 : a.tmps.getD 4 undef = .slice A L c) (h7 : a.tmps.getD 7 undef = .pointer (some ⟨pb, 0, none⟩)) (kpb : w.heap[pb]? = some (.cells #[.int .u64 (yb.n : Int), .int .i64 yb.r] 25 (0, 0))) (g0 : 0 ≤ yb.r) (g7 : yb.r < 7) (hb : yb.ok) (hL : L = bs.length) (hlen : bs.length ≤ 900000) (hA : HasA w w.heap.size A bs) (hQ : ∀ (v71 : Value), ∀ (v76 : Value), ∀ (w' : World), IsB w' v71 (bs ++ bytesBA yb) → IsB w' v76 (bytesBA yb) → Grew w w' → Q .normal (puts [(60, .pointer (some ⟨pb, 1, none⟩)), (61, .int .i64 yb.r), (62, .bool true), (63, .bool true), (64, .pointer (some ⟨pb, 1, none⟩)), (65, .int .i64 yb.r), (66, .bool true), (67, .bool true), (68, .bool true), (69, .slice A L c), (70, .agg #[.int .u64 (yb.n : Int), .int .i64 yb.r]), (71, v71), (72, .string (str (bs ++ bytesBA yb))), (73, .slice A L c), (74, .string (str bs)), (75, .agg #[.int .u64 (yb.n : Int), .int .i64 yb.r]), (76, v76), (77, .string (str (bytesBA yb))), (78, .string (str (bs ++ bytesBA yb))), (79, .bool false), (80, .bool false)] a) w')
    : (Code.region 7 opsCbC.toArray true).wp Try.prog Q a w := by
  refine region_v 82 opsCbC [(4, .slice A L c), (7, .pointer (some ⟨pb, 0, none⟩))] [11, 12, 16, 17] [.eq (.pointer (some ⟨pb, 1, none⟩)), .eq (.int .i64 yb.r), .eq (.bool true), .eq (.bool true), .eq (.pointer (some ⟨pb, 1, none⟩)), .eq (.int .i64 yb.r), .eq (.bool true), .eq (.bool true), .eq (.bool true), .eq (.slice A L c), .eq (.agg #[.int .u64 (yb.n : Int), .int .i64 yb.r]), .pr fun v w => IsB w v (bs ++ bytesBA yb), .eq (.string (str (bs ++ bytesBA yb))), .eq (.slice A L c), .eq (.string (str bs)), .eq (.agg #[.int .u64 (yb.n : Int), .int .i64 yb.r]), .pr fun v w => IsB w v (bytesBA yb), .eq (.string (str (bytesBA yb))), .eq (.string (str (bs ++ bytesBA yb))), .eq (.bool false), .eq (.bool false)] Grew Grew.refl Grew.trans follows (by kernel_rfl) (by kernel_rfl) hN ⟨h4, h7, trivial⟩ rfl ?_ ?_ ?_ ?_
  · exact ⟨(fun _ _ _ h hg => IsB.grew h hg), (fun _ _ _ h hg => IsB.grew h hg), trivial⟩
  · intro _ w' hR _
    exact ⟨fun _ => ob_fld (fdBA _ _ _ (.inr rfl)), fun _ => ob_load (ldBi _ _ _ ((Below.cell hR.undraw (p := ⟨pb, 1, none⟩) (Array.getElem?_eq_some_iff.1 kpb).1).trans (by rw [blk_cell kpb 1]; rfl))), fun _ => ob_bin (guard_int _ _ _ _ _ _ _ _ _) (geT _ _ _ _ _ g0), fun _ => rfl, fun _ => ob_fld (fdBA _ _ _ (.inr rfl)), fun _ => ob_load (ldBi _ _ _ ((Below.cell hR.undraw (p := ⟨pb, 1, none⟩) (Array.getElem?_eq_some_iff.1 kpb).1).trans (by rw [blk_cell kpb 1]; rfl))), fun _ => ob_bin (guard_int _ _ _ _ _ _ _ _ _) (ltTi _ _ _ _ _ g7), fun _ => ob_pick rfl rfl, fun _ => rfl, fun _ => rfl, fun _ => ob_load (ldBA _ _ _ _ _ ((Below.cell hR.undraw (p := ⟨pb, 0, none⟩) (Array.getElem?_eq_some_iff.1 kpb).1).trans (by rw [blk_cell kpb 0]; rfl)) ((Below.cell hR.undraw (p := ⟨pb, 1, none⟩) (Array.getElem?_eq_some_iff.1 kpb).1).trans (by rw [blk_cell kpb 1]; rfl))), trivial, trivial, fun _ => rfl, fun _ => ob_cv (run_conv (hA.below' hR.undraw) c Try.underlying26 Try.underlying5 Try.underlying9 hL), fun _ => ob_load (ldBA _ _ _ _ _ ((Below.cell hR.undraw (p := ⟨pb, 0, none⟩) (Array.getElem?_eq_some_iff.1 kpb).1).trans (by rw [blk_cell kpb 0]; rfl)) ((Below.cell hR.undraw (p := ⟨pb, 1, none⟩) (Array.getElem?_eq_some_iff.1 kpb).1).trans (by rw [blk_cell kpb 1]; rfl))), trivial, trivial, fun _ => ob_bin (guard_str _ _ _ _ _ _ _) (run_add _ _ _ (by have := bytesBA_len hb ⟨g0, g7⟩; omega)), fun _ => ob_bin (guard_str _ _ _ _ _ _ _) (neSF _ _), fun _ => ob_pick rfl rfl, trivial⟩
  · refine ⟨?_, ?_, ?_, ?_, trivial⟩
    · rintro o _ ho hd a' w' hF hR hp
      have hio := (nthO_eq _ _).symm.trans ho
      cases ho
      cases hd
      have q8 : a'.tmps.getD 68 undef = .bool true := hp 8 _ 68 rfl rfl rfl
      have q9 : a'.tmps.getD 69 undef = .slice A L c := hp 9 _ 69 rfl rfl rfl
      have q10 : a'.tmps.getD 70 undef = .agg #[.int .u64 (yb.n : Int), .int .i64 yb.r] := hp 10 _ 70 rfl rfl rfl
      refine step_callD hio (wanted_on rfl (show opsCbC.toArray[8]? = some _ from rfl) rfl q8) rfl (enters_of Try.func15 (by kernel_rfl) rfl) (show Array.map a'.eval #[.tmp 69, .tmp 70] = _ from by simp only [List.map_toArray, List.map_cons, List.map_nil, Act.eval, q9, q10]) ((put_any A L c bs yb hL hlen hb ⟨g0, g7⟩ w' (hA.below' hR.undraw)).mono ?_)
      rintro e w'' ⟨g, L2, c2, rfl, ho, hbb⟩
      exact ⟨_, rfl, _, rfl, IsB.own ho, hbb⟩
    · rintro o _ ho hd a' w' hF hR hp
      have hio := (nthO_eq _ _).symm.trans ho
      cases ho
      cases hd
      have q8 : a'.tmps.getD 68 undef = .bool true := hp 8 _ 68 rfl rfl rfl
      have q11 : IsB w' (a'.tmps.getD 71 undef) (bs ++ bytesBA yb) := hp 11 _ 71 rfl rfl rfl
      exact step_conv hio (wanted_on rfl (show opsCbC.toArray[8]? = some _ from rfl) rfl q8) rfl (show IsB w' (a'.tmps.getD 71 undef) _ from q11) ⟨_, rfl, rfl, Grew.refl _⟩
    · rintro o _ ho hd a' w' hF hR hp
      have hio := (nthO_eq _ _).symm.trans ho
      cases ho
      cases hd
      have q8 : a'.tmps.getD 68 undef = .bool true := hp 8 _ 68 rfl rfl rfl
      have q15 : a'.tmps.getD 75 undef = .agg #[.int .u64 (yb.n : Int), .int .i64 yb.r] := hp 15 _ 75 rfl rfl rfl
      refine step_callD hio (wanted_on rfl (show opsCbC.toArray[8]? = some _ from rfl) rfl q8) rfl (enters_of Try.func16 (by kernel_rfl) rfl) (show Array.map a'.eval #[.tmp 75] = _ from by simp only [List.map_toArray, List.map_cons, List.map_nil, Act.eval, q15]) ((refBytes_any yb hb ⟨g0, g7⟩ w').mono ?_)
      rintro e w'' ⟨g, L2, c2, rfl, ho, hbb⟩
      exact ⟨_, rfl, _, rfl, IsB.own ho, hbb⟩
    · rintro o _ ho hd a' w' hF hR hp
      have hio := (nthO_eq _ _).symm.trans ho
      cases ho
      cases hd
      have q8 : a'.tmps.getD 68 undef = .bool true := hp 8 _ 68 rfl rfl rfl
      have q16 : IsB w' (a'.tmps.getD 76 undef) (bytesBA yb) := hp 16 _ 76 rfl rfl rfl
      exact step_conv hio (wanted_on rfl (show opsCbC.toArray[8]? = some _ from rfl) rfl q8) rfl (show IsB w' (a'.tmps.getD 76 undef) _ from q16) ⟨_, rfl, rfl, Grew.refl _⟩
  · intro u w' hR h
    exact hQ (u 11) (u 16) w' (h 11 (Nat.le_of_ble_eq_true rfl)) (h 16 (Nat.le_of_ble_eq_true rfl)) hR.undraw
noncomputable def opsRe : List Oper := opsOf Try.f4 8
set_option maxRecDepth 100000 in
set_option maxHeartbeats 4000000 in
theorem reads_cmp (A : Option Addr) (L c px : Nat) (x : BA) (bs rest : List UInt8) (A2 : Option Addr) (L2 c2 : Nat)  (a : Act) (w : World) (Q : Exit → Act → World → Prop) (hN : a.tmps.size = 73) (h0 : a.tmps.getD 0 undef = .slice A L c) (h4 : a.tmps.getD 4 undef = .pointer (some ⟨px, 0, none⟩)) (h6 : a.tmps.getD 6 undef = .slice A2 L2 c2) (kpx : w.heap[px]? = some (.cells #[.int .u64 (x.n : Int), .int .i64 x.r] 25 (0, 0))) (hx : x.fit) (hL : L = bs.length) (hLm : L ≤ 100) (hc : L ≤ c) (hA : HasA w w.heap.size A bs) (hL2 : L2 = (bytesBA x).length) (hA2 : HasA w w.heap.size A2 (bytesBA x)) (hbs : bs = bytesBA x ++ rest) (hQ : ∀ (w' : World), Grew w w' → Q .normal (puts [(36, .slice A2 L2 c2), (37, .int .i64 (L2 : Int)), (38, .slice A L c), (39, .int .i64 (L : Int)), (40, .bool false), (41, .bool false), (42, .slice A2 L2 c2), (43, .string (str (bytesBA x))), (44, .slice A L c), (45, .slice A2 L2 c2), (46, .int .i64 (L2 : Int)), (47, .slice A L2 c), (48, .string (str (bytesBA x))), (49, .bool false), (50, .bool false), (51, .bool false), (52, .pointer (some ⟨px, 1, none⟩)), (53, .int .i64 x.r), (54, .bool false), (55, .bool false), (56, .bool false), (57, .pointer (some ⟨px, 1, none⟩)), (58, .int .i64 x.r), (59, .bool false), (60, .bool false)] a) w')
    : (Code.region 8 opsRe.toArray true).wp Try.prog Q a w := by
  refine region_v 73 opsRe [(0, .slice A L c), (4, .pointer (some ⟨px, 0, none⟩)), (6, .slice A2 L2 c2)] [] [.eq (.slice A2 L2 c2), .eq (.int .i64 (L2 : Int)), .eq (.slice A L c), .eq (.int .i64 (L : Int)), .eq (.bool false), .eq (.bool false), .eq (.slice A2 L2 c2), .eq (.string (str (bytesBA x))), .eq (.slice A L c), .eq (.slice A2 L2 c2), .eq (.int .i64 (L2 : Int)), .eq (.slice A L2 c), .eq (.string (str (bytesBA x))), .eq (.bool false), .eq (.bool false), .eq (.bool false), .eq (.pointer (some ⟨px, 1, none⟩)), .eq (.int .i64 x.r), .eq (.bool false), .eq (.bool false), .eq (.bool false), .eq (.pointer (some ⟨px, 1, none⟩)), .eq (.int .i64 x.r), .eq (.bool false), .eq (.bool false)] Grew Grew.refl Grew.trans follows (by kernel_rfl) (by kernel_rfl) hN ⟨h0, h4, h6, trivial⟩ rfl trivial ?_ ?_ ?_
  · intro _ w' hR _
    exact ⟨fun _ => rfl, fun _ => ob_len Try.underlying26 rfl, fun _ => rfl, fun _ => ob_len Try.underlying26 rfl, fun _ => ob_bin (guard_int _ _ _ _ _ _ _ _ _) (gtFi _ _ _ _ _ (by have h := congrArg List.length hbs; rw [List.length_append] at h; omega)), fun _ => rfl, fun _ => rfl, fun _ => ob_cv (run_conv (hA2.below' hR.undraw) c2 Try.underlying26 Try.underlying5 Try.underlying9 hL2), fun _ => rfl, fun _ => rfl, fun _ => ob_len Try.underlying26 rfl, fun _ => ob_sl (run_upto _ A L c L2 (by have h := congrArg List.length hbs; rw [List.length_append] at h; omega) (by have h := congrArg List.length hbs; rw [List.length_append] at h; omega)), fun _ => ob_cv (run_conv (bs := bytesBA x) (by have h := (hA.below' hR.undraw).take L2; rw [hbs, hL2, List.take_left] at h; exact h) c Try.underlying26 Try.underlying5 Try.underlying9 hL2), fun _ => ob_bin (guard_str _ _ _ _ _ _ _) (neSF _ _), fun _ => ob_pick rfl rfl, fun _ => rfl, fun _ => ob_fld (fdBA _ _ _ (.inr rfl)), fun _ => ob_load (ldBi _ _ _ ((Below.cell hR.undraw (p := ⟨px, 1, none⟩) (Array.getElem?_eq_some_iff.1 kpx).1).trans (by rw [blk_cell kpx 1]; rfl))), fun _ => ob_bin (guard_int _ _ _ _ _ _ _ _ _) (ltFi _ _ _ _ _ (by have := hx.1; omega)), fun _ => ob_pick rfl rfl, fun _ => rfl, fun _ => ob_fld (fdBA _ _ _ (.inr rfl)), fun _ => ob_load (ldBi _ _ _ ((Below.cell hR.undraw (p := ⟨px, 1, none⟩) (Array.getElem?_eq_some_iff.1 kpx).1).trans (by rw [blk_cell kpx 1]; rfl))), fun _ => ob_bin (guard_int _ _ _ _ _ _ _ _ _) (gtFi _ _ _ _ _ (by have := hx.2; omega)), fun _ => ob_pick rfl rfl, trivial⟩
  · exact trivial
  · intro _ w' hR _
    exact hQ  w'  hR.undraw
noncomputable def opsOr : List Oper := opsOf Try.f5 3
set_option maxRecDepth 100000 in
set_option maxHeartbeats 4000000 in
theorem order_two (pa pb : Nat) (ya yb : BA)  (a : Act) (w : World) (Q : Exit → Act → World → Prop) (hN : a.tmps.size = 87) (h4 : a.tmps.getD 4 undef = .pointer (some ⟨pa, 0, none⟩)) (h5 : a.tmps.getD 5 undef = .pointer (some ⟨pb, 0, none⟩)) (kpa : w.heap[pa]? = some (.cells #[.int .u64 (ya.n : Int), .int .i64 ya.r] 25 (0, 0))) (kpb : w.heap[pb]? = some (.cells #[.int .u64 (yb.n : Int), .int .i64 yb.r] 25 (0, 0))) (ha : ya.ok) (hb : yb.ok) (hQ : ∀ (w' : World), Grew w w' → Q .normal (puts [(18, .agg #[.int .u64 (ya.n : Int), .int .i64 ya.r]), (19, .agg #[.int .u64 (yb.n : Int), .int .i64 yb.r]), (20, .bool (decide (ltB ya yb))), (21, .agg #[.int .u64 (yb.n : Int), .int .i64 yb.r]), (22, .agg #[.int .u64 (ya.n : Int), .int .i64 ya.r]), (23, .bool (decide (ltB yb ya))), (9, .bool (decide (ltB ya yb))), (10, .bool (decide (ltB yb ya)))] a) w')
    : (Code.region 3 opsOr.toArray true).wp Try.prog Q a w := by
  refine region_v 87 opsOr [(4, .pointer (some ⟨pa, 0, none⟩)), (5, .pointer (some ⟨pb, 0, none⟩))] [2, 5] [.eq (.agg #[.int .u64 (ya.n : Int), .int .i64 ya.r]), .eq (.agg #[.int .u64 (yb.n : Int), .int .i64 yb.r]), .eq (.bool (decide (ltB ya yb))), .eq (.agg #[.int .u64 (yb.n : Int), .int .i64 yb.r]), .eq (.agg #[.int .u64 (ya.n : Int), .int .i64 ya.r]), .eq (.bool (decide (ltB yb ya))), .eq (.bool (decide (ltB ya yb))), .eq (.bool (decide (ltB yb ya)))] Grew Grew.refl Grew.trans follows (by kernel_rfl) (by kernel_rfl) hN ⟨h4, h5, trivial⟩ rfl trivial ?_ ?_ ?_
  · intro _ w' hR _
    exact ⟨fun _ => ob_load (ldBA _ _ _ _ _ ((Below.cell hR.undraw (p := ⟨pa, 0, none⟩) (Array.getElem?_eq_some_iff.1 kpa).1).trans (by rw [blk_cell kpa 0]; rfl)) ((Below.cell hR.undraw (p := ⟨pa, 1, none⟩) (Array.getElem?_eq_some_iff.1 kpa).1).trans (by rw [blk_cell kpa 1]; rfl))), fun _ => ob_load (ldBA _ _ _ _ _ ((Below.cell hR.undraw (p := ⟨pb, 0, none⟩) (Array.getElem?_eq_some_iff.1 kpb).1).trans (by rw [blk_cell kpb 0]; rfl)) ((Below.cell hR.undraw (p := ⟨pb, 1, none⟩) (Array.getElem?_eq_some_iff.1 kpb).1).trans (by rw [blk_cell kpb 1]; rfl))), trivial, fun _ => ob_load (ldBA _ _ _ _ _ ((Below.cell hR.undraw (p := ⟨pb, 0, none⟩) (Array.getElem?_eq_some_iff.1 kpb).1).trans (by rw [blk_cell kpb 0]; rfl)) ((Below.cell hR.undraw (p := ⟨pb, 1, none⟩) (Array.getElem?_eq_some_iff.1 kpb).1).trans (by rw [blk_cell kpb 1]; rfl))), fun _ => ob_load (ldBA _ _ _ _ _ ((Below.cell hR.undraw (p := ⟨pa, 0, none⟩) (Array.getElem?_eq_some_iff.1 kpa).1).trans (by rw [blk_cell kpa 0]; rfl)) ((Below.cell hR.undraw (p := ⟨pa, 1, none⟩) (Array.getElem?_eq_some_iff.1 kpa).1).trans (by rw [blk_cell kpa 1]; rfl))), trivial, fun _ => rfl, fun _ => rfl, trivial⟩
  · refine ⟨?_, ?_, trivial⟩
    · rintro o _ ho hd a' w' hF hR hp
      have hio := (nthO_eq _ _).symm.trans ho
      cases ho
      cases hd
      have q0 : a'.tmps.getD 18 undef = .agg #[.int .u64 (ya.n : Int), .int .i64 ya.r] := hp 0 _ 18 rfl rfl rfl
      have q1 : a'.tmps.getD 19 undef = .agg #[.int .u64 (yb.n : Int), .int .i64 yb.r] := hp 1 _ 19 rfl rfl rfl
      refine step_callD hio rfl rfl (enters_of Try.func11 (by kernel_rfl) rfl) (show Array.map a'.eval #[.tmp 18, .tmp 19] = _ from by simp only [List.map_toArray, List.map_cons, List.map_nil, Act.eval, q0, q1]) ((less_any ya yb ha hb w').mono ?_)
      rintro e w'' ⟨rfl, hbb⟩
      exact ⟨_, rfl, _, rfl, rfl, hbb⟩
    · rintro o _ ho hd a' w' hF hR hp
      have hio := (nthO_eq _ _).symm.trans ho
      cases ho
      cases hd
      have q3 : a'.tmps.getD 21 undef = .agg #[.int .u64 (yb.n : Int), .int .i64 yb.r] := hp 3 _ 21 rfl rfl rfl
      have q4 : a'.tmps.getD 22 undef = .agg #[.int .u64 (ya.n : Int), .int .i64 ya.r] := hp 4 _ 22 rfl rfl rfl
      refine step_callD hio rfl rfl (enters_of Try.func11 (by kernel_rfl) rfl) (show Array.map a'.eval #[.tmp 21, .tmp 22] = _ from by simp only [List.map_toArray, List.map_cons, List.map_nil, Act.eval, q3, q4]) ((less_any yb ya hb ha w').mono ?_)
      rintro e w'' ⟨rfl, hbb⟩
      exact ⟨_, rfl, _, rfl, rfl, hbb⟩
  · intro _ w' hR _
    exact hQ  w'  hR.undraw
noncomputable def opsOsT : List Oper := opsOf Try.f5 11
set_option maxRecDepth 100000 in
set_option maxHeartbeats 4000000 in
theorem order_thereT (A : Option Addr) (L c pm i : Nat)  (a : Act) (w : World) (Q : Exit → Act → World → Prop) (hN : a.tmps.size = 87) (h3 : a.tmps.getD 3 undef = .slice A L c) (h11 : a.tmps.getD 11 undef = .pointer (some ⟨pm, 0, none⟩)) (h12 : a.tmps.getD 12 undef = .bool true) (h13 : a.tmps.getD 13 undef = .int .i64 (i : Int))  (hQ : ∀ (w' : World), Grew w w' → Q .normal (puts [(68, .bool true), (69, .bool true), (70, undef), (71, undef), (72, undef), (73, undef), (74, undef), (75, undef), (76, .bool true), (12, .bool true)] a) w')
    : (Code.region 11 opsOsT.toArray true).wp Try.prog Q a w := by
  refine region_v 87 opsOsT [(3, .slice A L c), (11, .pointer (some ⟨pm, 0, none⟩)), (12, .bool true), (13, .int .i64 (i : Int))] [] [.eq (.bool true), .eq (.bool true), .eq (undef), .eq (undef), .eq (undef), .eq (undef), .eq (undef), .eq (undef), .eq (.bool true), .eq (.bool true)] Grew Grew.refl Grew.trans follows (by kernel_rfl) (by kernel_rfl) hN ⟨h3, h11, h12, h13, trivial⟩ rfl trivial ?_ ?_ ?_
  · intro _ w' _ _
    exact ⟨fun _ => rfl, fun _ => rfl, fun _ => rfl, fun _ => rfl, fun _ => rfl, fun _ => rfl, fun _ => rfl, fun _ => rfl, fun _ => ob_pick rfl rfl, fun _ => rfl, trivial⟩
  · exact trivial
  · intro _ w' hR _
    exact hQ  w'  hR.undraw
noncomputable def opsOsF : List Oper := opsOf Try.f5 11
set_option maxRecDepth 100000 in
set_option maxHeartbeats 4000000 in
theorem order_thereF (bb o L c pm i : Nat) (x m : BA)  (a : Act) (w : World) (Q : Exit → Act → World → Prop) (hN : a.tmps.size = 87) (h3 : a.tmps.getD 3 undef = .slice (some ⟨bb, o, none⟩) L c) (h11 : a.tmps.getD 11 undef = .pointer (some ⟨pm, 0, none⟩)) (h12 : a.tmps.getD 12 undef = .bool false) (h13 : a.tmps.getD 13 undef = .int .i64 (i : Int)) (hl : bb < w.heap.size) (hi : i < L) (x0 : w.cell? ⟨bb, o + i * 2, none⟩ = some (.int .u64 (x.n : Int))) (x1 : w.cell? ⟨bb, o + i * 2 + 1, none⟩ = some (.int .i64 x.r)) (kpm : w.heap[pm]? = some (.cells #[.int .u64 (m.n : Int), .int .i64 m.r] 25 (0, 0))) (hQ : ∀ (w' : World), Grew w w' → Q .normal (puts [(68, .bool false), (69, .bool false), (70, .slice (some ⟨bb, o, none⟩) L c), (71, .int .i64 (i : Int)), (72, .pointer (some ⟨bb, o + i * 2, none⟩)), (73, .agg #[.int .u64 (x.n : Int), .int .i64 x.r]), (74, .agg #[.int .u64 (m.n : Int), .int .i64 m.r]), (75, .bool (decide (x = m))), (76, .bool (decide (x = m))), (12, .bool (decide (x = m)))] a) w')
    : (Code.region 11 opsOsF.toArray true).wp Try.prog Q a w := by
  refine region_v 87 opsOsF [(3, .slice (some ⟨bb, o, none⟩) L c), (11, .pointer (some ⟨pm, 0, none⟩)), (12, .bool false), (13, .int .i64 (i : Int))] [] [.eq (.bool false), .eq (.bool false), .eq (.slice (some ⟨bb, o, none⟩) L c), .eq (.int .i64 (i : Int)), .eq (.pointer (some ⟨bb, o + i * 2, none⟩)), .eq (.agg #[.int .u64 (x.n : Int), .int .i64 x.r]), .eq (.agg #[.int .u64 (m.n : Int), .int .i64 m.r]), .eq (.bool (decide (x = m))), .eq (.bool (decide (x = m))), .eq (.bool (decide (x = m)))] Grew Grew.refl Grew.trans follows (by kernel_rfl) (by kernel_rfl) hN ⟨h3, h11, h12, h13, trivial⟩ rfl trivial ?_ ?_ ?_
  · intro _ w' hR _
    exact ⟨fun _ => rfl, fun _ => rfl, fun _ => rfl, fun _ => rfl, fun _ => ob_idx (ixBA _ _ _ _ _ _ hi), fun _ => ob_load (ldBA _ _ _ _ _ ((Below.cell hR.undraw (p := ⟨bb, o + i * 2, none⟩) hl).trans x0) ((Below.cell hR.undraw (p := ⟨bb, o + i * 2 + 1, none⟩) hl).trans x1)), fun _ => ob_load (ldBA _ _ _ _ _ ((Below.cell hR.undraw (p := ⟨pm, 0, none⟩) (Array.getElem?_eq_some_iff.1 kpm).1).trans (by rw [blk_cell kpm 0]; rfl)) ((Below.cell hR.undraw (p := ⟨pm, 1, none⟩) (Array.getElem?_eq_some_iff.1 kpm).1).trans (by rw [blk_cell kpm 1]; rfl))), fun _ => ob_bin (guardBA _ _ _ _ _ _) (eqBA _ _ _), fun _ => ob_pick rfl rfl, fun _ => rfl, trivial⟩
  · exact trivial
  · intro _ w' hR _
    exact hQ  w'  hR.undraw
noncomputable def opsOt : List Oper := opsOf Try.f5 12
set_option maxRecDepth 100000 in
set_option maxHeartbeats 4000000 in
theorem order_above (bb o L c pm i : Nat) (x m : BA)  (a : Act) (w : World) (Q : Exit → Act → World → Prop) (hN : a.tmps.size = 87) (h3 : a.tmps.getD 3 undef = .slice (some ⟨bb, o, none⟩) L c) (h11 : a.tmps.getD 11 undef = .pointer (some ⟨pm, 0, none⟩)) (h13 : a.tmps.getD 13 undef = .int .i64 (i : Int)) (hl : bb < w.heap.size) (hi : i < L) (x0 : w.cell? ⟨bb, o + i * 2, none⟩ = some (.int .u64 (x.n : Int))) (x1 : w.cell? ⟨bb, o + i * 2 + 1, none⟩ = some (.int .i64 x.r)) (kpm : w.heap[pm]? = some (.cells #[.int .u64 (m.n : Int), .int .i64 m.r] 25 (0, 0))) (hm : m.ok) (hx : x.ok) (hQ : ∀ (w' : World), Grew w w' → Q .normal (puts [(77, .agg #[.int .u64 (m.n : Int), .int .i64 m.r]), (78, .slice (some ⟨bb, o, none⟩) L c), (79, .int .i64 (i : Int)), (80, .pointer (some ⟨bb, o + i * 2, none⟩)), (81, .agg #[.int .u64 (x.n : Int), .int .i64 x.r]), (82, .bool (decide (ltB m x)))] a) w')
    : (Code.region 12 opsOt.toArray true).wp Try.prog Q a w := by
  refine region_v 87 opsOt [(3, .slice (some ⟨bb, o, none⟩) L c), (11, .pointer (some ⟨pm, 0, none⟩)), (13, .int .i64 (i : Int))] [5] [.eq (.agg #[.int .u64 (m.n : Int), .int .i64 m.r]), .eq (.slice (some ⟨bb, o, none⟩) L c), .eq (.int .i64 (i : Int)), .eq (.pointer (some ⟨bb, o + i * 2, none⟩)), .eq (.agg #[.int .u64 (x.n : Int), .int .i64 x.r]), .eq (.bool (decide (ltB m x)))] Grew Grew.refl Grew.trans follows (by kernel_rfl) (by kernel_rfl) hN ⟨h3, h11, h13, trivial⟩ rfl trivial ?_ ?_ ?_
  · intro _ w' hR _
    exact ⟨fun _ => ob_load (ldBA _ _ _ _ _ ((Below.cell hR.undraw (p := ⟨pm, 0, none⟩) (Array.getElem?_eq_some_iff.1 kpm).1).trans (by rw [blk_cell kpm 0]; rfl)) ((Below.cell hR.undraw (p := ⟨pm, 1, none⟩) (Array.getElem?_eq_some_iff.1 kpm).1).trans (by rw [blk_cell kpm 1]; rfl))), fun _ => rfl, fun _ => rfl, fun _ => ob_idx (ixBA _ _ _ _ _ _ hi), fun _ => ob_load (ldBA _ _ _ _ _ ((Below.cell hR.undraw (p := ⟨bb, o + i * 2, none⟩) hl).trans x0) ((Below.cell hR.undraw (p := ⟨bb, o + i * 2 + 1, none⟩) hl).trans x1)), trivial, trivial⟩
  · refine ⟨?_, trivial⟩
    · rintro o _ ho hd a' w' hF hR hp
      have hio := (nthO_eq _ _).symm.trans ho
      cases ho
      cases hd
      have q0 : a'.tmps.getD 77 undef = .agg #[.int .u64 (m.n : Int), .int .i64 m.r] := hp 0 _ 77 rfl rfl rfl
      have q4 : a'.tmps.getD 81 undef = .agg #[.int .u64 (x.n : Int), .int .i64 x.r] := hp 4 _ 81 rfl rfl rfl
      refine step_callD hio rfl rfl (enters_of Try.func11 (by kernel_rfl) rfl) (show Array.map a'.eval #[.tmp 77, .tmp 81] = _ from by simp only [List.map_toArray, List.map_cons, List.map_nil, Act.eval, q0, q4]) ((less_any m x hm hx w').mono ?_)
      rintro e w'' ⟨rfl, hbb⟩
      exact ⟨_, rfl, _, rfl, rfl, hbb⟩
  · intro _ w' hR _
    exact hQ  w'  hR.undraw
noncomputable def opsBk : List Oper := opsOf Try.f7 16
set_option maxRecDepth 100000 in
set_option maxHeartbeats 4000000 in
theorem back_same (bb o L c px i : Nat) (x : BA)  (a : Act) (w : World) (Q : Exit → Act → World → Prop) (hN : a.tmps.size = 76) (h4 : a.tmps.getD 4 undef = .slice (some ⟨bb, o, none⟩) L c) (h7 : a.tmps.getD 7 undef = .int .i64 (i : Int)) (h8 : a.tmps.getD 8 undef = .pointer (some ⟨px, 0, none⟩)) (h9 : a.tmps.getD 9 undef = .int .i64 0) (hl : bb < w.heap.size) (hi : i < L) (x0 : w.cell? ⟨bb, o + i * 2, none⟩ = some (.int .u64 (x.n : Int))) (x1 : w.cell? ⟨bb, o + i * 2 + 1, none⟩ = some (.int .i64 x.r)) (kpx : w.heap[px]? = some (.cells #[.int .u64 (x.n : Int), .int .i64 x.r] 25 (0, 0))) (hQ : ∀ (w' : World), Grew w w' → Q .normal (puts [(60, .agg #[.int .u64 (x.n : Int), .int .i64 x.r]), (61, .slice (some ⟨bb, o, none⟩) L c), (62, .int .i64 (i : Int)), (63, .pointer (some ⟨bb, o + i * 2, none⟩)), (64, .agg #[.int .u64 (x.n : Int), .int .i64 x.r]), (65, .bool false), (66, .bool false), (67, .int .i64 0), (68, .bool false), (69, .bool false)] a) w')
    : (Code.region 16 opsBk.toArray true).wp Try.prog Q a w := by
  refine region_v 76 opsBk [(4, .slice (some ⟨bb, o, none⟩) L c), (7, .int .i64 (i : Int)), (8, .pointer (some ⟨px, 0, none⟩)), (9, .int .i64 0)] [] [.eq (.agg #[.int .u64 (x.n : Int), .int .i64 x.r]), .eq (.slice (some ⟨bb, o, none⟩) L c), .eq (.int .i64 (i : Int)), .eq (.pointer (some ⟨bb, o + i * 2, none⟩)), .eq (.agg #[.int .u64 (x.n : Int), .int .i64 x.r]), .eq (.bool false), .eq (.bool false), .eq (.int .i64 0), .eq (.bool false), .eq (.bool false)] Grew Grew.refl Grew.trans follows (by kernel_rfl) (by kernel_rfl) hN ⟨h4, h7, h8, h9, trivial⟩ rfl trivial ?_ ?_ ?_
  · intro _ w' hR _
    exact ⟨fun _ => ob_load (ldBA _ _ _ _ _ ((Below.cell hR.undraw (p := ⟨px, 0, none⟩) (Array.getElem?_eq_some_iff.1 kpx).1).trans (by rw [blk_cell kpx 0]; rfl)) ((Below.cell hR.undraw (p := ⟨px, 1, none⟩) (Array.getElem?_eq_some_iff.1 kpx).1).trans (by rw [blk_cell kpx 1]; rfl))), fun _ => rfl, fun _ => rfl, fun _ => ob_idx (ixBA _ _ _ _ _ _ hi), fun _ => ob_load (ldBA _ _ _ _ _ ((Below.cell hR.undraw (p := ⟨bb, o + i * 2, none⟩) hl).trans x0) ((Below.cell hR.undraw (p := ⟨bb, o + i * 2 + 1, none⟩) hl).trans x1)), fun _ => ob_bin (guardBA _ _ _ _ _ _) (neLF _ _), fun _ => rfl, fun _ => rfl, fun _ => ob_bin (guard_int _ _ _ _ _ _ _ _ _) (neIF _ _ _ _), fun _ => ob_pick rfl rfl, trivial⟩
  · exact trivial
  · intro _ w' hR _
    exact hQ  w'  hR.undraw
end Go.Proofs.Ytkeaeahiokgkiaa
