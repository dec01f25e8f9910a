/- alike: the statements that draw their order. alike: whether two stores have the same. -/
import Derived.Test.YtdiihaeelcbjbaaGreatDoorMStS
-- StAlR
namespace Go.Proofs.YtdiihaeelcbjbaaGreatDoor
open Go.RowKit

theorem neNf (t : TypeId) (k : IntKind) (w : World) {x y : Nat} (h : x = y) : (binOp .neq t (.int k (x : Int)) (.int k (y : Int))).run Tryz.prog w = .ok (.bool false) w := by
  subst h
  simp [go_sem]
theorem neNt (t : TypeId) (k : IntKind) (w : World) {x y : Nat} (h : x ≠ y) : (binOp .neq t (.int k (x : Int)) (.int k (y : Int))).run Tryz.prog w = .ok (.bool true) w := by
  have h' : ¬ (x : Int) = y := by omega
  simp [go_sem, h']
theorem neSf (w : World) {x y : List UInt8} (h : x = y) : (binOp .neq 9 (.string (str x)) (.string (str y))).run Tryz.prog w = .ok (.bool false) w := by
  subst h
  simp [go_sem]
theorem neSt (w : World) {x y : List UInt8} (h : x ≠ y) : (binOp .neq 9 (.string (str x)) (.string (str y))).run Tryz.prog w = .ok (.bool true) w := by
  simp [go_sem]
  rw [str_toList, str_toList]
  exact h
theorem neBf (w : World) {a b : BA} (h : a = b) : (binOp .neq 25 (.agg #[.int .u64 (a.n : Int), .int .i64 a.r]) (.agg #[.int .u64 (b.n : Int), .int .i64 b.r])).run Tryz.prog w = .ok (.bool false) w := (neBA w a b).trans (by rw [decide_eq_true h]; rfl)
theorem neBt (w : World) {a b : BA} (h : a ≠ b) : (binOp .neq 25 (.agg #[.int .u64 (a.n : Int), .int .i64 a.r]) (.agg #[.int .u64 (b.n : Int), .int .i64 b.r])).run Tryz.prog w = .ok (.bool true) w := (neBA w a b).trans (by rw [decide_eq_false h]; rfl)
theorem fdVo1 (w : World) (b o : Nat) : (Instr.fieldAt 68 (.pointer (some ⟨b, o, none⟩)) 1).run Tryz.prog w = .ok (.pointer (some ⟨b, o + 1, none⟩)) w := by
  simp [go_sem]
noncomputable def opsAl0 : List Oper := opsOf Tryz.f24 2
set_option maxRecDepth 100000 in
set_option maxHeartbeats 4000000 in
theorem alike_r0 (B1 B2 : Nat) (p1 p2 : BA) (m1 m2 : Nat) (x1 x2 : List UInt8) (A1 A2 : Option Addr) (n1 n2 c1 c2 : Nat)  (a : Act) (w : World) (Q : Exit → Act → World → Prop) (hN : a.tmps.size = 85) (h0 : a.tmps.getD 0 undef = .pointer (some ⟨B1, 0, none⟩)) (h1 : a.tmps.getD 1 undef = .pointer (some ⟨B2, 0, none⟩)) (h5 : a.tmps.getD 5 undef = .slice A1 n1 c1) (h6 : a.tmps.getD 6 undef = .slice A2 n2 c2) (ne : p1 ≠ p2) (hP1 : ∀ w', Grew w w' → Calls Tryz.prog 25 #[.pointer (some ⟨B1, 0, none⟩)] w' fun e W' => e = .returned (.agg #[.int .u64 (p1.n : Int), .int .i64 p1.r]) ∧ Grew w' W') (_hB1 : ∀ w', Grew w w' → Calls Tryz.prog 26 #[.pointer (some ⟨B1, 0, none⟩)] w' fun e W' => e = .returned (.int .u64 (m1 : Int)) ∧ Grew w' W') (_hS1 : ∀ w', Grew w w' → Calls Tryz.prog 30 #[.pointer (some ⟨B1, 0, none⟩)] w' fun e W' => ∃ v, e = .returned v ∧ IsB W' v x1 ∧ Grew w' W') (hP2 : ∀ w', Grew w w' → Calls Tryz.prog 25 #[.pointer (some ⟨B2, 0, none⟩)] w' fun e W' => e = .returned (.agg #[.int .u64 (p2.n : Int), .int .i64 p2.r]) ∧ Grew w' W') (_hB2 : ∀ w', Grew w w' → Calls Tryz.prog 26 #[.pointer (some ⟨B2, 0, none⟩)] w' fun e W' => e = .returned (.int .u64 (m2 : Int)) ∧ Grew w' W') (_hS2 : ∀ w', Grew w w' → Calls Tryz.prog 30 #[.pointer (some ⟨B2, 0, none⟩)] w' fun e W' => ∃ v, e = .returned v ∧ IsB W' v x2 ∧ Grew w' W') (hQ : ∀ (w' : World), Grew w w' → Q .normal (puts [(12, .pointer (some ⟨B1, 0, none⟩)), (13, .agg #[.int .u64 (p1.n : Int), .int .i64 p1.r]), (14, .pointer (some ⟨B2, 0, none⟩)), (15, .agg #[.int .u64 (p2.n : Int), .int .i64 p2.r]), (16, .bool true), (17, .bool true), (18, undef), (19, undef), (20, undef), (21, undef), (22, undef), (23, .bool true), (24, .bool true), (25, undef), (26, undef), (27, undef), (28, undef), (29, undef), (30, undef), (31, undef), (32, .bool true), (33, .bool true), (34, undef), (35, undef), (36, undef), (37, undef), (38, undef), (39, .bool true)] a) w')
    : (Code.region 2 opsAl0.toArray true).wp Tryz.prog Q a w := by
  refine region_v 85 opsAl0 [(0, .pointer (some ⟨B1, 0, none⟩)), (1, .pointer (some ⟨B2, 0, none⟩)), (5, .slice A1 n1 c1), (6, .slice A2 n2 c2)] [1, 3] [.eq (.pointer (some ⟨B1, 0, none⟩)), .eq (.agg #[.int .u64 (p1.n : Int), .int .i64 p1.r]), .eq (.pointer (some ⟨B2, 0, none⟩)), .eq (.agg #[.int .u64 (p2.n : Int), .int .i64 p2.r]), .eq (.bool true), .eq (.bool true), .eq (undef), .eq (undef), .eq (undef), .eq (undef), .eq (undef), .eq (.bool true), .eq (.bool true), .eq (undef), .eq (undef), .eq (undef), .eq (undef), .eq (undef), .eq (undef), .eq (undef), .eq (.bool true), .eq (.bool true), .eq (undef), .eq (undef), .eq (undef), .eq (undef), .eq (undef), .eq (.bool true)] Grew Grew.refl Grew.trans follows (by kernel_rfl) (by kernel_rfl) hN ⟨h0, h1, h5, h6, trivial⟩ rfl trivial ?_ ?_ ?_
  · intro _ w' _ _
    exact ⟨fun _ => rfl, trivial, fun _ => rfl, trivial, fun _ => ob_bin (guardBa _ _ _ _ _ _) (neBt _ ne), fun _ => rfl, fun _ => rfl, fun _ => rfl, fun _ => rfl, fun _ => rfl, fun _ => rfl, fun _ => ob_pick rfl rfl, fun _ => rfl, fun _ => rfl, fun _ => rfl, fun _ => rfl, fun _ => rfl, fun _ => rfl, fun _ => rfl, fun _ => rfl, fun _ => ob_pick rfl rfl, fun _ => rfl, fun _ => rfl, fun _ => rfl, fun _ => rfl, fun _ => rfl, fun _ => rfl, fun _ => ob_pick rfl rfl, trivial⟩
  · refine ⟨?_, ?_, trivial⟩
    · rintro o _ ho hd a' w' hF hR hp
      have hio := (nthO_eq _ _).symm.trans ho
      cases ho
      cases hd
      have q0 : a'.tmps.getD 12 undef = .pointer (some ⟨B1, 0, none⟩) := hp 0 _ 12 rfl rfl rfl
      refine step_callD hio rfl rfl (enters_of Tryz.func25 (by kernel_rfl) rfl) (show Array.map a'.eval #[.tmp 12] = _ from by simp only [List.map_toArray, List.map_cons, List.map_nil, Act.eval, q0]) ((hP1 w' hR.undraw).mono ?_)
      rintro e w'' ⟨rfl, hb⟩
      exact ⟨_, rfl, _, rfl, rfl, hb⟩
    · rintro o _ ho hd a' w' hF hR hp
      have hio := (nthO_eq _ _).symm.trans ho
      cases ho
      cases hd
      have q2 : a'.tmps.getD 14 undef = .pointer (some ⟨B2, 0, none⟩) := hp 2 _ 14 rfl rfl rfl
      refine step_callD hio rfl rfl (enters_of Tryz.func25 (by kernel_rfl) rfl) (show Array.map a'.eval #[.tmp 14] = _ from by simp only [List.map_toArray, List.map_cons, List.map_nil, Act.eval, q2]) ((hP2 w' hR.undraw).mono ?_)
      rintro e w'' ⟨rfl, hb⟩
      exact ⟨_, rfl, _, rfl, rfl, hb⟩
  · intro _ w' hR _
    exact hQ  w'  hR.undraw
noncomputable def opsAl1 : List Oper := opsOf Tryz.f24 2
set_option maxRecDepth 100000 in
set_option maxHeartbeats 4000000 in
theorem alike_r1 (B1 B2 : Nat) (p1 p2 : BA) (m1 m2 : Nat) (x1 x2 : List UInt8) (A1 A2 : Option Addr) (n1 n2 c1 c2 : Nat)  (a : Act) (w : World) (Q : Exit → Act → World → Prop) (hN : a.tmps.size = 85) (h0 : a.tmps.getD 0 undef = .pointer (some ⟨B1, 0, none⟩)) (h1 : a.tmps.getD 1 undef = .pointer (some ⟨B2, 0, none⟩)) (h5 : a.tmps.getD 5 undef = .slice A1 n1 c1) (h6 : a.tmps.getD 6 undef = .slice A2 n2 c2) (ep : p1 = p2) (ne : m1 ≠ m2) (hP1 : ∀ w', Grew w w' → Calls Tryz.prog 25 #[.pointer (some ⟨B1, 0, none⟩)] w' fun e W' => e = .returned (.agg #[.int .u64 (p1.n : Int), .int .i64 p1.r]) ∧ Grew w' W') (hB1 : ∀ w', Grew w w' → Calls Tryz.prog 26 #[.pointer (some ⟨B1, 0, none⟩)] w' fun e W' => e = .returned (.int .u64 (m1 : Int)) ∧ Grew w' W') (_hS1 : ∀ w', Grew w w' → Calls Tryz.prog 30 #[.pointer (some ⟨B1, 0, none⟩)] w' fun e W' => ∃ v, e = .returned v ∧ IsB W' v x1 ∧ Grew w' W') (hP2 : ∀ w', Grew w w' → Calls Tryz.prog 25 #[.pointer (some ⟨B2, 0, none⟩)] w' fun e W' => e = .returned (.agg #[.int .u64 (p2.n : Int), .int .i64 p2.r]) ∧ Grew w' W') (hB2 : ∀ w', Grew w w' → Calls Tryz.prog 26 #[.pointer (some ⟨B2, 0, none⟩)] w' fun e W' => e = .returned (.int .u64 (m2 : Int)) ∧ Grew w' W') (_hS2 : ∀ w', Grew w w' → Calls Tryz.prog 30 #[.pointer (some ⟨B2, 0, none⟩)] w' fun e W' => ∃ v, e = .returned v ∧ IsB W' v x2 ∧ Grew w' W') (hQ : ∀ (w' : World), Grew w w' → Q .normal (puts [(12, .pointer (some ⟨B1, 0, none⟩)), (13, .agg #[.int .u64 (p1.n : Int), .int .i64 p1.r]), (14, .pointer (some ⟨B2, 0, none⟩)), (15, .agg #[.int .u64 (p2.n : Int), .int .i64 p2.r]), (16, .bool false), (17, .bool false), (18, .pointer (some ⟨B1, 0, none⟩)), (19, .int .u64 (m1 : Int)), (20, .pointer (some ⟨B2, 0, none⟩)), (21, .int .u64 (m2 : Int)), (22, .bool true), (23, .bool true), (24, .bool true), (25, undef), (26, undef), (27, undef), (28, undef), (29, undef), (30, undef), (31, undef), (32, .bool true), (33, .bool true), (34, undef), (35, undef), (36, undef), (37, undef), (38, undef), (39, .bool true)] a) w')
    : (Code.region 2 opsAl1.toArray true).wp Tryz.prog Q a w := by
  refine region_v 85 opsAl1 [(0, .pointer (some ⟨B1, 0, none⟩)), (1, .pointer (some ⟨B2, 0, none⟩)), (5, .slice A1 n1 c1), (6, .slice A2 n2 c2)] [1, 3, 7, 9] [.eq (.pointer (some ⟨B1, 0, none⟩)), .eq (.agg #[.int .u64 (p1.n : Int), .int .i64 p1.r]), .eq (.pointer (some ⟨B2, 0, none⟩)), .eq (.agg #[.int .u64 (p2.n : Int), .int .i64 p2.r]), .eq (.bool false), .eq (.bool false), .eq (.pointer (some ⟨B1, 0, none⟩)), .eq (.int .u64 (m1 : Int)), .eq (.pointer (some ⟨B2, 0, none⟩)), .eq (.int .u64 (m2 : Int)), .eq (.bool true), .eq (.bool true), .eq (.bool true), .eq (undef), .eq (undef), .eq (undef), .eq (undef), .eq (undef), .eq (undef), .eq (undef), .eq (.bool true), .eq (.bool true), .eq (undef), .eq (undef), .eq (undef), .eq (undef), .eq (undef), .eq (.bool true)] Grew Grew.refl Grew.trans follows (by kernel_rfl) (by kernel_rfl) hN ⟨h0, h1, h5, h6, trivial⟩ rfl trivial ?_ ?_ ?_
  · intro _ w' _ _
    exact ⟨fun _ => rfl, trivial, fun _ => rfl, trivial, fun _ => ob_bin (guardBa _ _ _ _ _ _) (neBf _ ep), fun _ => rfl, fun _ => rfl, trivial, fun _ => rfl, trivial, fun _ => ob_bin (guard_int _ _ _ _ _ _ _ _ _) (neNt _ _ _ ne), fun _ => ob_pick rfl rfl, fun _ => rfl, fun _ => rfl, fun _ => rfl, fun _ => rfl, fun _ => rfl, fun _ => rfl, fun _ => rfl, fun _ => rfl, fun _ => ob_pick rfl rfl, fun _ => rfl, fun _ => rfl, fun _ => rfl, fun _ => rfl, fun _ => rfl, fun _ => rfl, fun _ => ob_pick rfl rfl, trivial⟩
  · refine ⟨?_, ?_, ?_, ?_, trivial⟩
    · rintro o _ ho hd a' w' hF hR hp
      have hio := (nthO_eq _ _).symm.trans ho
      cases ho
      cases hd
      have q0 : a'.tmps.getD 12 undef = .pointer (some ⟨B1, 0, none⟩) := hp 0 _ 12 rfl rfl rfl
      refine step_callD hio rfl rfl (enters_of Tryz.func25 (by kernel_rfl) rfl) (show Array.map a'.eval #[.tmp 12] = _ from by simp only [List.map_toArray, List.map_cons, List.map_nil, Act.eval, q0]) ((hP1 w' hR.undraw).mono ?_)
      rintro e w'' ⟨rfl, hb⟩
      exact ⟨_, rfl, _, rfl, rfl, hb⟩
    · rintro o _ ho hd a' w' hF hR hp
      have hio := (nthO_eq _ _).symm.trans ho
      cases ho
      cases hd
      have q2 : a'.tmps.getD 14 undef = .pointer (some ⟨B2, 0, none⟩) := hp 2 _ 14 rfl rfl rfl
      refine step_callD hio rfl rfl (enters_of Tryz.func25 (by kernel_rfl) rfl) (show Array.map a'.eval #[.tmp 14] = _ from by simp only [List.map_toArray, List.map_cons, List.map_nil, Act.eval, q2]) ((hP2 w' hR.undraw).mono ?_)
      rintro e w'' ⟨rfl, hb⟩
      exact ⟨_, rfl, _, rfl, rfl, hb⟩
    · rintro o _ ho hd a' w' hF hR hp
      have hio := (nthO_eq _ _).symm.trans ho
      cases ho
      cases hd
      have q5 : a'.tmps.getD 17 undef = .bool false := hp 5 _ 17 rfl rfl rfl
      have q6 : a'.tmps.getD 18 undef = .pointer (some ⟨B1, 0, none⟩) := hp 6 _ 18 rfl rfl rfl
      refine step_callD hio (wanted_on rfl (show opsAl1.toArray[5]? = some _ from rfl) rfl q5) rfl (enters_of Tryz.func26 (by kernel_rfl) rfl) (show Array.map a'.eval #[.tmp 18] = _ from by simp only [List.map_toArray, List.map_cons, List.map_nil, Act.eval, q6]) ((hB1 w' hR.undraw).mono ?_)
      rintro e w'' ⟨rfl, hb⟩
      exact ⟨_, rfl, _, rfl, rfl, hb⟩
    · rintro o _ ho hd a' w' hF hR hp
      have hio := (nthO_eq _ _).symm.trans ho
      cases ho
      cases hd
      have q5 : a'.tmps.getD 17 undef = .bool false := hp 5 _ 17 rfl rfl rfl
      have q8 : a'.tmps.getD 20 undef = .pointer (some ⟨B2, 0, none⟩) := hp 8 _ 20 rfl rfl rfl
      refine step_callD hio (wanted_on rfl (show opsAl1.toArray[5]? = some _ from rfl) rfl q5) rfl (enters_of Tryz.func26 (by kernel_rfl) rfl) (show Array.map a'.eval #[.tmp 20] = _ from by simp only [List.map_toArray, List.map_cons, List.map_nil, Act.eval, q8]) ((hB2 w' hR.undraw).mono ?_)
      rintro e w'' ⟨rfl, hb⟩
      exact ⟨_, rfl, _, rfl, rfl, hb⟩
  · intro _ w' hR _
    exact hQ  w'  hR.undraw
noncomputable def opsAl2 : List Oper := opsOf Tryz.f24 2
set_option maxRecDepth 100000 in
set_option maxHeartbeats 4000000 in
theorem alike_r2 (B1 B2 : Nat) (p1 p2 : BA) (m1 m2 : Nat) (x1 x2 : List UInt8) (A1 A2 : Option Addr) (n1 n2 c1 c2 : Nat)  (a : Act) (w : World) (Q : Exit → Act → World → Prop) (hN : a.tmps.size = 85) (h0 : a.tmps.getD 0 undef = .pointer (some ⟨B1, 0, none⟩)) (h1 : a.tmps.getD 1 undef = .pointer (some ⟨B2, 0, none⟩)) (h5 : a.tmps.getD 5 undef = .slice A1 n1 c1) (h6 : a.tmps.getD 6 undef = .slice A2 n2 c2) (ep : p1 = p2) (em : m1 = m2) (ne : x1 ≠ x2) (hP1 : ∀ w', Grew w w' → Calls Tryz.prog 25 #[.pointer (some ⟨B1, 0, none⟩)] w' fun e W' => e = .returned (.agg #[.int .u64 (p1.n : Int), .int .i64 p1.r]) ∧ Grew w' W') (hB1 : ∀ w', Grew w w' → Calls Tryz.prog 26 #[.pointer (some ⟨B1, 0, none⟩)] w' fun e W' => e = .returned (.int .u64 (m1 : Int)) ∧ Grew w' W') (hS1 : ∀ w', Grew w w' → Calls Tryz.prog 30 #[.pointer (some ⟨B1, 0, none⟩)] w' fun e W' => ∃ v, e = .returned v ∧ IsB W' v x1 ∧ Grew w' W') (hP2 : ∀ w', Grew w w' → Calls Tryz.prog 25 #[.pointer (some ⟨B2, 0, none⟩)] w' fun e W' => e = .returned (.agg #[.int .u64 (p2.n : Int), .int .i64 p2.r]) ∧ Grew w' W') (hB2 : ∀ w', Grew w w' → Calls Tryz.prog 26 #[.pointer (some ⟨B2, 0, none⟩)] w' fun e W' => e = .returned (.int .u64 (m2 : Int)) ∧ Grew w' W') (hS2 : ∀ w', Grew w w' → Calls Tryz.prog 30 #[.pointer (some ⟨B2, 0, none⟩)] w' fun e W' => ∃ v, e = .returned v ∧ IsB W' v x2 ∧ Grew w' W') (hQ : ∀ (v26 : Value), ∀ (v29 : Value), ∀ (w' : World), IsB w' v26 (x1) → IsB w' v29 (x2) → Grew w w' → Q .normal (puts [(12, .pointer (some ⟨B1, 0, none⟩)), (13, .agg #[.int .u64 (p1.n : Int), .int .i64 p1.r]), (14, .pointer (some ⟨B2, 0, none⟩)), (15, .agg #[.int .u64 (p2.n : Int), .int .i64 p2.r]), (16, .bool false), (17, .bool false), (18, .pointer (some ⟨B1, 0, none⟩)), (19, .int .u64 (m1 : Int)), (20, .pointer (some ⟨B2, 0, none⟩)), (21, .int .u64 (m2 : Int)), (22, .bool false), (23, .bool false), (24, .bool false), (25, .pointer (some ⟨B1, 0, none⟩)), (26, v26), (27, .string (str (x1))), (28, .pointer (some ⟨B2, 0, none⟩)), (29, v29), (30, .string (str (x2))), (31, .bool true), (32, .bool true), (33, .bool true), (34, undef), (35, undef), (36, undef), (37, undef), (38, undef), (39, .bool true)] a) w')
    : (Code.region 2 opsAl2.toArray true).wp Tryz.prog Q a w := by
  refine region_v 85 opsAl2 [(0, .pointer (some ⟨B1, 0, none⟩)), (1, .pointer (some ⟨B2, 0, none⟩)), (5, .slice A1 n1 c1), (6, .slice A2 n2 c2)] [1, 3, 7, 9, 14, 15, 17, 18] [.eq (.pointer (some ⟨B1, 0, none⟩)), .eq (.agg #[.int .u64 (p1.n : Int), .int .i64 p1.r]), .eq (.pointer (some ⟨B2, 0, none⟩)), .eq (.agg #[.int .u64 (p2.n : Int), .int .i64 p2.r]), .eq (.bool false), .eq (.bool false), .eq (.pointer (some ⟨B1, 0, none⟩)), .eq (.int .u64 (m1 : Int)), .eq (.pointer (some ⟨B2, 0, none⟩)), .eq (.int .u64 (m2 : Int)), .eq (.bool false), .eq (.bool false), .eq (.bool false), .eq (.pointer (some ⟨B1, 0, none⟩)), .pr fun v w => IsB w v (x1), .eq (.string (str (x1))), .eq (.pointer (some ⟨B2, 0, none⟩)), .pr fun v w => IsB w v (x2), .eq (.string (str (x2))), .eq (.bool true), .eq (.bool true), .eq (.bool true), .eq (undef), .eq (undef), .eq (undef), .eq (undef), .eq (undef), .eq (.bool true)] Grew Grew.refl Grew.trans follows (by kernel_rfl) (by kernel_rfl) hN ⟨h0, h1, h5, h6, trivial⟩ rfl ?_ ?_ ?_ ?_
  · exact ⟨(fun _ _ _ h hg => IsB.grew h hg), (fun _ _ _ h hg => IsB.grew h hg), trivial⟩
  · intro _ w' _ _
    exact ⟨fun _ => rfl, trivial, fun _ => rfl, trivial, fun _ => ob_bin (guardBa _ _ _ _ _ _) (neBf _ ep), fun _ => rfl, fun _ => rfl, trivial, fun _ => rfl, trivial, fun _ => ob_bin (guard_int _ _ _ _ _ _ _ _ _) (neNf _ _ _ em), fun _ => ob_pick rfl rfl, fun _ => rfl, fun _ => rfl, trivial, trivial, fun _ => rfl, trivial, trivial, fun _ => ob_bin (guard_str _ _ _ _ _ _ _) (neSt _ ne), fun _ => ob_pick rfl rfl, fun _ => rfl, fun _ => rfl, fun _ => rfl, fun _ => rfl, fun _ => rfl, fun _ => rfl, fun _ => ob_pick rfl rfl, trivial⟩
  · refine ⟨?_, ?_, ?_, ?_, ?_, ?_, ?_, ?_, trivial⟩
    · rintro o _ ho hd a' w' hF hR hp
      have hio := (nthO_eq _ _).symm.trans ho
      cases ho
      cases hd
      have q0 : a'.tmps.getD 12 undef = .pointer (some ⟨B1, 0, none⟩) := hp 0 _ 12 rfl rfl rfl
      refine step_callD hio rfl rfl (enters_of Tryz.func25 (by kernel_rfl) rfl) (show Array.map a'.eval #[.tmp 12] = _ from by simp only [List.map_toArray, List.map_cons, List.map_nil, Act.eval, q0]) ((hP1 w' hR.undraw).mono ?_)
      rintro e w'' ⟨rfl, hb⟩
      exact ⟨_, rfl, _, rfl, rfl, hb⟩
    · rintro o _ ho hd a' w' hF hR hp
      have hio := (nthO_eq _ _).symm.trans ho
      cases ho
      cases hd
      have q2 : a'.tmps.getD 14 undef = .pointer (some ⟨B2, 0, none⟩) := hp 2 _ 14 rfl rfl rfl
      refine step_callD hio rfl rfl (enters_of Tryz.func25 (by kernel_rfl) rfl) (show Array.map a'.eval #[.tmp 14] = _ from by simp only [List.map_toArray, List.map_cons, List.map_nil, Act.eval, q2]) ((hP2 w' hR.undraw).mono ?_)
      rintro e w'' ⟨rfl, hb⟩
      exact ⟨_, rfl, _, rfl, rfl, hb⟩
    · rintro o _ ho hd a' w' hF hR hp
      have hio := (nthO_eq _ _).symm.trans ho
      cases ho
      cases hd
      have q5 : a'.tmps.getD 17 undef = .bool false := hp 5 _ 17 rfl rfl rfl
      have q6 : a'.tmps.getD 18 undef = .pointer (some ⟨B1, 0, none⟩) := hp 6 _ 18 rfl rfl rfl
      refine step_callD hio (wanted_on rfl (show opsAl2.toArray[5]? = some _ from rfl) rfl q5) rfl (enters_of Tryz.func26 (by kernel_rfl) rfl) (show Array.map a'.eval #[.tmp 18] = _ from by simp only [List.map_toArray, List.map_cons, List.map_nil, Act.eval, q6]) ((hB1 w' hR.undraw).mono ?_)
      rintro e w'' ⟨rfl, hb⟩
      exact ⟨_, rfl, _, rfl, rfl, hb⟩
    · rintro o _ ho hd a' w' hF hR hp
      have hio := (nthO_eq _ _).symm.trans ho
      cases ho
      cases hd
      have q5 : a'.tmps.getD 17 undef = .bool false := hp 5 _ 17 rfl rfl rfl
      have q8 : a'.tmps.getD 20 undef = .pointer (some ⟨B2, 0, none⟩) := hp 8 _ 20 rfl rfl rfl
      refine step_callD hio (wanted_on rfl (show opsAl2.toArray[5]? = some _ from rfl) rfl q5) rfl (enters_of Tryz.func26 (by kernel_rfl) rfl) (show Array.map a'.eval #[.tmp 20] = _ from by simp only [List.map_toArray, List.map_cons, List.map_nil, Act.eval, q8]) ((hB2 w' hR.undraw).mono ?_)
      rintro e w'' ⟨rfl, hb⟩
      exact ⟨_, rfl, _, rfl, rfl, hb⟩
    · rintro o _ ho hd a' w' hF hR hp
      have hio := (nthO_eq _ _).symm.trans ho
      cases ho
      cases hd
      have q12 : a'.tmps.getD 24 undef = .bool false := hp 12 _ 24 rfl rfl rfl
      have q13 : a'.tmps.getD 25 undef = .pointer (some ⟨B1, 0, none⟩) := hp 13 _ 25 rfl rfl rfl
      refine step_callD hio (wanted_on rfl (show opsAl2.toArray[12]? = some _ from rfl) rfl q12) rfl (enters_of Tryz.func30 (by kernel_rfl) rfl) (show Array.map a'.eval #[.tmp 25] = _ from by simp only [List.map_toArray, List.map_cons, List.map_nil, Act.eval, q13]) ((hS1 w' hR.undraw).mono ?_)
      rintro e w'' ⟨v, rfl, hv, hb⟩
      exact ⟨_, rfl, _, rfl, hv, hb⟩
    · rintro o _ ho hd a' w' hF hR hp
      have hio := (nthO_eq _ _).symm.trans ho
      cases ho
      cases hd
      have q12 : a'.tmps.getD 24 undef = .bool false := hp 12 _ 24 rfl rfl rfl
      have q14 : IsB w' (a'.tmps.getD 26 undef) (x1) := hp 14 _ 26 rfl rfl rfl
      exact step_conv hio (wanted_on rfl (show opsAl2.toArray[12]? = some _ from rfl) rfl q12) rfl (show IsB w' (a'.tmps.getD 26 undef) _ from q14) ⟨_, rfl, rfl, Grew.refl _⟩
    · rintro o _ ho hd a' w' hF hR hp
      have hio := (nthO_eq _ _).symm.trans ho
      cases ho
      cases hd
      have q12 : a'.tmps.getD 24 undef = .bool false := hp 12 _ 24 rfl rfl rfl
      have q16 : a'.tmps.getD 28 undef = .pointer (some ⟨B2, 0, none⟩) := hp 16 _ 28 rfl rfl rfl
      refine step_callD hio (wanted_on rfl (show opsAl2.toArray[12]? = some _ from rfl) rfl q12) rfl (enters_of Tryz.func30 (by kernel_rfl) rfl) (show Array.map a'.eval #[.tmp 28] = _ from by simp only [List.map_toArray, List.map_cons, List.map_nil, Act.eval, q16]) ((hS2 w' hR.undraw).mono ?_)
      rintro e w'' ⟨v, rfl, hv, hb⟩
      exact ⟨_, rfl, _, rfl, hv, hb⟩
    · rintro o _ ho hd a' w' hF hR hp
      have hio := (nthO_eq _ _).symm.trans ho
      cases ho
      cases hd
      have q12 : a'.tmps.getD 24 undef = .bool false := hp 12 _ 24 rfl rfl rfl
      have q17 : IsB w' (a'.tmps.getD 29 undef) (x2) := hp 17 _ 29 rfl rfl rfl
      exact step_conv hio (wanted_on rfl (show opsAl2.toArray[12]? = some _ from rfl) rfl q12) rfl (show IsB w' (a'.tmps.getD 29 undef) _ from q17) ⟨_, rfl, rfl, Grew.refl _⟩
  · intro u w' hR h
    exact hQ (u 14) (u 17) w' (h 14 (Nat.le_of_ble_eq_true rfl)) (h 17 (Nat.le_of_ble_eq_true rfl)) hR.undraw
noncomputable def opsAl3 : List Oper := opsOf Tryz.f24 2
set_option maxRecDepth 100000 in
set_option maxHeartbeats 4000000 in
theorem alike_r3 (B1 B2 : Nat) (p1 p2 : BA) (m1 m2 : Nat) (x1 x2 : List UInt8) (A1 A2 : Option Addr) (n1 n2 c1 c2 : Nat)  (a : Act) (w : World) (Q : Exit → Act → World → Prop) (hN : a.tmps.size = 85) (h0 : a.tmps.getD 0 undef = .pointer (some ⟨B1, 0, none⟩)) (h1 : a.tmps.getD 1 undef = .pointer (some ⟨B2, 0, none⟩)) (h5 : a.tmps.getD 5 undef = .slice A1 n1 c1) (h6 : a.tmps.getD 6 undef = .slice A2 n2 c2) (ep : p1 = p2) (em : m1 = m2) (ex : x1 = x2) (ne : n1 ≠ n2) (hP1 : ∀ w', Grew w w' → Calls Tryz.prog 25 #[.pointer (some ⟨B1, 0, none⟩)] w' fun e W' => e = .returned (.agg #[.int .u64 (p1.n : Int), .int .i64 p1.r]) ∧ Grew w' W') (hB1 : ∀ w', Grew w w' → Calls Tryz.prog 26 #[.pointer (some ⟨B1, 0, none⟩)] w' fun e W' => e = .returned (.int .u64 (m1 : Int)) ∧ Grew w' W') (hS1 : ∀ w', Grew w w' → Calls Tryz.prog 30 #[.pointer (some ⟨B1, 0, none⟩)] w' fun e W' => ∃ v, e = .returned v ∧ IsB W' v x1 ∧ Grew w' W') (hP2 : ∀ w', Grew w w' → Calls Tryz.prog 25 #[.pointer (some ⟨B2, 0, none⟩)] w' fun e W' => e = .returned (.agg #[.int .u64 (p2.n : Int), .int .i64 p2.r]) ∧ Grew w' W') (hB2 : ∀ w', Grew w w' → Calls Tryz.prog 26 #[.pointer (some ⟨B2, 0, none⟩)] w' fun e W' => e = .returned (.int .u64 (m2 : Int)) ∧ Grew w' W') (hS2 : ∀ w', Grew w w' → Calls Tryz.prog 30 #[.pointer (some ⟨B2, 0, none⟩)] w' fun e W' => ∃ v, e = .returned v ∧ IsB W' v x2 ∧ Grew w' W') (hQ : ∀ (v26 : Value), ∀ (v29 : Value), ∀ (w' : World), IsB w' v26 (x1) → IsB w' v29 (x2) → Grew w w' → Q .normal (puts [(12, .pointer (some ⟨B1, 0, none⟩)), (13, .agg #[.int .u64 (p1.n : Int), .int .i64 p1.r]), (14, .pointer (some ⟨B2, 0, none⟩)), (15, .agg #[.int .u64 (p2.n : Int), .int .i64 p2.r]), (16, .bool false), (17, .bool false), (18, .pointer (some ⟨B1, 0, none⟩)), (19, .int .u64 (m1 : Int)), (20, .pointer (some ⟨B2, 0, none⟩)), (21, .int .u64 (m2 : Int)), (22, .bool false), (23, .bool false), (24, .bool false), (25, .pointer (some ⟨B1, 0, none⟩)), (26, v26), (27, .string (str (x1))), (28, .pointer (some ⟨B2, 0, none⟩)), (29, v29), (30, .string (str (x2))), (31, .bool false), (32, .bool false), (33, .bool false), (34, .slice A1 n1 c1), (35, .int .i64 (n1 : Int)), (36, .slice A2 n2 c2), (37, .int .i64 (n2 : Int)), (38, .bool true), (39, .bool true)] a) w')
    : (Code.region 2 opsAl3.toArray true).wp Tryz.prog Q a w := by
  refine region_v 85 opsAl3 [(0, .pointer (some ⟨B1, 0, none⟩)), (1, .pointer (some ⟨B2, 0, none⟩)), (5, .slice A1 n1 c1), (6, .slice A2 n2 c2)] [1, 3, 7, 9, 14, 15, 17, 18] [.eq (.pointer (some ⟨B1, 0, none⟩)), .eq (.agg #[.int .u64 (p1.n : Int), .int .i64 p1.r]), .eq (.pointer (some ⟨B2, 0, none⟩)), .eq (.agg #[.int .u64 (p2.n : Int), .int .i64 p2.r]), .eq (.bool false), .eq (.bool false), .eq (.pointer (some ⟨B1, 0, none⟩)), .eq (.int .u64 (m1 : Int)), .eq (.pointer (some ⟨B2, 0, none⟩)), .eq (.int .u64 (m2 : Int)), .eq (.bool false), .eq (.bool false), .eq (.bool false), .eq (.pointer (some ⟨B1, 0, none⟩)), .pr fun v w => IsB w v (x1), .eq (.string (str (x1))), .eq (.pointer (some ⟨B2, 0, none⟩)), .pr fun v w => IsB w v (x2), .eq (.string (str (x2))), .eq (.bool false), .eq (.bool false), .eq (.bool false), .eq (.slice A1 n1 c1), .eq (.int .i64 (n1 : Int)), .eq (.slice A2 n2 c2), .eq (.int .i64 (n2 : Int)), .eq (.bool true), .eq (.bool true)] Grew Grew.refl Grew.trans follows (by kernel_rfl) (by kernel_rfl) hN ⟨h0, h1, h5, h6, trivial⟩ rfl ?_ ?_ ?_ ?_
  · exact ⟨(fun _ _ _ h hg => IsB.grew h hg), (fun _ _ _ h hg => IsB.grew h hg), trivial⟩
  · intro _ w' _ _
    exact ⟨fun _ => rfl, trivial, fun _ => rfl, trivial, fun _ => ob_bin (guardBa _ _ _ _ _ _) (neBf _ ep), fun _ => rfl, fun _ => rfl, trivial, fun _ => rfl, trivial, fun _ => ob_bin (guard_int _ _ _ _ _ _ _ _ _) (neNf _ _ _ em), fun _ => ob_pick rfl rfl, fun _ => rfl, fun _ => rfl, trivial, trivial, fun _ => rfl, trivial, trivial, fun _ => ob_bin (guard_str _ _ _ _ _ _ _) (neSf _ ex), fun _ => ob_pick rfl rfl, fun _ => rfl, fun _ => rfl, fun _ => ob_len Tryz.underlying65 rfl, fun _ => rfl, fun _ => ob_len Tryz.underlying65 rfl, fun _ => ob_bin (guard_int _ _ _ _ _ _ _ _ _) (neNt _ _ _ ne), fun _ => ob_pick rfl rfl, trivial⟩
  · refine ⟨?_, ?_, ?_, ?_, ?_, ?_, ?_, ?_, trivial⟩
    · rintro o _ ho hd a' w' hF hR hp
      have hio := (nthO_eq _ _).symm.trans ho
      cases ho
      cases hd
      have q0 : a'.tmps.getD 12 undef = .pointer (some ⟨B1, 0, none⟩) := hp 0 _ 12 rfl rfl rfl
      refine step_callD hio rfl rfl (enters_of Tryz.func25 (by kernel_rfl) rfl) (show Array.map a'.eval #[.tmp 12] = _ from by simp only [List.map_toArray, List.map_cons, List.map_nil, Act.eval, q0]) ((hP1 w' hR.undraw).mono ?_)
      rintro e w'' ⟨rfl, hb⟩
      exact ⟨_, rfl, _, rfl, rfl, hb⟩
    · rintro o _ ho hd a' w' hF hR hp
      have hio := (nthO_eq _ _).symm.trans ho
      cases ho
      cases hd
      have q2 : a'.tmps.getD 14 undef = .pointer (some ⟨B2, 0, none⟩) := hp 2 _ 14 rfl rfl rfl
      refine step_callD hio rfl rfl (enters_of Tryz.func25 (by kernel_rfl) rfl) (show Array.map a'.eval #[.tmp 14] = _ from by simp only [List.map_toArray, List.map_cons, List.map_nil, Act.eval, q2]) ((hP2 w' hR.undraw).mono ?_)
      rintro e w'' ⟨rfl, hb⟩
      exact ⟨_, rfl, _, rfl, rfl, hb⟩
    · rintro o _ ho hd a' w' hF hR hp
      have hio := (nthO_eq _ _).symm.trans ho
      cases ho
      cases hd
      have q5 : a'.tmps.getD 17 undef = .bool false := hp 5 _ 17 rfl rfl rfl
      have q6 : a'.tmps.getD 18 undef = .pointer (some ⟨B1, 0, none⟩) := hp 6 _ 18 rfl rfl rfl
      refine step_callD hio (wanted_on rfl (show opsAl3.toArray[5]? = some _ from rfl) rfl q5) rfl (enters_of Tryz.func26 (by kernel_rfl) rfl) (show Array.map a'.eval #[.tmp 18] = _ from by simp only [List.map_toArray, List.map_cons, List.map_nil, Act.eval, q6]) ((hB1 w' hR.undraw).mono ?_)
      rintro e w'' ⟨rfl, hb⟩
      exact ⟨_, rfl, _, rfl, rfl, hb⟩
    · rintro o _ ho hd a' w' hF hR hp
      have hio := (nthO_eq _ _).symm.trans ho
      cases ho
      cases hd
      have q5 : a'.tmps.getD 17 undef = .bool false := hp 5 _ 17 rfl rfl rfl
      have q8 : a'.tmps.getD 20 undef = .pointer (some ⟨B2, 0, none⟩) := hp 8 _ 20 rfl rfl rfl
      refine step_callD hio (wanted_on rfl (show opsAl3.toArray[5]? = some _ from rfl) rfl q5) rfl (enters_of Tryz.func26 (by kernel_rfl) rfl) (show Array.map a'.eval #[.tmp 20] = _ from by simp only [List.map_toArray, List.map_cons, List.map_nil, Act.eval, q8]) ((hB2 w' hR.undraw).mono ?_)
      rintro e w'' ⟨rfl, hb⟩
      exact ⟨_, rfl, _, rfl, rfl, hb⟩
    · rintro o _ ho hd a' w' hF hR hp
      have hio := (nthO_eq _ _).symm.trans ho
      cases ho
      cases hd
      have q12 : a'.tmps.getD 24 undef = .bool false := hp 12 _ 24 rfl rfl rfl
      have q13 : a'.tmps.getD 25 undef = .pointer (some ⟨B1, 0, none⟩) := hp 13 _ 25 rfl rfl rfl
      refine step_callD hio (wanted_on rfl (show opsAl3.toArray[12]? = some _ from rfl) rfl q12) rfl (enters_of Tryz.func30 (by kernel_rfl) rfl) (show Array.map a'.eval #[.tmp 25] = _ from by simp only [List.map_toArray, List.map_cons, List.map_nil, Act.eval, q13]) ((hS1 w' hR.undraw).mono ?_)
      rintro e w'' ⟨v, rfl, hv, hb⟩
      exact ⟨_, rfl, _, rfl, hv, hb⟩
    · rintro o _ ho hd a' w' hF hR hp
      have hio := (nthO_eq _ _).symm.trans ho
      cases ho
      cases hd
      have q12 : a'.tmps.getD 24 undef = .bool false := hp 12 _ 24 rfl rfl rfl
      have q14 : IsB w' (a'.tmps.getD 26 undef) (x1) := hp 14 _ 26 rfl rfl rfl
      exact step_conv hio (wanted_on rfl (show opsAl3.toArray[12]? = some _ from rfl) rfl q12) rfl (show IsB w' (a'.tmps.getD 26 undef) _ from q14) ⟨_, rfl, rfl, Grew.refl _⟩
    · rintro o _ ho hd a' w' hF hR hp
      have hio := (nthO_eq _ _).symm.trans ho
      cases ho
      cases hd
      have q12 : a'.tmps.getD 24 undef = .bool false := hp 12 _ 24 rfl rfl rfl
      have q16 : a'.tmps.getD 28 undef = .pointer (some ⟨B2, 0, none⟩) := hp 16 _ 28 rfl rfl rfl
      refine step_callD hio (wanted_on rfl (show opsAl3.toArray[12]? = some _ from rfl) rfl q12) rfl (enters_of Tryz.func30 (by kernel_rfl) rfl) (show Array.map a'.eval #[.tmp 28] = _ from by simp only [List.map_toArray, List.map_cons, List.map_nil, Act.eval, q16]) ((hS2 w' hR.undraw).mono ?_)
      rintro e w'' ⟨v, rfl, hv, hb⟩
      exact ⟨_, rfl, _, rfl, hv, hb⟩
    · rintro o _ ho hd a' w' hF hR hp
      have hio := (nthO_eq _ _).symm.trans ho
      cases ho
      cases hd
      have q12 : a'.tmps.getD 24 undef = .bool false := hp 12 _ 24 rfl rfl rfl
      have q17 : IsB w' (a'.tmps.getD 29 undef) (x2) := hp 17 _ 29 rfl rfl rfl
      exact step_conv hio (wanted_on rfl (show opsAl3.toArray[12]? = some _ from rfl) rfl q12) rfl (show IsB w' (a'.tmps.getD 29 undef) _ from q17) ⟨_, rfl, rfl, Grew.refl _⟩
  · intro u w' hR h
    exact hQ (u 14) (u 17) w' (h 14 (Nat.le_of_ble_eq_true rfl)) (h 17 (Nat.le_of_ble_eq_true rfl)) hR.undraw
noncomputable def opsAl4 : List Oper := opsOf Tryz.f24 2
set_option maxRecDepth 100000 in
set_option maxHeartbeats 4000000 in
theorem alike_r4 (B1 B2 : Nat) (p1 p2 : BA) (m1 m2 : Nat) (x1 x2 : List UInt8) (A1 A2 : Option Addr) (n1 n2 c1 c2 : Nat)  (a : Act) (w : World) (Q : Exit → Act → World → Prop) (hN : a.tmps.size = 85) (h0 : a.tmps.getD 0 undef = .pointer (some ⟨B1, 0, none⟩)) (h1 : a.tmps.getD 1 undef = .pointer (some ⟨B2, 0, none⟩)) (h5 : a.tmps.getD 5 undef = .slice A1 n1 c1) (h6 : a.tmps.getD 6 undef = .slice A2 n2 c2) (ep : p1 = p2) (em : m1 = m2) (ex : x1 = x2) (en : n1 = n2) (hP1 : ∀ w', Grew w w' → Calls Tryz.prog 25 #[.pointer (some ⟨B1, 0, none⟩)] w' fun e W' => e = .returned (.agg #[.int .u64 (p1.n : Int), .int .i64 p1.r]) ∧ Grew w' W') (hB1 : ∀ w', Grew w w' → Calls Tryz.prog 26 #[.pointer (some ⟨B1, 0, none⟩)] w' fun e W' => e = .returned (.int .u64 (m1 : Int)) ∧ Grew w' W') (hS1 : ∀ w', Grew w w' → Calls Tryz.prog 30 #[.pointer (some ⟨B1, 0, none⟩)] w' fun e W' => ∃ v, e = .returned v ∧ IsB W' v x1 ∧ Grew w' W') (hP2 : ∀ w', Grew w w' → Calls Tryz.prog 25 #[.pointer (some ⟨B2, 0, none⟩)] w' fun e W' => e = .returned (.agg #[.int .u64 (p2.n : Int), .int .i64 p2.r]) ∧ Grew w' W') (hB2 : ∀ w', Grew w w' → Calls Tryz.prog 26 #[.pointer (some ⟨B2, 0, none⟩)] w' fun e W' => e = .returned (.int .u64 (m2 : Int)) ∧ Grew w' W') (hS2 : ∀ w', Grew w w' → Calls Tryz.prog 30 #[.pointer (some ⟨B2, 0, none⟩)] w' fun e W' => ∃ v, e = .returned v ∧ IsB W' v x2 ∧ Grew w' W') (hQ : ∀ (v26 : Value), ∀ (v29 : Value), ∀ (w' : World), IsB w' v26 (x1) → IsB w' v29 (x2) → Grew w w' → Q .normal (puts [(12, .pointer (some ⟨B1, 0, none⟩)), (13, .agg #[.int .u64 (p1.n : Int), .int .i64 p1.r]), (14, .pointer (some ⟨B2, 0, none⟩)), (15, .agg #[.int .u64 (p2.n : Int), .int .i64 p2.r]), (16, .bool false), (17, .bool false), (18, .pointer (some ⟨B1, 0, none⟩)), (19, .int .u64 (m1 : Int)), (20, .pointer (some ⟨B2, 0, none⟩)), (21, .int .u64 (m2 : Int)), (22, .bool false), (23, .bool false), (24, .bool false), (25, .pointer (some ⟨B1, 0, none⟩)), (26, v26), (27, .string (str (x1))), (28, .pointer (some ⟨B2, 0, none⟩)), (29, v29), (30, .string (str (x2))), (31, .bool false), (32, .bool false), (33, .bool false), (34, .slice A1 n1 c1), (35, .int .i64 (n1 : Int)), (36, .slice A2 n2 c2), (37, .int .i64 (n2 : Int)), (38, .bool false), (39, .bool false)] a) w')
    : (Code.region 2 opsAl4.toArray true).wp Tryz.prog Q a w := by
  refine region_v 85 opsAl4 [(0, .pointer (some ⟨B1, 0, none⟩)), (1, .pointer (some ⟨B2, 0, none⟩)), (5, .slice A1 n1 c1), (6, .slice A2 n2 c2)] [1, 3, 7, 9, 14, 15, 17, 18] [.eq (.pointer (some ⟨B1, 0, none⟩)), .eq (.agg #[.int .u64 (p1.n : Int), .int .i64 p1.r]), .eq (.pointer (some ⟨B2, 0, none⟩)), .eq (.agg #[.int .u64 (p2.n : Int), .int .i64 p2.r]), .eq (.bool false), .eq (.bool false), .eq (.pointer (some ⟨B1, 0, none⟩)), .eq (.int .u64 (m1 : Int)), .eq (.pointer (some ⟨B2, 0, none⟩)), .eq (.int .u64 (m2 : Int)), .eq (.bool false), .eq (.bool false), .eq (.bool false), .eq (.pointer (some ⟨B1, 0, none⟩)), .pr fun v w => IsB w v (x1), .eq (.string (str (x1))), .eq (.pointer (some ⟨B2, 0, none⟩)), .pr fun v w => IsB w v (x2), .eq (.string (str (x2))), .eq (.bool false), .eq (.bool false), .eq (.bool false), .eq (.slice A1 n1 c1), .eq (.int .i64 (n1 : Int)), .eq (.slice A2 n2 c2), .eq (.int .i64 (n2 : Int)), .eq (.bool false), .eq (.bool false)] Grew Grew.refl Grew.trans follows (by kernel_rfl) (by kernel_rfl) hN ⟨h0, h1, h5, h6, trivial⟩ rfl ?_ ?_ ?_ ?_
  · exact ⟨(fun _ _ _ h hg => IsB.grew h hg), (fun _ _ _ h hg => IsB.grew h hg), trivial⟩
  · intro _ w' _ _
    exact ⟨fun _ => rfl, trivial, fun _ => rfl, trivial, fun _ => ob_bin (guardBa _ _ _ _ _ _) (neBf _ ep), fun _ => rfl, fun _ => rfl, trivial, fun _ => rfl, trivial, fun _ => ob_bin (guard_int _ _ _ _ _ _ _ _ _) (neNf _ _ _ em), fun _ => ob_pick rfl rfl, fun _ => rfl, fun _ => rfl, trivial, trivial, fun _ => rfl, trivial, trivial, fun _ => ob_bin (guard_str _ _ _ _ _ _ _) (neSf _ ex), fun _ => ob_pick rfl rfl, fun _ => rfl, fun _ => rfl, fun _ => ob_len Tryz.underlying65 rfl, fun _ => rfl, fun _ => ob_len Tryz.underlying65 rfl, fun _ => ob_bin (guard_int _ _ _ _ _ _ _ _ _) (neNf _ _ _ en), fun _ => ob_pick rfl rfl, trivial⟩
  · refine ⟨?_, ?_, ?_, ?_, ?_, ?_, ?_, ?_, trivial⟩
    · rintro o _ ho hd a' w' hF hR hp
      have hio := (nthO_eq _ _).symm.trans ho
      cases ho
      cases hd
      have q0 : a'.tmps.getD 12 undef = .pointer (some ⟨B1, 0, none⟩) := hp 0 _ 12 rfl rfl rfl
      refine step_callD hio rfl rfl (enters_of Tryz.func25 (by kernel_rfl) rfl) (show Array.map a'.eval #[.tmp 12] = _ from by simp only [List.map_toArray, List.map_cons, List.map_nil, Act.eval, q0]) ((hP1 w' hR.undraw).mono ?_)
      rintro e w'' ⟨rfl, hb⟩
      exact ⟨_, rfl, _, rfl, rfl, hb⟩
    · rintro o _ ho hd a' w' hF hR hp
      have hio := (nthO_eq _ _).symm.trans ho
      cases ho
      cases hd
      have q2 : a'.tmps.getD 14 undef = .pointer (some ⟨B2, 0, none⟩) := hp 2 _ 14 rfl rfl rfl
      refine step_callD hio rfl rfl (enters_of Tryz.func25 (by kernel_rfl) rfl) (show Array.map a'.eval #[.tmp 14] = _ from by simp only [List.map_toArray, List.map_cons, List.map_nil, Act.eval, q2]) ((hP2 w' hR.undraw).mono ?_)
      rintro e w'' ⟨rfl, hb⟩
      exact ⟨_, rfl, _, rfl, rfl, hb⟩
    · rintro o _ ho hd a' w' hF hR hp
      have hio := (nthO_eq _ _).symm.trans ho
      cases ho
      cases hd
      have q5 : a'.tmps.getD 17 undef = .bool false := hp 5 _ 17 rfl rfl rfl
      have q6 : a'.tmps.getD 18 undef = .pointer (some ⟨B1, 0, none⟩) := hp 6 _ 18 rfl rfl rfl
      refine step_callD hio (wanted_on rfl (show opsAl4.toArray[5]? = some _ from rfl) rfl q5) rfl (enters_of Tryz.func26 (by kernel_rfl) rfl) (show Array.map a'.eval #[.tmp 18] = _ from by simp only [List.map_toArray, List.map_cons, List.map_nil, Act.eval, q6]) ((hB1 w' hR.undraw).mono ?_)
      rintro e w'' ⟨rfl, hb⟩
      exact ⟨_, rfl, _, rfl, rfl, hb⟩
    · rintro o _ ho hd a' w' hF hR hp
      have hio := (nthO_eq _ _).symm.trans ho
      cases ho
      cases hd
      have q5 : a'.tmps.getD 17 undef = .bool false := hp 5 _ 17 rfl rfl rfl
      have q8 : a'.tmps.getD 20 undef = .pointer (some ⟨B2, 0, none⟩) := hp 8 _ 20 rfl rfl rfl
      refine step_callD hio (wanted_on rfl (show opsAl4.toArray[5]? = some _ from rfl) rfl q5) rfl (enters_of Tryz.func26 (by kernel_rfl) rfl) (show Array.map a'.eval #[.tmp 20] = _ from by simp only [List.map_toArray, List.map_cons, List.map_nil, Act.eval, q8]) ((hB2 w' hR.undraw).mono ?_)
      rintro e w'' ⟨rfl, hb⟩
      exact ⟨_, rfl, _, rfl, rfl, hb⟩
    · rintro o _ ho hd a' w' hF hR hp
      have hio := (nthO_eq _ _).symm.trans ho
      cases ho
      cases hd
      have q12 : a'.tmps.getD 24 undef = .bool false := hp 12 _ 24 rfl rfl rfl
      have q13 : a'.tmps.getD 25 undef = .pointer (some ⟨B1, 0, none⟩) := hp 13 _ 25 rfl rfl rfl
      refine step_callD hio (wanted_on rfl (show opsAl4.toArray[12]? = some _ from rfl) rfl q12) rfl (enters_of Tryz.func30 (by kernel_rfl) rfl) (show Array.map a'.eval #[.tmp 25] = _ from by simp only [List.map_toArray, List.map_cons, List.map_nil, Act.eval, q13]) ((hS1 w' hR.undraw).mono ?_)
      rintro e w'' ⟨v, rfl, hv, hb⟩
      exact ⟨_, rfl, _, rfl, hv, hb⟩
    · rintro o _ ho hd a' w' hF hR hp
      have hio := (nthO_eq _ _).symm.trans ho
      cases ho
      cases hd
      have q12 : a'.tmps.getD 24 undef = .bool false := hp 12 _ 24 rfl rfl rfl
      have q14 : IsB w' (a'.tmps.getD 26 undef) (x1) := hp 14 _ 26 rfl rfl rfl
      exact step_conv hio (wanted_on rfl (show opsAl4.toArray[12]? = some _ from rfl) rfl q12) rfl (show IsB w' (a'.tmps.getD 26 undef) _ from q14) ⟨_, rfl, rfl, Grew.refl _⟩
    · rintro o _ ho hd a' w' hF hR hp
      have hio := (nthO_eq _ _).symm.trans ho
      cases ho
      cases hd
      have q12 : a'.tmps.getD 24 undef = .bool false := hp 12 _ 24 rfl rfl rfl
      have q16 : a'.tmps.getD 28 undef = .pointer (some ⟨B2, 0, none⟩) := hp 16 _ 28 rfl rfl rfl
      refine step_callD hio (wanted_on rfl (show opsAl4.toArray[12]? = some _ from rfl) rfl q12) rfl (enters_of Tryz.func30 (by kernel_rfl) rfl) (show Array.map a'.eval #[.tmp 28] = _ from by simp only [List.map_toArray, List.map_cons, List.map_nil, Act.eval, q16]) ((hS2 w' hR.undraw).mono ?_)
      rintro e w'' ⟨v, rfl, hv, hb⟩
      exact ⟨_, rfl, _, rfl, hv, hb⟩
    · rintro o _ ho hd a' w' hF hR hp
      have hio := (nthO_eq _ _).symm.trans ho
      cases ho
      cases hd
      have q12 : a'.tmps.getD 24 undef = .bool false := hp 12 _ 24 rfl rfl rfl
      have q17 : IsB w' (a'.tmps.getD 29 undef) (x2) := hp 17 _ 29 rfl rfl rfl
      exact step_conv hio (wanted_on rfl (show opsAl4.toArray[12]? = some _ from rfl) rfl q12) rfl (show IsB w' (a'.tmps.getD 29 undef) _ from q17) ⟨_, rfl, rfl, Grew.refl _⟩
  · intro u w' hR h
    exact hQ (u 14) (u 17) w' (h 14 (Nat.le_of_ble_eq_true rfl)) (h 17 (Nat.le_of_ble_eq_true rfl)) hR.undraw
noncomputable def opsAr0 : List Oper := opsOf Tryz.f24 7
set_option maxRecDepth 100000 in
set_option maxHeartbeats 4000000 in
theorem alike_v0 (i n b1 o1 c1 b2 o2 c2 : Nat) (v1 v2 : VM) (X1 X2 : Option Addr) (e1 e2 : Nat)  (a : Act) (w : World) (Q : Exit → Act → World → Prop) (hN : a.tmps.size = 85) (h5 : a.tmps.getD 5 undef = .slice (some ⟨b1, o1, none⟩) n c1) (h6 : a.tmps.getD 6 undef = .slice (some ⟨b2, o2, none⟩) n c2) (h7 : a.tmps.getD 7 undef = .int .i64 (i : Int)) (hi : i < n) (ne : v1.s ≠ v2.s) (l1 : b1 < w.heap.size) (a10 : w.cell? ⟨b1, o1 + i * 4, none⟩ = some (.int .u64 (v1.s : Int))) (_a11 : w.cell? ⟨b1, o1 + i * 4 + 1, none⟩ = some (.int .u64 (v1.b.n : Int))) (_a12 : w.cell? ⟨b1, o1 + i * 4 + 1 + 1, none⟩ = some (.int .i64 v1.b.r)) (_a13 : w.cell? ⟨b1, o1 + i * 4 + 3, none⟩ = some (.slice X1 v1.x.length e1)) (_g1 : HasA w w.heap.size X1 v1.x) (l2 : b2 < w.heap.size) (a20 : w.cell? ⟨b2, o2 + i * 4, none⟩ = some (.int .u64 (v2.s : Int))) (_a21 : w.cell? ⟨b2, o2 + i * 4 + 1, none⟩ = some (.int .u64 (v2.b.n : Int))) (_a22 : w.cell? ⟨b2, o2 + i * 4 + 1 + 1, none⟩ = some (.int .i64 v2.b.r)) (_a23 : w.cell? ⟨b2, o2 + i * 4 + 3, none⟩ = some (.slice X2 v2.x.length e2)) (_g2 : HasA w w.heap.size X2 v2.x) (hQ : ∀ (w' : World), Grew w w' → Q .normal (puts [(46, .slice (some ⟨b1, o1, none⟩) n c1), (47, .int .i64 (i : Int)), (48, .pointer (some ⟨b1, o1 + i * 4, none⟩)), (49, .pointer (some ⟨b1, o1 + i * 4, none⟩)), (50, .int .u64 (v1.s : Int)), (51, .slice (some ⟨b2, o2, none⟩) n c2), (52, .int .i64 (i : Int)), (53, .pointer (some ⟨b2, o2 + i * 4, none⟩)), (54, .pointer (some ⟨b2, o2 + i * 4, none⟩)), (55, .int .u64 (v2.s : Int)), (56, .bool true), (57, .bool true), (58, undef), (59, undef), (60, undef), (61, undef), (62, undef), (63, undef), (64, undef), (65, undef), (66, undef), (67, undef), (68, undef), (69, .bool true), (70, .bool true), (71, undef), (72, undef), (73, undef), (74, undef), (75, undef), (76, undef), (77, undef), (78, undef), (79, undef), (80, undef), (81, undef), (82, undef), (83, undef), (84, .bool true)] a) w')
    : (Code.region 7 opsAr0.toArray true).wp Tryz.prog Q a w := by
  refine region_v 85 opsAr0 [(5, .slice (some ⟨b1, o1, none⟩) n c1), (6, .slice (some ⟨b2, o2, none⟩) n c2), (7, .int .i64 (i : Int))] [] [.eq (.slice (some ⟨b1, o1, none⟩) n c1), .eq (.int .i64 (i : Int)), .eq (.pointer (some ⟨b1, o1 + i * 4, none⟩)), .eq (.pointer (some ⟨b1, o1 + i * 4, none⟩)), .eq (.int .u64 (v1.s : Int)), .eq (.slice (some ⟨b2, o2, none⟩) n c2), .eq (.int .i64 (i : Int)), .eq (.pointer (some ⟨b2, o2 + i * 4, none⟩)), .eq (.pointer (some ⟨b2, o2 + i * 4, none⟩)), .eq (.int .u64 (v2.s : Int)), .eq (.bool true), .eq (.bool true), .eq (undef), .eq (undef), .eq (undef), .eq (undef), .eq (undef), .eq (undef), .eq (undef), .eq (undef), .eq (undef), .eq (undef), .eq (undef), .eq (.bool true), .eq (.bool true), .eq (undef), .eq (undef), .eq (undef), .eq (undef), .eq (undef), .eq (undef), .eq (undef), .eq (undef), .eq (undef), .eq (undef), .eq (undef), .eq (undef), .eq (undef), .eq (.bool true)] Grew Grew.refl Grew.trans follows (by kernel_rfl) (by kernel_rfl) hN ⟨h5, h6, h7, trivial⟩ rfl ?_ ?_ ?_ ?_
  · exact trivial
  · intro _ w' hR _
    exact ⟨fun _ => rfl, fun _ => rfl, fun _ => ob_idx (ixVo _ _ _ _ _ _ hi), fun _ => ob_fld (fdVo0 _ _ _), fun _ => ob_load (ldW6 _ _ _ ((Below.cell hR.undraw (p := ⟨b1, o1 + i * 4, none⟩) l1).trans a10)), fun _ => rfl, fun _ => rfl, fun _ => ob_idx (ixVo _ _ _ _ _ _ hi), fun _ => ob_fld (fdVo0 _ _ _), fun _ => ob_load (ldW6 _ _ _ ((Below.cell hR.undraw (p := ⟨b2, o2 + i * 4, none⟩) l2).trans a20)), fun _ => ob_bin (guard_int _ _ _ _ _ _ _ _ _) (neNt _ _ _ ne), fun _ => rfl, fun _ => rfl, fun _ => rfl, fun _ => rfl, fun _ => rfl, fun _ => rfl, fun _ => rfl, fun _ => rfl, fun _ => rfl, fun _ => rfl, fun _ => rfl, fun _ => rfl, fun _ => ob_pick rfl rfl, fun _ => rfl, fun _ => rfl, fun _ => rfl, fun _ => rfl, fun _ => rfl, fun _ => rfl, fun _ => rfl, fun _ => rfl, fun _ => rfl, fun _ => rfl, fun _ => rfl, fun _ => rfl, fun _ => rfl, fun _ => rfl, fun _ => ob_pick rfl rfl, trivial⟩
  · exact trivial
  · intro _ w' hR _
    exact hQ  w'  hR.undraw
noncomputable def opsAr1 : List Oper := opsOf Tryz.f24 7
set_option maxRecDepth 100000 in
set_option maxHeartbeats 4000000 in
theorem alike_v1 (i n b1 o1 c1 b2 o2 c2 : Nat) (v1 v2 : VM) (X1 X2 : Option Addr) (e1 e2 : Nat)  (a : Act) (w : World) (Q : Exit → Act → World → Prop) (hN : a.tmps.size = 85) (h5 : a.tmps.getD 5 undef = .slice (some ⟨b1, o1, none⟩) n c1) (h6 : a.tmps.getD 6 undef = .slice (some ⟨b2, o2, none⟩) n c2) (h7 : a.tmps.getD 7 undef = .int .i64 (i : Int)) (hi : i < n) (es : v1.s = v2.s) (ne : v1.b ≠ v2.b) (l1 : b1 < w.heap.size) (a10 : w.cell? ⟨b1, o1 + i * 4, none⟩ = some (.int .u64 (v1.s : Int))) (a11 : w.cell? ⟨b1, o1 + i * 4 + 1, none⟩ = some (.int .u64 (v1.b.n : Int))) (a12 : w.cell? ⟨b1, o1 + i * 4 + 1 + 1, none⟩ = some (.int .i64 v1.b.r)) (_a13 : w.cell? ⟨b1, o1 + i * 4 + 3, none⟩ = some (.slice X1 v1.x.length e1)) (_g1 : HasA w w.heap.size X1 v1.x) (l2 : b2 < w.heap.size) (a20 : w.cell? ⟨b2, o2 + i * 4, none⟩ = some (.int .u64 (v2.s : Int))) (a21 : w.cell? ⟨b2, o2 + i * 4 + 1, none⟩ = some (.int .u64 (v2.b.n : Int))) (a22 : w.cell? ⟨b2, o2 + i * 4 + 1 + 1, none⟩ = some (.int .i64 v2.b.r)) (_a23 : w.cell? ⟨b2, o2 + i * 4 + 3, none⟩ = some (.slice X2 v2.x.length e2)) (_g2 : HasA w w.heap.size X2 v2.x) (hQ : ∀ (w' : World), Grew w w' → Q .normal (puts [(46, .slice (some ⟨b1, o1, none⟩) n c1), (47, .int .i64 (i : Int)), (48, .pointer (some ⟨b1, o1 + i * 4, none⟩)), (49, .pointer (some ⟨b1, o1 + i * 4, none⟩)), (50, .int .u64 (v1.s : Int)), (51, .slice (some ⟨b2, o2, none⟩) n c2), (52, .int .i64 (i : Int)), (53, .pointer (some ⟨b2, o2 + i * 4, none⟩)), (54, .pointer (some ⟨b2, o2 + i * 4, none⟩)), (55, .int .u64 (v2.s : Int)), (56, .bool false), (57, .bool false), (58, .slice (some ⟨b1, o1, none⟩) n c1), (59, .int .i64 (i : Int)), (60, .pointer (some ⟨b1, o1 + i * 4, none⟩)), (61, .pointer (some ⟨b1, o1 + i * 4 + 1, none⟩)), (62, .agg #[.int .u64 (v1.b.n : Int), .int .i64 v1.b.r]), (63, .slice (some ⟨b2, o2, none⟩) n c2), (64, .int .i64 (i : Int)), (65, .pointer (some ⟨b2, o2 + i * 4, none⟩)), (66, .pointer (some ⟨b2, o2 + i * 4 + 1, none⟩)), (67, .agg #[.int .u64 (v2.b.n : Int), .int .i64 v2.b.r]), (68, .bool true), (69, .bool true), (70, .bool true), (71, undef), (72, undef), (73, undef), (74, undef), (75, undef), (76, undef), (77, undef), (78, undef), (79, undef), (80, undef), (81, undef), (82, undef), (83, undef), (84, .bool true)] a) w')
    : (Code.region 7 opsAr1.toArray true).wp Tryz.prog Q a w := by
  refine region_v 85 opsAr1 [(5, .slice (some ⟨b1, o1, none⟩) n c1), (6, .slice (some ⟨b2, o2, none⟩) n c2), (7, .int .i64 (i : Int))] [] [.eq (.slice (some ⟨b1, o1, none⟩) n c1), .eq (.int .i64 (i : Int)), .eq (.pointer (some ⟨b1, o1 + i * 4, none⟩)), .eq (.pointer (some ⟨b1, o1 + i * 4, none⟩)), .eq (.int .u64 (v1.s : Int)), .eq (.slice (some ⟨b2, o2, none⟩) n c2), .eq (.int .i64 (i : Int)), .eq (.pointer (some ⟨b2, o2 + i * 4, none⟩)), .eq (.pointer (some ⟨b2, o2 + i * 4, none⟩)), .eq (.int .u64 (v2.s : Int)), .eq (.bool false), .eq (.bool false), .eq (.slice (some ⟨b1, o1, none⟩) n c1), .eq (.int .i64 (i : Int)), .eq (.pointer (some ⟨b1, o1 + i * 4, none⟩)), .eq (.pointer (some ⟨b1, o1 + i * 4 + 1, none⟩)), .eq (.agg #[.int .u64 (v1.b.n : Int), .int .i64 v1.b.r]), .eq (.slice (some ⟨b2, o2, none⟩) n c2), .eq (.int .i64 (i : Int)), .eq (.pointer (some ⟨b2, o2 + i * 4, none⟩)), .eq (.pointer (some ⟨b2, o2 + i * 4 + 1, none⟩)), .eq (.agg #[.int .u64 (v2.b.n : Int), .int .i64 v2.b.r]), .eq (.bool true), .eq (.bool true), .eq (.bool true), .eq (undef), .eq (undef), .eq (undef), .eq (undef), .eq (undef), .eq (undef), .eq (undef), .eq (undef), .eq (undef), .eq (undef), .eq (undef), .eq (undef), .eq (undef), .eq (.bool true)] Grew Grew.refl Grew.trans follows (by kernel_rfl) (by kernel_rfl) hN ⟨h5, h6, h7, trivial⟩ rfl ?_ ?_ ?_ ?_
  · exact trivial
  · intro _ w' hR _
    exact ⟨fun _ => rfl, fun _ => rfl, fun _ => ob_idx (ixVo _ _ _ _ _ _ hi), fun _ => ob_fld (fdVo0 _ _ _), fun _ => ob_load (ldW6 _ _ _ ((Below.cell hR.undraw (p := ⟨b1, o1 + i * 4, none⟩) l1).trans a10)), fun _ => rfl, fun _ => rfl, fun _ => ob_idx (ixVo _ _ _ _ _ _ hi), fun _ => ob_fld (fdVo0 _ _ _), fun _ => ob_load (ldW6 _ _ _ ((Below.cell hR.undraw (p := ⟨b2, o2 + i * 4, none⟩) l2).trans a20)), fun _ => ob_bin (guard_int _ _ _ _ _ _ _ _ _) (neNf _ _ _ es), fun _ => rfl, fun _ => rfl, fun _ => rfl, fun _ => ob_idx (ixVo _ _ _ _ _ _ hi), fun _ => ob_fld (fdVo1 _ _ _), fun _ => ob_load (ldBA _ _ _ _ _ ((Below.cell hR.undraw (p := ⟨b1, o1 + i * 4 + 1, none⟩) l1).trans a11) ((Below.cell hR.undraw (p := ⟨b1, o1 + i * 4 + 1 + 1, none⟩) l1).trans a12)), fun _ => rfl, fun _ => rfl, fun _ => ob_idx (ixVo _ _ _ _ _ _ hi), fun _ => ob_fld (fdVo1 _ _ _), fun _ => ob_load (ldBA _ _ _ _ _ ((Below.cell hR.undraw (p := ⟨b2, o2 + i * 4 + 1, none⟩) l2).trans a21) ((Below.cell hR.undraw (p := ⟨b2, o2 + i * 4 + 1 + 1, none⟩) l2).trans a22)), fun _ => ob_bin (guardBa _ _ _ _ _ _) (neBt _ ne), fun _ => ob_pick rfl rfl, fun _ => rfl, fun _ => rfl, fun _ => rfl, fun _ => rfl, fun _ => rfl, fun _ => rfl, fun _ => rfl, fun _ => rfl, fun _ => rfl, fun _ => rfl, fun _ => rfl, fun _ => rfl, fun _ => rfl, fun _ => rfl, fun _ => ob_pick rfl rfl, trivial⟩
  · exact trivial
  · intro _ w' hR _
    exact hQ  w'  hR.undraw
noncomputable def opsAr2 : List Oper := opsOf Tryz.f24 7
set_option maxRecDepth 100000 in
set_option maxHeartbeats 4000000 in
theorem alike_v2 (i n b1 o1 c1 b2 o2 c2 : Nat) (v1 v2 : VM) (X1 X2 : Option Addr) (e1 e2 : Nat)  (a : Act) (w : World) (Q : Exit → Act → World → Prop) (hN : a.tmps.size = 85) (h5 : a.tmps.getD 5 undef = .slice (some ⟨b1, o1, none⟩) n c1) (h6 : a.tmps.getD 6 undef = .slice (some ⟨b2, o2, none⟩) n c2) (h7 : a.tmps.getD 7 undef = .int .i64 (i : Int)) (hi : i < n) (es : v1.s = v2.s) (eb : v1.b = v2.b) (ne : v1.x ≠ v2.x) (l1 : b1 < w.heap.size) (a10 : w.cell? ⟨b1, o1 + i * 4, none⟩ = some (.int .u64 (v1.s : Int))) (a11 : w.cell? ⟨b1, o1 + i * 4 + 1, none⟩ = some (.int .u64 (v1.b.n : Int))) (a12 : w.cell? ⟨b1, o1 + i * 4 + 1 + 1, none⟩ = some (.int .i64 v1.b.r)) (a13 : w.cell? ⟨b1, o1 + i * 4 + 3, none⟩ = some (.slice X1 v1.x.length e1)) (g1 : HasA w w.heap.size X1 v1.x) (l2 : b2 < w.heap.size) (a20 : w.cell? ⟨b2, o2 + i * 4, none⟩ = some (.int .u64 (v2.s : Int))) (a21 : w.cell? ⟨b2, o2 + i * 4 + 1, none⟩ = some (.int .u64 (v2.b.n : Int))) (a22 : w.cell? ⟨b2, o2 + i * 4 + 1 + 1, none⟩ = some (.int .i64 v2.b.r)) (a23 : w.cell? ⟨b2, o2 + i * 4 + 3, none⟩ = some (.slice X2 v2.x.length e2)) (g2 : HasA w w.heap.size X2 v2.x) (hQ : ∀ (w' : World), Grew w w' → Q .normal (puts [(46, .slice (some ⟨b1, o1, none⟩) n c1), (47, .int .i64 (i : Int)), (48, .pointer (some ⟨b1, o1 + i * 4, none⟩)), (49, .pointer (some ⟨b1, o1 + i * 4, none⟩)), (50, .int .u64 (v1.s : Int)), (51, .slice (some ⟨b2, o2, none⟩) n c2), (52, .int .i64 (i : Int)), (53, .pointer (some ⟨b2, o2 + i * 4, none⟩)), (54, .pointer (some ⟨b2, o2 + i * 4, none⟩)), (55, .int .u64 (v2.s : Int)), (56, .bool false), (57, .bool false), (58, .slice (some ⟨b1, o1, none⟩) n c1), (59, .int .i64 (i : Int)), (60, .pointer (some ⟨b1, o1 + i * 4, none⟩)), (61, .pointer (some ⟨b1, o1 + i * 4 + 1, none⟩)), (62, .agg #[.int .u64 (v1.b.n : Int), .int .i64 v1.b.r]), (63, .slice (some ⟨b2, o2, none⟩) n c2), (64, .int .i64 (i : Int)), (65, .pointer (some ⟨b2, o2 + i * 4, none⟩)), (66, .pointer (some ⟨b2, o2 + i * 4 + 1, none⟩)), (67, .agg #[.int .u64 (v2.b.n : Int), .int .i64 v2.b.r]), (68, .bool false), (69, .bool false), (70, .bool false), (71, .slice (some ⟨b1, o1, none⟩) n c1), (72, .int .i64 (i : Int)), (73, .pointer (some ⟨b1, o1 + i * 4, none⟩)), (74, .pointer (some ⟨b1, o1 + i * 4 + 3, none⟩)), (75, .slice X1 v1.x.length e1), (76, .string (str v1.x)), (77, .slice (some ⟨b2, o2, none⟩) n c2), (78, .int .i64 (i : Int)), (79, .pointer (some ⟨b2, o2 + i * 4, none⟩)), (80, .pointer (some ⟨b2, o2 + i * 4 + 3, none⟩)), (81, .slice X2 v2.x.length e2), (82, .string (str v2.x)), (83, .bool true), (84, .bool true)] a) w')
    : (Code.region 7 opsAr2.toArray true).wp Tryz.prog Q a w := by
  refine region_v 85 opsAr2 [(5, .slice (some ⟨b1, o1, none⟩) n c1), (6, .slice (some ⟨b2, o2, none⟩) n c2), (7, .int .i64 (i : Int))] [] [.eq (.slice (some ⟨b1, o1, none⟩) n c1), .eq (.int .i64 (i : Int)), .eq (.pointer (some ⟨b1, o1 + i * 4, none⟩)), .eq (.pointer (some ⟨b1, o1 + i * 4, none⟩)), .eq (.int .u64 (v1.s : Int)), .eq (.slice (some ⟨b2, o2, none⟩) n c2), .eq (.int .i64 (i : Int)), .eq (.pointer (some ⟨b2, o2 + i * 4, none⟩)), .eq (.pointer (some ⟨b2, o2 + i * 4, none⟩)), .eq (.int .u64 (v2.s : Int)), .eq (.bool false), .eq (.bool false), .eq (.slice (some ⟨b1, o1, none⟩) n c1), .eq (.int .i64 (i : Int)), .eq (.pointer (some ⟨b1, o1 + i * 4, none⟩)), .eq (.pointer (some ⟨b1, o1 + i * 4 + 1, none⟩)), .eq (.agg #[.int .u64 (v1.b.n : Int), .int .i64 v1.b.r]), .eq (.slice (some ⟨b2, o2, none⟩) n c2), .eq (.int .i64 (i : Int)), .eq (.pointer (some ⟨b2, o2 + i * 4, none⟩)), .eq (.pointer (some ⟨b2, o2 + i * 4 + 1, none⟩)), .eq (.agg #[.int .u64 (v2.b.n : Int), .int .i64 v2.b.r]), .eq (.bool false), .eq (.bool false), .eq (.bool false), .eq (.slice (some ⟨b1, o1, none⟩) n c1), .eq (.int .i64 (i : Int)), .eq (.pointer (some ⟨b1, o1 + i * 4, none⟩)), .eq (.pointer (some ⟨b1, o1 + i * 4 + 3, none⟩)), .eq (.slice X1 v1.x.length e1), .eq (.string (str v1.x)), .eq (.slice (some ⟨b2, o2, none⟩) n c2), .eq (.int .i64 (i : Int)), .eq (.pointer (some ⟨b2, o2 + i * 4, none⟩)), .eq (.pointer (some ⟨b2, o2 + i * 4 + 3, none⟩)), .eq (.slice X2 v2.x.length e2), .eq (.string (str v2.x)), .eq (.bool true), .eq (.bool true)] Grew Grew.refl Grew.trans follows (by kernel_rfl) (by kernel_rfl) hN ⟨h5, h6, h7, trivial⟩ rfl ?_ ?_ ?_ ?_
  · exact trivial
  · intro _ w' hR _
    exact ⟨fun _ => rfl, fun _ => rfl, fun _ => ob_idx (ixVo _ _ _ _ _ _ hi), fun _ => ob_fld (fdVo0 _ _ _), fun _ => ob_load (ldW6 _ _ _ ((Below.cell hR.undraw (p := ⟨b1, o1 + i * 4, none⟩) l1).trans a10)), fun _ => rfl, fun _ => rfl, fun _ => ob_idx (ixVo _ _ _ _ _ _ hi), fun _ => ob_fld (fdVo0 _ _ _), fun _ => ob_load (ldW6 _ _ _ ((Below.cell hR.undraw (p := ⟨b2, o2 + i * 4, none⟩) l2).trans a20)), fun _ => ob_bin (guard_int _ _ _ _ _ _ _ _ _) (neNf _ _ _ es), fun _ => rfl, fun _ => rfl, fun _ => rfl, fun _ => ob_idx (ixVo _ _ _ _ _ _ hi), fun _ => ob_fld (fdVo1 _ _ _), fun _ => ob_load (ldBA _ _ _ _ _ ((Below.cell hR.undraw (p := ⟨b1, o1 + i * 4 + 1, none⟩) l1).trans a11) ((Below.cell hR.undraw (p := ⟨b1, o1 + i * 4 + 1 + 1, none⟩) l1).trans a12)), fun _ => rfl, fun _ => rfl, fun _ => ob_idx (ixVo _ _ _ _ _ _ hi), fun _ => ob_fld (fdVo1 _ _ _), fun _ => ob_load (ldBA _ _ _ _ _ ((Below.cell hR.undraw (p := ⟨b2, o2 + i * 4 + 1, none⟩) l2).trans a21) ((Below.cell hR.undraw (p := ⟨b2, o2 + i * 4 + 1 + 1, none⟩) l2).trans a22)), fun _ => ob_bin (guardBa _ _ _ _ _ _) (neBf _ eb), fun _ => ob_pick rfl rfl, fun _ => rfl, fun _ => rfl, fun _ => rfl, fun _ => ob_idx (ixVo _ _ _ _ _ _ hi), fun _ => ob_fld (fdVo2 _ _ _), fun _ => ob_load (ldWb _ _ _ ((Below.cell hR.undraw (p := ⟨b1, o1 + i * 4 + 3, none⟩) l1).trans a13)), fun _ => ob_cv (run_conv (HasA.below' g1 hR.undraw) _ Tryz.underlying39 Tryz.underlying5 Tryz.underlying9 rfl), fun _ => rfl, fun _ => rfl, fun _ => ob_idx (ixVo _ _ _ _ _ _ hi), fun _ => ob_fld (fdVo2 _ _ _), fun _ => ob_load (ldWb _ _ _ ((Below.cell hR.undraw (p := ⟨b2, o2 + i * 4 + 3, none⟩) l2).trans a23)), fun _ => ob_cv (run_conv (HasA.below' g2 hR.undraw) _ Tryz.underlying39 Tryz.underlying5 Tryz.underlying9 rfl), fun _ => ob_bin (guard_str _ _ _ _ _ _ _) (neSt _ ne), fun _ => ob_pick rfl rfl, trivial⟩
  · exact trivial
  · intro _ w' hR _
    exact hQ  w'  hR.undraw
noncomputable def opsAr3 : List Oper := opsOf Tryz.f24 7
set_option maxRecDepth 100000 in
set_option maxHeartbeats 4000000 in
theorem alike_v3 (i n b1 o1 c1 b2 o2 c2 : Nat) (v1 v2 : VM) (X1 X2 : Option Addr) (e1 e2 : Nat)  (a : Act) (w : World) (Q : Exit → Act → World → Prop) (hN : a.tmps.size = 85) (h5 : a.tmps.getD 5 undef = .slice (some ⟨b1, o1, none⟩) n c1) (h6 : a.tmps.getD 6 undef = .slice (some ⟨b2, o2, none⟩) n c2) (h7 : a.tmps.getD 7 undef = .int .i64 (i : Int)) (hi : i < n) (es : v1.s = v2.s) (eb : v1.b = v2.b) (ex : v1.x = v2.x) (l1 : b1 < w.heap.size) (a10 : w.cell? ⟨b1, o1 + i * 4, none⟩ = some (.int .u64 (v1.s : Int))) (a11 : w.cell? ⟨b1, o1 + i * 4 + 1, none⟩ = some (.int .u64 (v1.b.n : Int))) (a12 : w.cell? ⟨b1, o1 + i * 4 + 1 + 1, none⟩ = some (.int .i64 v1.b.r)) (a13 : w.cell? ⟨b1, o1 + i * 4 + 3, none⟩ = some (.slice X1 v1.x.length e1)) (g1 : HasA w w.heap.size X1 v1.x) (l2 : b2 < w.heap.size) (a20 : w.cell? ⟨b2, o2 + i * 4, none⟩ = some (.int .u64 (v2.s : Int))) (a21 : w.cell? ⟨b2, o2 + i * 4 + 1, none⟩ = some (.int .u64 (v2.b.n : Int))) (a22 : w.cell? ⟨b2, o2 + i * 4 + 1 + 1, none⟩ = some (.int .i64 v2.b.r)) (a23 : w.cell? ⟨b2, o2 + i * 4 + 3, none⟩ = some (.slice X2 v2.x.length e2)) (g2 : HasA w w.heap.size X2 v2.x) (hQ : ∀ (w' : World), Grew w w' → Q .normal (puts [(46, .slice (some ⟨b1, o1, none⟩) n c1), (47, .int .i64 (i : Int)), (48, .pointer (some ⟨b1, o1 + i * 4, none⟩)), (49, .pointer (some ⟨b1, o1 + i * 4, none⟩)), (50, .int .u64 (v1.s : Int)), (51, .slice (some ⟨b2, o2, none⟩) n c2), (52, .int .i64 (i : Int)), (53, .pointer (some ⟨b2, o2 + i * 4, none⟩)), (54, .pointer (some ⟨b2, o2 + i * 4, none⟩)), (55, .int .u64 (v2.s : Int)), (56, .bool false), (57, .bool false), (58, .slice (some ⟨b1, o1, none⟩) n c1), (59, .int .i64 (i : Int)), (60, .pointer (some ⟨b1, o1 + i * 4, none⟩)), (61, .pointer (some ⟨b1, o1 + i * 4 + 1, none⟩)), (62, .agg #[.int .u64 (v1.b.n : Int), .int .i64 v1.b.r]), (63, .slice (some ⟨b2, o2, none⟩) n c2), (64, .int .i64 (i : Int)), (65, .pointer (some ⟨b2, o2 + i * 4, none⟩)), (66, .pointer (some ⟨b2, o2 + i * 4 + 1, none⟩)), (67, .agg #[.int .u64 (v2.b.n : Int), .int .i64 v2.b.r]), (68, .bool false), (69, .bool false), (70, .bool false), (71, .slice (some ⟨b1, o1, none⟩) n c1), (72, .int .i64 (i : Int)), (73, .pointer (some ⟨b1, o1 + i * 4, none⟩)), (74, .pointer (some ⟨b1, o1 + i * 4 + 3, none⟩)), (75, .slice X1 v1.x.length e1), (76, .string (str v1.x)), (77, .slice (some ⟨b2, o2, none⟩) n c2), (78, .int .i64 (i : Int)), (79, .pointer (some ⟨b2, o2 + i * 4, none⟩)), (80, .pointer (some ⟨b2, o2 + i * 4 + 3, none⟩)), (81, .slice X2 v2.x.length e2), (82, .string (str v2.x)), (83, .bool false), (84, .bool false)] a) w')
    : (Code.region 7 opsAr3.toArray true).wp Tryz.prog Q a w := by
  refine region_v 85 opsAr3 [(5, .slice (some ⟨b1, o1, none⟩) n c1), (6, .slice (some ⟨b2, o2, none⟩) n c2), (7, .int .i64 (i : Int))] [] [.eq (.slice (some ⟨b1, o1, none⟩) n c1), .eq (.int .i64 (i : Int)), .eq (.pointer (some ⟨b1, o1 + i * 4, none⟩)), .eq (.pointer (some ⟨b1, o1 + i * 4, none⟩)), .eq (.int .u64 (v1.s : Int)), .eq (.slice (some ⟨b2, o2, none⟩) n c2), .eq (.int .i64 (i : Int)), .eq (.pointer (some ⟨b2, o2 + i * 4, none⟩)), .eq (.pointer (some ⟨b2, o2 + i * 4, none⟩)), .eq (.int .u64 (v2.s : Int)), .eq (.bool false), .eq (.bool false), .eq (.slice (some ⟨b1, o1, none⟩) n c1), .eq (.int .i64 (i : Int)), .eq (.pointer (some ⟨b1, o1 + i * 4, none⟩)), .eq (.pointer (some ⟨b1, o1 + i * 4 + 1, none⟩)), .eq (.agg #[.int .u64 (v1.b.n : Int), .int .i64 v1.b.r]), .eq (.slice (some ⟨b2, o2, none⟩) n c2), .eq (.int .i64 (i : Int)), .eq (.pointer (some ⟨b2, o2 + i * 4, none⟩)), .eq (.pointer (some ⟨b2, o2 + i * 4 + 1, none⟩)), .eq (.agg #[.int .u64 (v2.b.n : Int), .int .i64 v2.b.r]), .eq (.bool false), .eq (.bool false), .eq (.bool false), .eq (.slice (some ⟨b1, o1, none⟩) n c1), .eq (.int .i64 (i : Int)), .eq (.pointer (some ⟨b1, o1 + i * 4, none⟩)), .eq (.pointer (some ⟨b1, o1 + i * 4 + 3, none⟩)), .eq (.slice X1 v1.x.length e1), .eq (.string (str v1.x)), .eq (.slice (some ⟨b2, o2, none⟩) n c2), .eq (.int .i64 (i : Int)), .eq (.pointer (some ⟨b2, o2 + i * 4, none⟩)), .eq (.pointer (some ⟨b2, o2 + i * 4 + 3, none⟩)), .eq (.slice X2 v2.x.length e2), .eq (.string (str v2.x)), .eq (.bool false), .eq (.bool false)] Grew Grew.refl Grew.trans follows (by kernel_rfl) (by kernel_rfl) hN ⟨h5, h6, h7, trivial⟩ rfl ?_ ?_ ?_ ?_
  · exact trivial
  · intro _ w' hR _
    exact ⟨fun _ => rfl, fun _ => rfl, fun _ => ob_idx (ixVo _ _ _ _ _ _ hi), fun _ => ob_fld (fdVo0 _ _ _), fun _ => ob_load (ldW6 _ _ _ ((Below.cell hR.undraw (p := ⟨b1, o1 + i * 4, none⟩) l1).trans a10)), fun _ => rfl, fun _ => rfl, fun _ => ob_idx (ixVo _ _ _ _ _ _ hi), fun _ => ob_fld (fdVo0 _ _ _), fun _ => ob_load (ldW6 _ _ _ ((Below.cell hR.undraw (p := ⟨b2, o2 + i * 4, none⟩) l2).trans a20)), fun _ => ob_bin (guard_int _ _ _ _ _ _ _ _ _) (neNf _ _ _ es), fun _ => rfl, fun _ => rfl, fun _ => rfl, fun _ => ob_idx (ixVo _ _ _ _ _ _ hi), fun _ => ob_fld (fdVo1 _ _ _), fun _ => ob_load (ldBA _ _ _ _ _ ((Below.cell hR.undraw (p := ⟨b1, o1 + i * 4 + 1, none⟩) l1).trans a11) ((Below.cell hR.undraw (p := ⟨b1, o1 + i * 4 + 1 + 1, none⟩) l1).trans a12)), fun _ => rfl, fun _ => rfl, fun _ => ob_idx (ixVo _ _ _ _ _ _ hi), fun _ => ob_fld (fdVo1 _ _ _), fun _ => ob_load (ldBA _ _ _ _ _ ((Below.cell hR.undraw (p := ⟨b2, o2 + i * 4 + 1, none⟩) l2).trans a21) ((Below.cell hR.undraw (p := ⟨b2, o2 + i * 4 + 1 + 1, none⟩) l2).trans a22)), fun _ => ob_bin (guardBa _ _ _ _ _ _) (neBf _ eb), fun _ => ob_pick rfl rfl, fun _ => rfl, fun _ => rfl, fun _ => rfl, fun _ => ob_idx (ixVo _ _ _ _ _ _ hi), fun _ => ob_fld (fdVo2 _ _ _), fun _ => ob_load (ldWb _ _ _ ((Below.cell hR.undraw (p := ⟨b1, o1 + i * 4 + 3, none⟩) l1).trans a13)), fun _ => ob_cv (run_conv (HasA.below' g1 hR.undraw) _ Tryz.underlying39 Tryz.underlying5 Tryz.underlying9 rfl), fun _ => rfl, fun _ => rfl, fun _ => ob_idx (ixVo _ _ _ _ _ _ hi), fun _ => ob_fld (fdVo2 _ _ _), fun _ => ob_load (ldWb _ _ _ ((Below.cell hR.undraw (p := ⟨b2, o2 + i * 4 + 3, none⟩) l2).trans a23)), fun _ => ob_cv (run_conv (HasA.below' g2 hR.undraw) _ Tryz.underlying39 Tryz.underlying5 Tryz.underlying9 rfl), fun _ => ob_bin (guard_str _ _ _ _ _ _ _) (neSf _ ex), fun _ => ob_pick rfl rfl, trivial⟩
  · exact trivial
  · intro _ w' hR _
    exact hQ  w'  hR.undraw
end Go.Proofs.YtdiihaeelcbjbaaGreatDoor

-- StAl
namespace Go.Proofs.YtdiihaeelcbjbaaGreatDoor
open Go.RowKit

/-- A store that may be asked. -/
structure TellS {P : DiskK} (K : StabK P) (B : Nat) (s : SM) (W : World) : Prop where
  ex : ∃ G R, K.St G W B R s
  ok : s.ok
  len : s.vs.length ≤ 1000
theorem TellS.grew {P : DiskK} {K : StabK P} {B : Nat} {s : SM} {W W' : World} (h : TellS K B s W) (hb : Below W.heap.size W W') : TellS K B s W' := by
  obtain ⟨G, R, h1⟩ := h.ex
  exact ⟨⟨G, R, K.keep h1 (Only.of_grew (F := fun _ => False) hb) (fun _ _ => id)⟩, h.ok, h.len⟩
theorem LiveT.tell {P : DiskK} {K : StabK P} {w W : World} {R B : Nat} {d : DS} {s : SM} {Q : Nat → Prop} (h : LiveT K w R B d s Q W) (hl : s.vs.length ≤ 1000) : TellS K B s W := by
  obtain ⟨F, G, h1, h2, h3, h4⟩ := h.ex
  exact ⟨⟨G, R, h2⟩, h.ok, hl⟩
/-- Votes that lie in a row. -/
def HasV (w : World) (A : Option Addr) (l : List VM) : Prop := l ≠ [] → ∃ b o, A = some ⟨b, o, none⟩ ∧ b < w.heap.size ∧ ∀ j (h : j < l.length), ∃ X e, w.cell? ⟨b, o + j * 4, none⟩ = some (.int .u64 (l[j].s : Int)) ∧ w.cell? ⟨b, o + j * 4 + 1, none⟩ = some (.int .u64 (l[j].b.n : Int)) ∧ w.cell? ⟨b, o + j * 4 + 1 + 1, none⟩ = some (.int .i64 l[j].b.r) ∧ w.cell? ⟨b, o + j * 4 + 3, none⟩ = some (.slice X l[j].x.length e) ∧ HasA w w.heap.size X l[j].x
theorem HasV.below {w W : World} {A : Option Addr} {l : List VM} (h : HasV w A l) (hb : Below w.heap.size w W) : HasV W A l := fun hl => by
  obtain ⟨b, o, e, h1, h2⟩ := h hl
  refine ⟨b, o, e, Nat.lt_of_lt_of_le h1 hb.size, fun j hj => ?_⟩
  obtain ⟨X, c, c0, c1, c2, c3, c4⟩ := h2 j hj
  have up : ∀ (q : Nat) (v : Value), w.cell? ⟨b, q, none⟩ = some v → W.cell? ⟨b, q, none⟩ = some v := fun q v hv => (hb.cell (p := ⟨b, q, none⟩) h1).trans hv
  exact ⟨X, c, up _ _ c0, up _ _ c1, up _ _ c2, up _ _ c3, c4.below' hb⟩
theorem HasVM.weak {base : Nat} {w : World} {A : Option Addr} {l : List VM} (h : HasVM base w A l) : HasV w A l := fun hl => by
  obtain ⟨b, o, e, _, h1, h2⟩ := h hl
  refine ⟨b, o, e, h1, fun j hj => ?_⟩
  obtain ⟨y, L, c0, c1, c2, c3, ho⟩ := h2 j hj
  obtain ⟨X, c, rfl⟩ := OwnB.form ho
  obtain rfl : L = l[j].x.length := OwnB.len ho
  exact ⟨X, c, c0, c1, c2, c3, OwnB.has ho⟩
section
variable {P : DiskK} {K : StabK P} {B : Nat} {s : SM} {W : World}
theorem TellS.votes (h : TellS K B s W) : Calls Tryz.prog 27 #[.pointer (some ⟨B, 0, none⟩), .int .u64 0] W fun e W' => Below W.heap.size W W' ∧ ∃ A c, e = .returned (.slice A s.vs.length c) ∧ HasVM W.heap.size W' A s.vs := by
  obtain ⟨G, R, h1⟩ := h.ex
  have e : (s.vs.filter fun v => decide (0 ≤ v.s)) = s.vs := List.filter_eq_self.2 fun v _ => decide_eq_true (Nat.zero_le _)
  have hc := K.votes 0 h1 h.ok h.len (by decide)
  rw [e] at hc
  exact hc
theorem TellS.promise (h : TellS K B s W) : Calls Tryz.prog 25 #[.pointer (some ⟨B, 0, none⟩)] W fun e W' => e = .returned (.agg #[.int .u64 (s.p.n : Int), .int .i64 s.p.r]) ∧ Grew W W' := by
  obtain ⟨G, R, h1⟩ := h.ex
  exact K.promise h1 h.ok
theorem TellS.base (h : TellS K B s W) : Calls Tryz.prog 26 #[.pointer (some ⟨B, 0, none⟩)] W fun e W' => e = .returned (.int .u64 (s.base : Int)) ∧ Grew W W' := by
  obtain ⟨G, R, h1⟩ := h.ex
  exact K.base h1 h.ok
theorem TellS.snap (h : TellS K B s W) : Calls Tryz.prog 30 #[.pointer (some ⟨B, 0, none⟩)] W fun e W' => ∃ v, e = .returned v ∧ IsB W' v s.snap ∧ Grew W W' := by
  obtain ⟨G, R, h1⟩ := h.ex
  exact (K.snap h1 h.ok).mono fun e W' ⟨y, L, h1, h2, h3⟩ => ⟨y, h1, OwnB.isB h2, h3⟩
end
set_option maxRecDepth 100000 in
set_option maxHeartbeats 4000000 in
theorem alike_any {P : DiskK} (K : StabK P) (B1 B2 : Nat) (s1 s2 : SM) (w : World) (h1 : TellS K B1 s1 w) (h2 : TellS K B2 s2 w) :
    Calls Tryz.prog 24 #[.pointer (some ⟨B1, 0, none⟩), .pointer (some ⟨B2, 0, none⟩)] w fun e W' => ∃ b : Bool, e = .returned (.bool b) ∧ (b = true ↔ s1 = s2) ∧ Below w.heap.size w W' := by
  have T1 := Lib.hid h1
  have T2 := Lib.hid h2
  clear h1 h2
  go_enter Tryz.func24, Tryz.ntmps24
  go_wp2_with fail
  refine T1.out.votes.mono ?_
  rintro e W1 ⟨b1, A1, c1, rfl, v1⟩
  have U1 := Lib.hid (T1.out.grew b1)
  have U2 := Lib.hid (T2.out.grew b1)
  have HB1 := Lib.hid b1
  have V1 := Lib.hid v1.weak
  clear b1 v1 T1 T2
  go_wp2_with fail
  refine U2.out.votes.mono ?_
  rintro e W2 ⟨b2, A2, c2, rfl, v2⟩
  have T1 := Lib.hid (U1.out.grew b2)
  have T2 := Lib.hid (U2.out.grew b2)
  have HB := Lib.hid (HB1.out.trans (Below.mono b2 HB1.out.size))
  have V := Lib.hid (And.intro (V1.out.below b2) v2.weak)
  have HI1 := Lib.hid (show (s1.vs.length : Int) ≤ 1000 by have := U1.out.len; omega)
  clear b2 v2 U1 U2 HB1 V1
  go_upto_region 2 with (fail)
  by_cases ep : s1.p = s2.p
  case neg =>
    have ne : s1.p ≠ s2.p := ep
    clear ep
    refine alike_r0 B1 B2 s1.p s2.p s1.base s2.base s1.snap s2.snap A1 A2 s1.vs.length s2.vs.length c1 c2 _ W2 _ rfl rfl rfl rfl rfl  ne (fun w' hg => (T1.out.grew hg).promise) (fun w' hg => (T1.out.grew hg).base) (fun w' hg => (T1.out.grew hg).snap) (fun w' hg => (T2.out.grew hg).promise) (fun w' hg => (T2.out.grew hg).base) (fun w' hg => (T2.out.grew hg).snap) ?_
    intro W3 hg
    have H3 := Lib.hid (HB.out.trans (Below.mono hg HB.out.size))
    have NE := Lib.hid ne
    simp only [puts, List.foldl_cons, List.foldl_nil, Act.put, List.setIfInBounds_toArray, List.set_cons_succ, List.set_cons_zero]
    clear hg ne
    go_wp2
    go_ret
    exact ⟨false, rfl, ⟨(fun h => by cases h), fun h => absurd (by rw [h]) NE.out⟩, H3.out⟩
  by_cases em : s1.base = s2.base
  case neg =>
    have ne : s1.base ≠ s2.base := em
    clear em
    refine alike_r1 B1 B2 s1.p s2.p s1.base s2.base s1.snap s2.snap A1 A2 s1.vs.length s2.vs.length c1 c2 _ W2 _ rfl rfl rfl rfl rfl ep ne (fun w' hg => (T1.out.grew hg).promise) (fun w' hg => (T1.out.grew hg).base) (fun w' hg => (T1.out.grew hg).snap) (fun w' hg => (T2.out.grew hg).promise) (fun w' hg => (T2.out.grew hg).base) (fun w' hg => (T2.out.grew hg).snap) ?_
    intro W3 hg
    have H3 := Lib.hid (HB.out.trans (Below.mono hg HB.out.size))
    have NE := Lib.hid ne
    simp only [puts, List.foldl_cons, List.foldl_nil, Act.put, List.setIfInBounds_toArray, List.set_cons_succ, List.set_cons_zero]
    clear hg ne
    go_wp2
    go_ret
    exact ⟨false, rfl, ⟨(fun h => by cases h), fun h => absurd (by rw [h]) NE.out⟩, H3.out⟩
  by_cases ex : s1.snap = s2.snap
  case neg =>
    have ne : s1.snap ≠ s2.snap := ex
    clear ex
    refine alike_r2 B1 B2 s1.p s2.p s1.base s2.base s1.snap s2.snap A1 A2 s1.vs.length s2.vs.length c1 c2 _ W2 _ rfl rfl rfl rfl rfl ep em ne (fun w' hg => (T1.out.grew hg).promise) (fun w' hg => (T1.out.grew hg).base) (fun w' hg => (T1.out.grew hg).snap) (fun w' hg => (T2.out.grew hg).promise) (fun w' hg => (T2.out.grew hg).base) (fun w' hg => (T2.out.grew hg).snap) ?_
    rintro v26 v29 W3 - - hg
    have H3 := Lib.hid (HB.out.trans (Below.mono hg HB.out.size))
    have NE := Lib.hid ne
    simp only [puts, List.foldl_cons, List.foldl_nil, Act.put, List.setIfInBounds_toArray, List.set_cons_succ, List.set_cons_zero]
    clear hg ne
    go_wp2
    go_ret
    exact ⟨false, rfl, ⟨(fun h => by cases h), fun h => absurd (by rw [h]) NE.out⟩, H3.out⟩
  by_cases en : s1.vs.length = s2.vs.length
  case neg =>
    have ne : s1.vs.length ≠ s2.vs.length := en
    clear en
    refine alike_r3 B1 B2 s1.p s2.p s1.base s2.base s1.snap s2.snap A1 A2 s1.vs.length s2.vs.length c1 c2 _ W2 _ rfl rfl rfl rfl rfl ep em ex ne (fun w' hg => (T1.out.grew hg).promise) (fun w' hg => (T1.out.grew hg).base) (fun w' hg => (T1.out.grew hg).snap) (fun w' hg => (T2.out.grew hg).promise) (fun w' hg => (T2.out.grew hg).base) (fun w' hg => (T2.out.grew hg).snap) ?_
    rintro v26 v29 W3 - - hg
    have H3 := Lib.hid (HB.out.trans (Below.mono hg HB.out.size))
    have NE := Lib.hid ne
    simp only [puts, List.foldl_cons, List.foldl_nil, Act.put, List.setIfInBounds_toArray, List.set_cons_succ, List.set_cons_zero]
    clear hg ne
    go_wp2
    go_ret
    exact ⟨false, rfl, ⟨(fun h => by cases h), fun h => absurd (by rw [h]) NE.out⟩, H3.out⟩
  refine alike_r4 B1 B2 s1.p s2.p s1.base s2.base s1.snap s2.snap A1 A2 s1.vs.length s2.vs.length c1 c2 _ W2 _ rfl rfl rfl rfl rfl ep em ex en (fun w' hg => (T1.out.grew hg).promise) (fun w' hg => (T1.out.grew hg).base) (fun w' hg => (T1.out.grew hg).snap) (fun w' hg => (T2.out.grew hg).promise) (fun w' hg => (T2.out.grew hg).base) (fun w' hg => (T2.out.grew hg).snap) ?_
  rintro v26 v29 W3 - - hg
  obtain ⟨n, hn⟩ : ∃ n, n = s1.vs.length := ⟨_, rfl⟩
  have HE := Lib.hid (And.intro (And.intro ep (And.intro em ex)) (And.intro hn (hn.trans en)))
  have hni : (n : Int) ≤ 1000 := by have := HI1.out; omega
  have H3 := Lib.hid (show Below W2.heap.size W2 W3 from hg)
  simp only [puts, List.foldl_cons, List.foldl_nil, Act.put, List.setIfInBounds_toArray, List.set_cons_succ, List.set_cons_zero]
  rw [← en, ← hn]
  clear hg ep em ex en hn T1 T2
  go_wp2
  go_loopw [7] (fun v wr => ∃ i : Nat, i ≤ n ∧ v = .int .i64 (i : Int) ∧ Hid (Below W2.heap.size W2 wr ∧ ∀ j (h1 : j < s1.vs.length) (h2 : j < s2.vs.length), j < i → s1.vs[j] = s2.vs[j])) (fun v _ => n - (intOf v).toNat)
  case atStart => exact ⟨0, Nat.zero_le _, rfl, Lib.hid ⟨H3.out, fun j _ _ h => absurd h (Nat.not_lt_zero _)⟩⟩
  case round =>
    obtain ⟨i, hi, rfl, HI⟩ := hrel
    by_cases hlt : i < n
    · have hii : (i : Int) < n := by omega
      have hi1 : i < s1.vs.length := by have := HE.out.2.1; omega
      have hi2 : i < s2.vs.length := by have := HE.out.2.2; omega
      obtain ⟨ba, oa, e1, la, fa⟩ := (V.out.1.below HI.out.1) (by intro e; rw [e] at hi1; cases hi1)
      subst e1
      obtain ⟨bb, ob, e2, lb, fb⟩ := (V.out.2.below HI.out.1) (by intro e; rw [e] at hi2; cases hi2)
      subst e2
      obtain ⟨X1, d1, a10, a11, a12, a13, g1⟩ := fa i hi1
      obtain ⟨X2, d2, a20, a21, a22, a23, g2⟩ := fb i hi2
      clear fa fb
      go_upto_region 7 with (fail)
      by_cases es : s1.vs[i].s = s2.vs[i].s
      case neg =>
        have ne : s1.vs[i].s ≠ s2.vs[i].s := es
        clear es
        refine alike_v0 i n ba oa c1 bb ob c2 s1.vs[i] s2.vs[i] X1 X2 d1 d2 _ wr _ rfl rfl rfl rfl hlt  ne la a10 a11 a12 a13 g1 lb a20 a21 a22 a23 g2 ?_
        intro W4 hg
        have H4 := Lib.hid (HB.out.trans (Below.mono (HI.out.1.trans (Below.mono hg HI.out.1.size)) HB.out.size))
        have NE := Lib.hid ne
        simp only [puts, List.foldl_cons, List.foldl_nil, Act.put, List.setIfInBounds_toArray, List.set_cons_succ, List.set_cons_zero]
        clear hg ne a10 a11 a12 a13 g1 a20 a21 a22 a23 g2 la lb 
        go_wp2
        go_ret
        exact ⟨false, rfl, ⟨(fun h => by cases h), fun h => absurd (by subst h; rfl) NE.out⟩, H4.out⟩
      by_cases eb : s1.vs[i].b = s2.vs[i].b
      case neg =>
        have ne : s1.vs[i].b ≠ s2.vs[i].b := eb
        clear eb
        refine alike_v1 i n ba oa c1 bb ob c2 s1.vs[i] s2.vs[i] X1 X2 d1 d2 _ wr _ rfl rfl rfl rfl hlt es ne la a10 a11 a12 a13 g1 lb a20 a21 a22 a23 g2 ?_
        intro W4 hg
        have H4 := Lib.hid (HB.out.trans (Below.mono (HI.out.1.trans (Below.mono hg HI.out.1.size)) HB.out.size))
        have NE := Lib.hid ne
        simp only [puts, List.foldl_cons, List.foldl_nil, Act.put, List.setIfInBounds_toArray, List.set_cons_succ, List.set_cons_zero]
        clear hg ne a10 a11 a12 a13 g1 a20 a21 a22 a23 g2 la lb es
        go_wp2
        go_ret
        exact ⟨false, rfl, ⟨(fun h => by cases h), fun h => absurd (by subst h; rfl) NE.out⟩, H4.out⟩
      by_cases ex : s1.vs[i].x = s2.vs[i].x
      case neg =>
        have ne : s1.vs[i].x ≠ s2.vs[i].x := ex
        clear ex
        refine alike_v2 i n ba oa c1 bb ob c2 s1.vs[i] s2.vs[i] X1 X2 d1 d2 _ wr _ rfl rfl rfl rfl hlt es eb ne la a10 a11 a12 a13 g1 lb a20 a21 a22 a23 g2 ?_
        intro W4 hg
        have H4 := Lib.hid (HB.out.trans (Below.mono (HI.out.1.trans (Below.mono hg HI.out.1.size)) HB.out.size))
        have NE := Lib.hid ne
        simp only [puts, List.foldl_cons, List.foldl_nil, Act.put, List.setIfInBounds_toArray, List.set_cons_succ, List.set_cons_zero]
        clear hg ne a10 a11 a12 a13 g1 a20 a21 a22 a23 g2 la lb es eb
        go_wp2
        go_ret
        exact ⟨false, rfl, ⟨(fun h => by cases h), fun h => absurd (by subst h; rfl) NE.out⟩, H4.out⟩
      refine alike_v3 i n ba oa c1 bb ob c2 s1.vs[i] s2.vs[i] X1 X2 d1 d2 _ wr _ rfl rfl rfl rfl hlt es eb ex la a10 a11 a12 a13 g1 lb a20 a21 a22 a23 g2 ?_
      intro W4 hg
      have HJ := Lib.hid (show Below W2.heap.size W2 W4 ∧ ∀ j (h1 : j < s1.vs.length) (h2 : j < s2.vs.length), j < i + 1 → s1.vs[j] = s2.vs[j] from ⟨HI.out.1.trans (Below.mono hg HI.out.1.size), fun j h1 h2 hj => by
        by_cases e : j = i
        · subst e
          obtain ⟨q1, hq1⟩ : ∃ q, q = s1.vs[j] := ⟨_, rfl⟩
          obtain ⟨q2, hq2⟩ : ∃ q, q = s2.vs[j] := ⟨_, rfl⟩
          rw [← hq1, ← hq2] at es eb ex ⊢
          obtain ⟨y1, y2, y3⟩ := q1
          obtain ⟨z1, z2, z3⟩ := q2
          simp only at es eb ex
          rw [es, eb, ex]
        · exact HI.out.2 j h1 h2 (by omega)⟩)
      simp only [puts, List.foldl_cons, List.foldl_nil, Act.put, List.setIfInBounds_toArray, List.set_cons_succ, List.set_cons_zero]
      clear hg a10 a11 a12 a13 g1 a20 a21 a22 a23 g2 la lb es eb ex hlt hi
      go_wp2
      exact ⟨⟨i + 1, by omega, rfl, HJ⟩, by simp only [intOf]; omega⟩
    · obtain rfl : i = n := by omega
      have hii : ¬ (i : Int) < (i : Int) := by omega
      clear hlt hi
      go_wp2
      go_ret
      have hv : s1.vs = s2.vs := List.ext_getElem (by rw [← HE.out.2.1, ← HE.out.2.2]) fun j h1 h2 => HI.out.2 j h1 h2 (by rw [HE.out.2.1]; exact h1)
      obtain ⟨ep, em, ex⟩ := HE.out.1
      have heq : s1 = s2 := by
        clear HI HB V HI1 H3 HE
        obtain ⟨y1, y2, y3, y4⟩ := s1
        obtain ⟨z1, z2, z3, z4⟩ := s2
        simp only at ep em ex hv
        rw [ep, em, ex, hv]
      exact .inr ⟨rfl, heq, HB.out.trans (Below.mono HI.out.1 HB.out.size)⟩
end Go.Proofs.YtdiihaeelcbjbaaGreatDoor
