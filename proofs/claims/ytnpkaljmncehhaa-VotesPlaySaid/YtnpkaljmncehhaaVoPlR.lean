/- VotesPlay: the statements that draw their order. -/
import Derived.Test.YtnpkaljmncehhaaVoRt
import Derived.Test.YtnpkaljmncehhaaVoOrR
namespace Go.Proofs.Ytnpkaljmncehhaa
open Go.RowKit

theorem fdAc (w : World) (b o i : Nat) (hi : i = 0 ∨ i = 1 ∨ i = 2 ∨ i = 3) : (Instr.fieldAt 33 (.pointer (some ⟨b, o, none⟩)) i).run Try.prog w = .ok (.pointer (some ⟨b, o + i, none⟩)) w := by
  rcases hi with rfl | rfl | rfl | rfl <;> simp [go_sem]
theorem ldU8 (w : World) (p : Addr) (v : Value) (h : w.cell? p = some v) : (Instr.loadAt 5 (.pointer (some p))).run Try.prog w = .ok v w := by
  simp [go_sem, h]
theorem ldI (w : World) (p : Addr) (v : Value) (h : w.cell? p = some v) : (Instr.loadAt 3 (.pointer (some p))).run Try.prog w = .ok v w := by
  simp [go_sem, h]
theorem ldSS (w : World) (p : Addr) (v : Value) (h : w.cell? p = some v) : (Instr.loadAt 36 (.pointer (some p))).run Try.prog w = .ok v w := by
  simp [go_sem, h]
theorem fdRf (w : World) (b o i : Nat) (hi : i = 0 ∨ i = 1) : (Instr.fieldAt 38 (.pointer (some ⟨b, o, none⟩)) i).run Try.prog w = .ok (.pointer (some ⟨b, o + i, none⟩)) w := by
  rcases hi with rfl | rfl <;> simp [go_sem]
theorem fdRs (w : World) (b o i : Nat) (hi : i = 0 ∨ i = 1) : (Instr.fieldAt 68 (.pointer (some ⟨b, o, none⟩)) i).run Try.prog w = .ok (.pointer (some ⟨b, o + i, none⟩)) w := by
  rcases hi with rfl | rfl <;> simp [go_sem]
theorem ixRs (w : World) (b o L c q : Nat) (h : q < L) : (Instr.indexAt 65 (.slice (some ⟨b, o, none⟩) L c) (.int .i64 (q : Int))).run Try.prog w = .ok (.pointer (some ⟨b, o + q * 2, none⟩)) w := by
  have h1 : (0 : Int) ≤ q := by omega
  have h2 : (q : Int) < L := by omega
  simp [go_sem, h1, h2]
theorem ixAc (w : World) (b o L c q : Nat) (h : q < L) : (Instr.indexAt 22 (.slice (some ⟨b, o, none⟩) L c) (.int .i64 (q : Int))).run Try.prog w = .ok (.pointer (some ⟨b, o + q * 4, none⟩)) w := by
  have h1 : (0 : Int) ≤ q := by omega
  have h2 : (q : Int) < L := by omega
  simp [go_sem, h1, h2]
theorem cv8i (w : World) (x : Nat) (hx : x < 256) : (convert 5 3 (.int .u8 (x : Int))).run Try.prog w = .ok (.int .i64 (x : Int)) w := by
  simp [go_sem, IntKind.wrap_i64]
  omega
theorem cviu (w : World) (x : Nat) (hx : x < 1000000) : (convert 3 35 (.int .i64 (x : Int))).run Try.prog w = .ok (.int .u64 (x : Int)) w := by
  simp [go_sem, IntKind.wrap_u64]
  omega
theorem remI (t : TypeId) (w : World) (a b : Nat) (h : 0 < b) (ha : a < 1000000) : (binOp .rem t (.int .i64 (a : Int)) (.int .i64 (b : Int))).run Try.prog w = .ok (.int .i64 ((a % b : Nat) : Int)) w := by
  obtain ⟨m, hm⟩ : ∃ m, m = a % b := ⟨_, rfl⟩
  have h0 : ¬ (b : Int) = 0 := by omega
  have h2 : m < 1000000 := by rw [hm]; have := Nat.mod_le a b; omega
  have h3 : (a : Int) % b = (m : Int) := by rw [hm]; omega
  have h1 : (a : Int).tmod b = (m : Int) := by rw [Int.tmod_eq_emod_of_nonneg (by omega)]; exact h3
  rw [← hm]
  clear hm
  simp [go_sem, h1]
  omega
theorem rem200 (t : TypeId) (w : World) (a : Nat) (ha : a < 256) : (binOp .rem t (.int .i64 (a : Int)) (.int .i64 200)).run Try.prog w = .ok (.int .i64 ((a % 200 : Nat) : Int)) w := remI t w a 200 (by decide) (by omega)
theorem neIF15 (t : TypeId) (k : IntKind) (w : World) (x : Int) : (binOp .neq t (.int k x) (.int k x)).run Try.prog w = .ok (.bool false) w := by simp [go_sem]
theorem neBF15 (w : World) (x : Bool) : (binOp .neq 4 (.bool x) (.bool x)).run Try.prog w = .ok (.bool false) w := by cases x <;> simp [go_sem]
theorem run_max15 (ts : Array TypeId) (t : TypeId) (w : World) (a b : Nat) : (Builtin.max_ ts t #[.int .i64 (a : Int), .int .i64 (b : Int)]).run Try.prog w = .ok (.int .i64 ((max a b : Nat) : Int)) w := by
  rw [show ((max a b : Nat) : Int) = if (b : Int) > a then (b : Int) else a by split <;> omega]
  simp [Builtin.max_, Builtin.max2]
theorem run_min15 (ts : Array TypeId) (t : TypeId) (w : World) (a b : Nat) : (Builtin.min_ ts t #[.int .i64 (a : Int), .int .i64 (b : Int)]).run Try.prog w = .ok (.int .i64 ((min a b : Nat) : Int)) w := by
  rw [show ((min a b : Nat) : Int) = if (b : Int) < a then (b : Int) else a by split <;> omega]
  simp [Builtin.min_, Builtin.min2]
theorem eqg15 (op : BinOp) (t : TypeId) (w : World) (x y : Operand) (k : IntKind) (s u : Int) : (eqGuard op t x y (.int k s) (.int k u)).run Try.prog w = .ok () w := guard_int op t w x y k k s u
noncomputable def opsNe : List Oper := opsOf Try.f9 1
set_option maxRecDepth 100000 in
set_option maxHeartbeats 4000000 in
theorem near_r (px x y : Nat)  (a : Act) (w : World) (Q : Exit → Act → World → Prop) (hN : a.tmps.size = 20) (h1 : a.tmps.getD 1 undef = .pointer (some ⟨px, 0, none⟩)) (hpl : px < w.heap.size) (hx : x < 256) (hy : y < 256) (c1 : w.cell? ⟨px, 0 + 1, none⟩ = some (.int .u8 (x : Int))) (c2 : w.cell? ⟨px, 0 + 2, none⟩ = some (.int .u8 (y : Int))) (hQ : ∀ (w' : World), Grew w w' → Q .normal (puts [(6, .pointer (some ⟨px, 0 + 1, none⟩)), (7, .int .u8 (x : Int)), (8, .int .i64 (x : Int)), (9, .int .i64 ((x % 200 : Nat) : Int)), (10, .pointer (some ⟨px, 0 + 2, none⟩)), (11, .int .u8 (y : Int)), (12, .int .i64 (y : Int)), (13, .int .i64 ((y % 200 : Nat) : Int)), (4, .int .i64 ((x % 200 : Nat) : Int)), (5, .int .i64 ((y % 200 : Nat) : Int))] a) w')
    : (Code.region 1 opsNe.toArray true).wp Try.prog Q a w := by
  refine region_v 20 opsNe [(1, .pointer (some ⟨px, 0, none⟩))] [] [.eq (.pointer (some ⟨px, 0 + 1, none⟩)), .eq (.int .u8 (x : Int)), .eq (.int .i64 (x : Int)), .eq (.int .i64 ((x % 200 : Nat) : Int)), .eq (.pointer (some ⟨px, 0 + 2, none⟩)), .eq (.int .u8 (y : Int)), .eq (.int .i64 (y : Int)), .eq (.int .i64 ((y % 200 : Nat) : Int)), .eq (.int .i64 ((x % 200 : Nat) : Int)), .eq (.int .i64 ((y % 200 : Nat) : Int))] Grew Grew.refl Grew.trans follows (by kernel_rfl) (by kernel_rfl) hN ⟨h1, trivial⟩ rfl trivial ?_ ?_ ?_
  · intro _ w' hR _
    exact ⟨fun _ => ob_fld (fdAc _ _ _ _ (.inr (.inl rfl))), fun _ => ob_load (ldU8 _ _ _ ((Below.cell hR.undraw (p := ⟨px, 0 + 1, none⟩) hpl).trans c1)), fun _ => ob_cv (cv8i _ _ hx), fun _ => ob_bin (guard_int _ _ _ _ _ _ _ _ _) (rem200 _ _ _ hx), fun _ => ob_fld (fdAc _ _ _ _ (.inr (.inr (.inl rfl)))), fun _ => ob_load (ldU8 _ _ _ ((Below.cell hR.undraw (p := ⟨px, 0 + 2, none⟩) hpl).trans c2)), fun _ => ob_cv (cv8i _ _ hy), fun _ => ob_bin (guard_int _ _ _ _ _ _ _ _ _) (rem200 _ _ _ hy), fun _ => rfl, fun _ => rfl, trivial⟩
  · exact trivial
  · intro _ w' hR _
    exact hQ  w'  hR.undraw
noncomputable def opsSa : List Oper := opsOf Try.f14 10
set_option maxRecDepth 100000 in
set_option maxHeartbeats 4000000 in
theorem same_cmp (ab ao ca bb bo cb L i fa fb : Nat)  (a : Act) (w : World) (Q : Exit → Act → World → Prop) (hN : a.tmps.size = 114) (h6 : a.tmps.getD 6 undef = .slice (some ⟨ab, ao, none⟩) L ca) (h7 : a.tmps.getD 7 undef = .slice (some ⟨bb, bo, none⟩) L cb) (h8 : a.tmps.getD 8 undef = .int .i64 (i : Int)) (habl : ab < w.heap.size) (hbbl : bb < w.heap.size) (hi : i < L) (hfa : fa < 1000) (hfb : fb < 1000) (x0 : w.cell? ⟨ab, ao + i * 2 + 0, none⟩ = some (.int .u64 (fa : Int))) (x1 : w.cell? ⟨ab, ao + i * 2 + 1, none⟩ = some (.int .u64 (fb : Int))) (y0 : w.cell? ⟨bb, bo + i * 2 + 0, none⟩ = some (.int .i64 (fa : Int))) (y1 : w.cell? ⟨bb, bo + i * 2 + 1, none⟩ = some (.int .i64 (fb : Int))) (hQ : ∀ (w' : World), Grew w w' → Q .normal (puts [(36, .slice (some ⟨ab, ao, none⟩) L ca), (37, .int .i64 (i : Int)), (38, .pointer (some ⟨ab, ao + i * 2, none⟩)), (39, .pointer (some ⟨ab, ao + i * 2 + 0, none⟩)), (40, .int .u64 (fa : Int)), (41, .slice (some ⟨bb, bo, none⟩) L cb), (42, .int .i64 (i : Int)), (43, .pointer (some ⟨bb, bo + i * 2, none⟩)), (44, .pointer (some ⟨bb, bo + i * 2 + 0, none⟩)), (45, .int .i64 (fa : Int)), (46, .int .u64 (fa : Int)), (47, .bool false), (48, .bool false), (49, .slice (some ⟨ab, ao, none⟩) L ca), (50, .int .i64 (i : Int)), (51, .pointer (some ⟨ab, ao + i * 2, none⟩)), (52, .pointer (some ⟨ab, ao + i * 2 + 1, none⟩)), (53, .int .u64 (fb : Int)), (54, .slice (some ⟨bb, bo, none⟩) L cb), (55, .int .i64 (i : Int)), (56, .pointer (some ⟨bb, bo + i * 2, none⟩)), (57, .pointer (some ⟨bb, bo + i * 2 + 1, none⟩)), (58, .int .i64 (fb : Int)), (59, .int .u64 (fb : Int)), (60, .bool false), (61, .bool false)] a) w')
    : (Code.region 10 opsSa.toArray true).wp Try.prog Q a w := by
  refine region_v 114 opsSa [(6, .slice (some ⟨ab, ao, none⟩) L ca), (7, .slice (some ⟨bb, bo, none⟩) L cb), (8, .int .i64 (i : Int))] [] [.eq (.slice (some ⟨ab, ao, none⟩) L ca), .eq (.int .i64 (i : Int)), .eq (.pointer (some ⟨ab, ao + i * 2, none⟩)), .eq (.pointer (some ⟨ab, ao + i * 2 + 0, none⟩)), .eq (.int .u64 (fa : Int)), .eq (.slice (some ⟨bb, bo, none⟩) L cb), .eq (.int .i64 (i : Int)), .eq (.pointer (some ⟨bb, bo + i * 2, none⟩)), .eq (.pointer (some ⟨bb, bo + i * 2 + 0, none⟩)), .eq (.int .i64 (fa : Int)), .eq (.int .u64 (fa : Int)), .eq (.bool false), .eq (.bool false), .eq (.slice (some ⟨ab, ao, none⟩) L ca), .eq (.int .i64 (i : Int)), .eq (.pointer (some ⟨ab, ao + i * 2, none⟩)), .eq (.pointer (some ⟨ab, ao + i * 2 + 1, none⟩)), .eq (.int .u64 (fb : Int)), .eq (.slice (some ⟨bb, bo, none⟩) L cb), .eq (.int .i64 (i : Int)), .eq (.pointer (some ⟨bb, bo + i * 2, none⟩)), .eq (.pointer (some ⟨bb, bo + i * 2 + 1, none⟩)), .eq (.int .i64 (fb : Int)), .eq (.int .u64 (fb : Int)), .eq (.bool false), .eq (.bool false)] Grew Grew.refl Grew.trans follows (by kernel_rfl) (by kernel_rfl) hN ⟨h6, h7, h8, trivial⟩ rfl trivial ?_ ?_ ?_
  · intro _ w' hR _
    exact ⟨fun _ => rfl, fun _ => rfl, fun _ => ob_idx (ixSp _ _ _ _ _ _ hi), fun _ => ob_fld (fdSp _ _ _ _ (.inl rfl)), fun _ => ob_load (ldU6 _ _ _ ((Below.cell hR.undraw (p := ⟨ab, ao + i * 2 + 0, none⟩) habl).trans x0)), fun _ => rfl, fun _ => rfl, fun _ => ob_idx (ixRs _ _ _ _ _ _ hi), fun _ => ob_fld (fdRs _ _ _ _ (.inl rfl)), fun _ => ob_load (ldI _ _ _ ((Below.cell hR.undraw (p := ⟨bb, bo + i * 2 + 0, none⟩) hbbl).trans y0)), fun _ => ob_cv (cviu _ _ (by omega)), fun _ => ob_bin (guard_int _ _ _ _ _ _ _ _ _) (neIF15 _ _ _ _), fun _ => rfl, fun _ => rfl, fun _ => rfl, fun _ => ob_idx (ixSp _ _ _ _ _ _ hi), fun _ => ob_fld (fdSp _ _ _ _ (.inr rfl)), fun _ => ob_load (ldU6 _ _ _ ((Below.cell hR.undraw (p := ⟨ab, ao + i * 2 + 1, none⟩) habl).trans x1)), fun _ => rfl, fun _ => rfl, fun _ => ob_idx (ixRs _ _ _ _ _ _ hi), fun _ => ob_fld (fdRs _ _ _ _ (.inr rfl)), fun _ => ob_load (ldI _ _ _ ((Below.cell hR.undraw (p := ⟨bb, bo + i * 2 + 1, none⟩) hbbl).trans y1)), fun _ => ob_cv (cviu _ _ (by omega)), fun _ => ob_bin (guard_int _ _ _ _ _ _ _ _ _) (neIF15 _ _ _ _), fun _ => ob_pick rfl rfl, trivial⟩
  · exact trivial
  · intro _ w' hR _
    exact hQ  w'  hR.undraw
noncomputable def opsSb : List Oper := opsOf Try.f14 15
set_option maxRecDepth 100000 in
set_option maxHeartbeats 4000000 in
theorem same_tell (R q g cap n F s m : Nat) (ch hs : Bool)  (a : Act) (w : World) (Q : Exit → Act → World → Prop) (hN : a.tmps.size = 114) (h0 : a.tmps.getD 0 undef = .pointer (some ⟨R, 0, none⟩)) (h1 : a.tmps.getD 1 undef = .pointer (some ⟨q, 0, none⟩)) (h9 : a.tmps.getD 9 undef = .int .i64 (s : Int)) (kq : w.heap[q]? = some (.cells #[.slice (some ⟨g, 0, none⟩) n cap, .int .i64 (F : Int)] 38 (0, 0))) (hn : 0 < n) (hs2 : s < 1000) (hm : m < 1000) (hC : ∀ w', Grew w w' → Calls Try.prog 15 #[.pointer (some ⟨R, 0, none⟩), .int .u64 (s : Int)] w' fun e W' => e = .returned (.bool ch) ∧ Below w'.heap.size w' W') (hCR : ∀ w', Grew w w' → Calls Try.prog 24 #[.pointer (some ⟨q, 0, none⟩), .int .i64 (s : Int)] w' fun e W' => e = .returned (.bool ch) ∧ Below w'.heap.size w' W') (hH : ∀ w', Grew w w' → Calls Try.prog 19 #[.pointer (some ⟨R, 0, none⟩), .int .i64 ((s % n : Nat) : Int), .int .u64 (s : Int)] w' fun e W' => e = .returned (.bool hs) ∧ Below w'.heap.size w' W') (hHR : ∀ w', Grew w w' → Calls Try.prog 25 #[.pointer (some ⟨q, 0, none⟩), .int .i64 ((s % n : Nat) : Int), .int .i64 (s : Int)] w' fun e W' => e = .returned (.bool hs) ∧ Below w'.heap.size w' W') (hU : ∀ w', Grew w w' → Calls Try.prog 18 #[.pointer (some ⟨R, 0, none⟩), .int .u64 (s : Int)] w' fun e W' => e = .returned (.int .u64 (m : Int)) ∧ Below w'.heap.size w' W') (hUR : ∀ w', Grew w w' → Calls Try.prog 26 #[.pointer (some ⟨q, 0, none⟩), .int .i64 ((max s F : Nat) : Int)] w' fun e W' => e = .returned (.int .i64 (m : Int)) ∧ Below w'.heap.size w' W') (hQ : ∀ (w' : World), Grew w w' → Q .normal (puts [(66, .pointer (some ⟨R, 0, none⟩)), (67, .int .i64 (s : Int)), (68, .int .u64 (s : Int)), (69, .bool ch), (70, .pointer (some ⟨q, 0, none⟩)), (71, .int .i64 (s : Int)), (72, .bool ch), (73, .bool false), (74, .bool false), (75, .pointer (some ⟨R, 0, none⟩)), (76, .int .i64 (s : Int)), (77, .pointer (some ⟨q, 0, none⟩)), (78, .pointer (some ⟨q, 0, none⟩)), (79, .pointer (some ⟨q, 0 + 0, none⟩)), (80, .slice (some ⟨g, 0, none⟩) n cap), (81, .int .i64 (n : Int)), (82, .int .i64 ((s % n : Nat) : Int)), (83, .int .i64 (s : Int)), (84, .int .u64 (s : Int)), (85, .bool hs), (86, .pointer (some ⟨q, 0, none⟩)), (87, .int .i64 (s : Int)), (88, .pointer (some ⟨q, 0, none⟩)), (89, .pointer (some ⟨q, 0, none⟩)), (90, .pointer (some ⟨q, 0 + 0, none⟩)), (91, .slice (some ⟨g, 0, none⟩) n cap), (92, .int .i64 (n : Int)), (93, .int .i64 ((s % n : Nat) : Int)), (94, .int .i64 (s : Int)), (95, .bool hs), (96, .bool false), (97, .bool false), (98, .bool false), (99, .pointer (some ⟨R, 0, none⟩)), (100, .int .i64 (s : Int)), (101, .int .u64 (s : Int)), (102, .int .u64 (m : Int)), (103, .pointer (some ⟨q, 0, none⟩)), (104, .int .i64 (s : Int)), (105, .pointer (some ⟨q, 0, none⟩)), (106, .pointer (some ⟨q, 0, none⟩)), (107, .pointer (some ⟨q, 0 + 1, none⟩)), (108, .int .i64 (F : Int)), (109, .int .i64 ((max s F : Nat) : Int)), (110, .int .i64 (m : Int)), (111, .int .u64 (m : Int)), (112, .bool false), (113, .bool false)] a) w')
    : (Code.region 15 opsSb.toArray true).wp Try.prog Q a w := by
  refine region_v 114 opsSb [(0, .pointer (some ⟨R, 0, none⟩)), (1, .pointer (some ⟨q, 0, none⟩)), (9, .int .i64 (s : Int))] [3, 6, 19, 29, 36, 43, 44] [.eq (.pointer (some ⟨R, 0, none⟩)), .eq (.int .i64 (s : Int)), .eq (.int .u64 (s : Int)), .eq (.bool ch), .eq (.pointer (some ⟨q, 0, none⟩)), .eq (.int .i64 (s : Int)), .eq (.bool ch), .eq (.bool false), .eq (.bool false), .eq (.pointer (some ⟨R, 0, none⟩)), .eq (.int .i64 (s : Int)), .eq (.pointer (some ⟨q, 0, none⟩)), .eq (.pointer (some ⟨q, 0, none⟩)), .eq (.pointer (some ⟨q, 0 + 0, none⟩)), .eq (.slice (some ⟨g, 0, none⟩) n cap), .eq (.int .i64 (n : Int)), .eq (.int .i64 ((s % n : Nat) : Int)), .eq (.int .i64 (s : Int)), .eq (.int .u64 (s : Int)), .eq (.bool hs), .eq (.pointer (some ⟨q, 0, none⟩)), .eq (.int .i64 (s : Int)), .eq (.pointer (some ⟨q, 0, none⟩)), .eq (.pointer (some ⟨q, 0, none⟩)), .eq (.pointer (some ⟨q, 0 + 0, none⟩)), .eq (.slice (some ⟨g, 0, none⟩) n cap), .eq (.int .i64 (n : Int)), .eq (.int .i64 ((s % n : Nat) : Int)), .eq (.int .i64 (s : Int)), .eq (.bool hs), .eq (.bool false), .eq (.bool false), .eq (.bool false), .eq (.pointer (some ⟨R, 0, none⟩)), .eq (.int .i64 (s : Int)), .eq (.int .u64 (s : Int)), .eq (.int .u64 (m : Int)), .eq (.pointer (some ⟨q, 0, none⟩)), .eq (.int .i64 (s : Int)), .eq (.pointer (some ⟨q, 0, none⟩)), .eq (.pointer (some ⟨q, 0, none⟩)), .eq (.pointer (some ⟨q, 0 + 1, none⟩)), .eq (.int .i64 (F : Int)), .eq (.int .i64 ((max s F : Nat) : Int)), .eq (.int .i64 (m : Int)), .eq (.int .u64 (m : Int)), .eq (.bool false), .eq (.bool false)] Grew Grew.refl Grew.trans follows (by kernel_rfl) (by kernel_rfl) hN ⟨h0, h1, h9, trivial⟩ rfl ?_ ?_ ?_ ?_
  · exact trivial
  · intro _ w' hR _
    exact ⟨fun _ => rfl, fun _ => rfl, fun _ => ob_cv (cviu _ _ (by omega)), trivial, fun _ => rfl, fun _ => rfl, trivial, fun _ => ob_bin (guard_bool _ _ _ _ _ _ _) (neBF15 _ _), fun _ => rfl, fun _ => rfl, fun _ => rfl, fun _ => rfl, fun _ => rfl, fun _ => ob_fld (fdRf _ _ _ _ (.inl rfl)), fun _ => ob_load (ldSS _ _ _ ((Below.cell hR.undraw (p := ⟨q, 0 + 0, none⟩) (Array.getElem?_eq_some_iff.1 kq).1).trans (by rw [blk_cell kq (0 + 0)]; rfl))), fun _ => ob_len Try.underlying36 rfl, fun _ => ob_bin (guard_int _ _ _ _ _ _ _ _ _) (remI _ _ _ _ hn (by omega)), fun _ => rfl, fun _ => ob_cv (cviu _ _ (by omega)), trivial, fun _ => rfl, fun _ => rfl, fun _ => rfl, fun _ => rfl, fun _ => ob_fld (fdRf _ _ _ _ (.inl rfl)), fun _ => ob_load (ldSS _ _ _ ((Below.cell hR.undraw (p := ⟨q, 0 + 0, none⟩) (Array.getElem?_eq_some_iff.1 kq).1).trans (by rw [blk_cell kq (0 + 0)]; rfl))), fun _ => ob_len Try.underlying36 rfl, fun _ => ob_bin (guard_int _ _ _ _ _ _ _ _ _) (remI _ _ _ _ hn (by omega)), fun _ => rfl, trivial, fun _ => ob_bin (guard_bool _ _ _ _ _ _ _) (neBF15 _ _), fun _ => ob_pick rfl rfl, fun _ => rfl, fun _ => rfl, fun _ => rfl, fun _ => ob_cv (cviu _ _ (by omega)), trivial, fun _ => rfl, fun _ => rfl, fun _ => rfl, fun _ => rfl, fun _ => ob_fld (fdRf _ _ _ _ (.inr rfl)), fun _ => ob_load (ldI _ _ _ ((Below.cell hR.undraw (p := ⟨q, 0 + 1, none⟩) (Array.getElem?_eq_some_iff.1 kq).1).trans (by rw [blk_cell kq (0 + 1)]; rfl))), trivial, trivial, fun _ => ob_cv (cviu _ _ (by omega)), fun _ => ob_bin (guard_int _ _ _ _ _ _ _ _ _) (neIF15 _ _ _ _), fun _ => ob_pick rfl rfl, trivial⟩
  · refine ⟨?_, ?_, ?_, ?_, ?_, ?_, ?_, trivial⟩
    · rintro o _ ho hd a' w' hF hR hp
      have hio := (nthO_eq _ _).symm.trans ho
      cases ho
      cases hd
      have q0 : a'.tmps.getD 66 undef = .pointer (some ⟨R, 0, none⟩) := hp 0 _ 66 rfl rfl rfl
      have q2 : a'.tmps.getD 68 undef = .int .u64 (s : Int) := hp 2 _ 68 rfl rfl rfl
      refine step_callD hio rfl rfl (enters_of Try.func15 (by kernel_rfl) rfl) (show Array.map a'.eval #[.tmp 66, .tmp 68] = _ from by simp only [List.map_toArray, List.map_cons, List.map_nil, Act.eval, q0, q2]) ((hC w' hR.undraw).mono ?_)
      rintro e w'' ⟨rfl, hb⟩
      exact ⟨_, rfl, _, rfl, rfl, hb⟩
    · rintro o _ ho hd a' w' hF hR hp
      have hio := (nthO_eq _ _).symm.trans ho
      cases ho
      cases hd
      have q4 : a'.tmps.getD 70 undef = .pointer (some ⟨q, 0, none⟩) := hp 4 _ 70 rfl rfl rfl
      have q5 : a'.tmps.getD 71 undef = .int .i64 (s : Int) := hp 5 _ 71 rfl rfl rfl
      refine step_callD hio rfl rfl (enters_of Try.func24 (by kernel_rfl) rfl) (show Array.map a'.eval #[.tmp 70, .tmp 71] = _ from by simp only [List.map_toArray, List.map_cons, List.map_nil, Act.eval, q4, q5]) ((hCR w' hR.undraw).mono ?_)
      rintro e w'' ⟨rfl, hb⟩
      exact ⟨_, rfl, _, rfl, rfl, hb⟩
    · rintro o _ ho hd a' w' hF hR hp
      have hio := (nthO_eq _ _).symm.trans ho
      cases ho
      cases hd
      have q8 : a'.tmps.getD 74 undef = .bool false := hp 8 _ 74 rfl rfl rfl
      have q9 : a'.tmps.getD 75 undef = .pointer (some ⟨R, 0, none⟩) := hp 9 _ 75 rfl rfl rfl
      have q16 : a'.tmps.getD 82 undef = .int .i64 ((s % n : Nat) : Int) := hp 16 _ 82 rfl rfl rfl
      have q18 : a'.tmps.getD 84 undef = .int .u64 (s : Int) := hp 18 _ 84 rfl rfl rfl
      refine step_callD hio (wanted_on rfl (show opsSb.toArray[8]? = some _ from rfl) rfl q8) rfl (enters_of Try.func19 (by kernel_rfl) rfl) (show Array.map a'.eval #[.tmp 75, .tmp 82, .tmp 84] = _ from by simp only [List.map_toArray, List.map_cons, List.map_nil, Act.eval, q9, q16, q18]) ((hH w' hR.undraw).mono ?_)
      rintro e w'' ⟨rfl, hb⟩
      exact ⟨_, rfl, _, rfl, rfl, hb⟩
    · rintro o _ ho hd a' w' hF hR hp
      have hio := (nthO_eq _ _).symm.trans ho
      cases ho
      cases hd
      have q8 : a'.tmps.getD 74 undef = .bool false := hp 8 _ 74 rfl rfl rfl
      have q20 : a'.tmps.getD 86 undef = .pointer (some ⟨q, 0, none⟩) := hp 20 _ 86 rfl rfl rfl
      have q27 : a'.tmps.getD 93 undef = .int .i64 ((s % n : Nat) : Int) := hp 27 _ 93 rfl rfl rfl
      have q28 : a'.tmps.getD 94 undef = .int .i64 (s : Int) := hp 28 _ 94 rfl rfl rfl
      refine step_callD hio (wanted_on rfl (show opsSb.toArray[8]? = some _ from rfl) rfl q8) rfl (enters_of Try.func25 (by kernel_rfl) rfl) (show Array.map a'.eval #[.tmp 86, .tmp 93, .tmp 94] = _ from by simp only [List.map_toArray, List.map_cons, List.map_nil, Act.eval, q20, q27, q28]) ((hHR w' hR.undraw).mono ?_)
      rintro e w'' ⟨rfl, hb⟩
      exact ⟨_, rfl, _, rfl, rfl, hb⟩
    · rintro o _ ho hd a' w' hF hR hp
      have hio := (nthO_eq _ _).symm.trans ho
      cases ho
      cases hd
      have q32 : a'.tmps.getD 98 undef = .bool false := hp 32 _ 98 rfl rfl rfl
      have q33 : a'.tmps.getD 99 undef = .pointer (some ⟨R, 0, none⟩) := hp 33 _ 99 rfl rfl rfl
      have q35 : a'.tmps.getD 101 undef = .int .u64 (s : Int) := hp 35 _ 101 rfl rfl rfl
      refine step_callD hio (wanted_on rfl (show opsSb.toArray[32]? = some _ from rfl) rfl q32) rfl (enters_of Try.func18 (by kernel_rfl) rfl) (show Array.map a'.eval #[.tmp 99, .tmp 101] = _ from by simp only [List.map_toArray, List.map_cons, List.map_nil, Act.eval, q33, q35]) ((hU w' hR.undraw).mono ?_)
      rintro e w'' ⟨rfl, hb⟩
      exact ⟨_, rfl, _, rfl, rfl, hb⟩
    · rintro o _ ho hd a' w' hF hR hp
      have hio := (nthO_eq _ _).symm.trans ho
      cases ho
      cases hd
      have q32 : a'.tmps.getD 98 undef = .bool false := hp 32 _ 98 rfl rfl rfl
      have q38 : a'.tmps.getD 104 undef = .int .i64 (s : Int) := hp 38 _ 104 rfl rfl rfl
      have q42 : a'.tmps.getD 108 undef = .int .i64 (F : Int) := hp 42 _ 108 rfl rfl rfl
      refine step_run hio (wanted_on rfl (show opsSb.toArray[32]? = some _ from rfl) rfl q32) (by intro c h; cases h) (by simp [Oper.about, resolve, Target.leads, Sem.run_pure]) (v := .int .i64 ((max s F : Nat) : Int)) (w' := w') (by
        unfold execOp
        simp only [resolve, invoke, builtin, Sem.run_bind, Sem.run_pure, Result.andThen_ok, List.map_toArray, List.map_cons, List.map_nil, Act.eval, q38, q42, run_max15]) ⟨_, rfl, rfl, Grew.refl _⟩
    · rintro o _ ho hd a' w' hF hR hp
      have hio := (nthO_eq _ _).symm.trans ho
      cases ho
      cases hd
      have q32 : a'.tmps.getD 98 undef = .bool false := hp 32 _ 98 rfl rfl rfl
      have q37 : a'.tmps.getD 103 undef = .pointer (some ⟨q, 0, none⟩) := hp 37 _ 103 rfl rfl rfl
      have q43 : a'.tmps.getD 109 undef = .int .i64 ((max s F : Nat) : Int) := hp 43 _ 109 rfl rfl rfl
      refine step_callD hio (wanted_on rfl (show opsSb.toArray[32]? = some _ from rfl) rfl q32) rfl (enters_of Try.func26 (by kernel_rfl) rfl) (show Array.map a'.eval #[.tmp 103, .tmp 109] = _ from by simp only [List.map_toArray, List.map_cons, List.map_nil, Act.eval, q37, q43]) ((hUR w' hR.undraw).mono ?_)
      rintro e w'' ⟨rfl, hb⟩
      exact ⟨_, rfl, _, rfl, rfl, hb⟩
  · intro _ w' hR _
    exact hQ  w'  hR.undraw
noncomputable def opsPl : List Oper := opsOf Try.f3 18
def wsPl (_R _lb _lo _M _lc _i _x _y _e2 : Nat) (_r : Int) (Pq : World → Prop) (W0 : World) (L : Nat → Bool) (_u : Value) (w : World) : Prop := (L 11 = false → Grew W0 w) ∧ (L 11 = true → Pq w)
theorem wsPl_same (R lb lo M lc _ x y e2 : Nat) (r : Int) (Pq : World → Prop) {W0 : World} {L : Nat → Bool} {i : Nat} {u : Value} {w : World} (k11 : ((11 : Nat) == i) = false) (h : wsPl R lb lo M lc i x y e2 r Pq W0 L u w) : wsPl R lb lo M lc i x y e2 r Pq W0 (fun j => L j || j == i) u w := by
  unfold wsPl at h ⊢
  simp only [beq_noF k11]
  exact h
set_option maxRecDepth 100000 in
set_option maxHeartbeats 4000000 in
theorem play_add (R lb lo M lc i x y e2 : Nat) (r : Int) (Pq : World → Prop) (a : Act) (w : World) (Q : Exit → Act → World → Prop) (hN : a.tmps.size = 122) (h1 : a.tmps.getD 1 undef = .slice (some ⟨lb, lo, none⟩) M lc) (h5 : a.tmps.getD 5 undef = .pointer (some ⟨R, 0, none⟩)) (h8 : a.tmps.getD 8 undef = .int .i64 (i : Int)) (h9 : a.tmps.getD 9 undef = .int .i64 (x : Int)) (h10 : a.tmps.getD 10 undef = .int .i64 (y : Int)) (h11 : a.tmps.getD 11 undef = .int .i64 (e2 : Int)) (hll : lb < w.heap.size) (hi : i < M) (hx : x < 1000) (hy : y < 1000) (c0 : w.cell? ⟨lb, lo + i * 4 + 0, none⟩ = some (.int .i64 r)) (hAd : ∀ w', Grew w w' → Calls Try.prog 12 #[.pointer (some ⟨R, 0, none⟩), .int .i64 r, .agg #[.int .u64 (x : Int), .int .u64 (y : Int)]] w' fun e W' => e = .returned (.int .i64 (e2 : Int)) ∧ Pq W') (hW0 : wsPl R lb lo M lc i x y e2 r Pq w.drew (fun _ => false) undef w.drew) (hQ : ∀ (u : Value) w', wsPl R lb lo M lc i x y e2 r Pq w.drew (fun _ => true) u w' → Q .normal (puts [(103, .pointer (some ⟨R, 0, none⟩)), (104, .slice (some ⟨lb, lo, none⟩) M lc), (105, .int .i64 (i : Int)), (106, .pointer (some ⟨lb, lo + i * 4, none⟩)), (107, .pointer (some ⟨lb, lo + i * 4 + 0, none⟩)), (108, .int .i64 r), (109, .int .i64 (x : Int)), (110, .int .u64 (x : Int)), (111, .int .i64 (y : Int)), (112, .int .u64 (y : Int)), (113, .agg #[.int .u64 (x : Int), .int .u64 (y : Int)]), (114, .int .i64 (e2 : Int)), (115, .int .i64 (e2 : Int)), (116, .bool false)] a) w')
    : (Code.region 18 opsPl.toArray true).wp Try.prog Q a w := by
  refine region_c (U := Value) 122 opsPl [(1, .slice (some ⟨lb, lo, none⟩) M lc), (5, .pointer (some ⟨R, 0, none⟩)), (8, .int .i64 (i : Int)), (9, .int .i64 (x : Int)), (10, .int .i64 (y : Int)), (11, .int .i64 (e2 : Int))] [10, 11] (fun _ => [.pointer (some ⟨R, 0, none⟩), .slice (some ⟨lb, lo, none⟩) M lc, .int .i64 (i : Int), .pointer (some ⟨lb, lo + i * 4, none⟩), .pointer (some ⟨lb, lo + i * 4 + 0, none⟩), .int .i64 r, .int .i64 (x : Int), .int .u64 (x : Int), .int .i64 (y : Int), .int .u64 (y : Int), .agg #[.int .u64 (x : Int), .int .u64 (y : Int)], .int .i64 (e2 : Int), .int .i64 (e2 : Int), .bool false]) (wsPl R lb lo M lc i x y e2 r Pq w.drew) undef follows (by kernel_rfl) hN ⟨h1, h5, h8, h9, h10, h11, trivial⟩ (fun _ => Nat.le_of_ble_eq_true rfl) hW0 (fun _ vu _ _ hi h => wsPl_same (u := vu) R lb lo M lc i x y e2 r Pq (key_ne hi rfl) h) ?_ ?_ ?_
  · intro L u w' hW hcl
    have nL : ∀ i, reachB opsPl 30 11 i = true → L i = false → L 11 = false := fun i h n => not_yetF hcl 30 h n
    exact ⟨fun _ => rfl, fun _ => rfl, fun _ => rfl, fun _ => ob_idx (ixAc _ _ _ _ _ _ hi), fun _ => ob_fld (fdAc _ _ _ _ (.inl rfl)), fun n => ob_load (ldI _ _ _ ((Below.cell (Grew.undraw (hW.1 (nL 5 (by kernel_rfl) n))) (p := ⟨lb, lo + i * 4 + 0, none⟩) hll).trans c0)), fun _ => rfl, fun _ => ob_cv (cviu _ _ (by omega)), fun _ => rfl, fun _ => ob_cv (cviu _ _ (by omega)), trivial, trivial, fun _ => rfl, fun _ => ob_bin (guard_int _ _ _ _ _ _ _ _ _) (neIF15 _ _ _ _), trivial⟩
  · refine ⟨?_, ?_, trivial⟩
    · rintro o ho L u a' w' hLi hpre hcl hR hW fin
      have hio := (nthO_eq _ _).symm.trans ho
      cases ho
      have q7 : a'.tmps.getD 110 undef = .int .u64 (x : Int) := hR.val 7 _ 110 rfl rfl (edge_ofF hpre 7 rfl)
      have q9 : a'.tmps.getD 112 undef = .int .u64 (y : Int) := hR.val 9 _ 112 rfl rfl (edge_ofF hpre 9 rfl)
      have n11 : L 11 = false := not_yetF hcl 30 (show reachB opsPl 30 11 10 = true by kernel_rfl) hLi
      refine step_callD hio rfl rfl (enters_of Try.func13 (by kernel_rfl) rfl) (show Array.map a'.eval #[.tmp 110, .tmp 112] = _ from by simp only [List.map_toArray, List.map_cons, List.map_nil, Act.eval, q7, q9]) ((span_any x y w').mono ?_)
      rintro e w'' ⟨rfl, hb⟩
      have hW2 : wsPl R lb lo M lc i x y e2 r Pq w.drew (fun j => L j || j == 10) u w'' := by
        refine ⟨fun _ => Grew.trans (hW.1 n11) hb, fun h => ?_⟩
        have h' : L 11 = true := by simpa using h
        rw [n11] at h'
        cases h'
      exact ⟨_, rfl, (fin (u) (.agg #[.int .u64 (x : Int), .int .u64 (y : Int)]) _ (fun _ => rfl) (fun _ _ => rfl) (hW2))⟩
    · rintro o ho L u a' w' hLi hpre hcl hR hW fin
      have hio := (nthO_eq _ _).symm.trans ho
      cases ho
      have q0 : a'.tmps.getD 103 undef = .pointer (some ⟨R, 0, none⟩) := hR.val 0 _ 103 rfl rfl (edge_ofF hpre 0 rfl)
      have q5 : a'.tmps.getD 108 undef = .int .i64 r := hR.val 5 _ 108 rfl rfl (edge_ofF hpre 5 rfl)
      have q10 : a'.tmps.getD 113 undef = .agg #[.int .u64 (x : Int), .int .u64 (y : Int)] := hR.val 10 _ 113 rfl rfl (edge_ofF hpre 10 rfl)
      refine step_callD hio rfl rfl (enters_of Try.func12 (by kernel_rfl) rfl) (show Array.map a'.eval #[.tmp 103, .tmp 108, .tmp 113] = _ from by simp only [List.map_toArray, List.map_cons, List.map_nil, Act.eval, q0, q5, q10]) ((hAd w' (Grew.undraw (hW.1 hLi))).mono ?_)
      rintro e w'' ⟨rfl, hp⟩
      have hW2 : wsPl R lb lo M lc i x y e2 r Pq w.drew (fun j => L j || j == 11) u w'' := by
        refine ⟨fun h => ?_, fun _ => hp⟩
        simp at h
      exact ⟨_, rfl, (fin (u) (.int .i64 (e2 : Int)) _ (fun _ => rfl) (fun _ _ => rfl) (hW2))⟩
  · intro L u w' hl hW
    refine hQ u w' ?_
    unfold wsPl at hW ⊢
    simp only [hl 11 (Nat.le_of_ble_eq_true rfl)] at hW ⊢
    exact hW
end Go.Proofs.Ytnpkaljmncehhaa
