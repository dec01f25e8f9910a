/- Stores' promises and bases rise, votes stay: mathematics. StableRises: the statements that draw their order. A store behind some sets, on a disk without a fuse: what a round of the laws stands on. -/
import Derived.Test.YtdiihaeelcbjbaaGreatDoorMStN
-- StRm
namespace Go.Proofs.YtdiihaeelcbjbaaGreatDoor

theorem may_lt {s : SM} {u : UM} (hm : s.may u = 0) (hk : u.k ≠ 3) : ¬ ltB u.b s.p := fun h => by
  unfold SM.may at hm
  rw [if_pos ⟨hk, .inr h⟩] at hm
  cases hm
theorem may_base {s : SM} {u : UM} (hm : s.may u = 0) (hk : u.k ≠ 1) : s.base < u.s := by
  unfold SM.may at hm
  split at hm
  · cases hm
  · split at hm
    · cases hm
    · rename_i h
      exact Nat.lt_of_not_le fun hl => h ⟨hk, hl⟩
theorem rise_p {s : SM} {u : UM} (hm : s.may u = 0) : ¬ ltB (s.upd u).p s.p := by
  unfold SM.upd
  split
  · exact may_lt hm (by omega)
  · split
    · exact may_lt hm (by omega)
    · exact ltB_irr _
theorem rise_base {s : SM} {u : UM} (hm : s.may u = 0) : s.base ≤ (s.upd u).base := by
  unfold SM.upd
  split
  · exact Nat.le_refl _
  · split
    · exact Nat.le_refl _
    · rename_i h _
      exact Nat.le_of_lt (may_base hm h)
theorem find_sorted : ∀ {l : List VM}, (l.Pairwise fun a b => a.s < b.s) → ∀ v ∈ l, (l.find? fun y => y.s == v.s) = some v
  | [], _, _, hv => by cases hv
  | a :: l, h, v, hv => by
    obtain ⟨h1, h2⟩ := List.pairwise_cons.1 h
    rw [List.find?_cons]
    rcases List.mem_cons.1 hv with rfl | hv
    · simp
    · have h3 := h1 v hv
      have h4 : (a.s == v.s) = false := by simp only [beq_eq_false_iff_ne, ne_eq]; omega
      rw [h4]
      exact find_sorted h2 v hv
theorem SM.ok.vote {s : SM} (h : s.ok) {v : VM} (hv : v ∈ s.vs) : s.vote v.s = some v := find_sorted h.sorted v hv
/-- A vote goes only by one of its slot, or by a snapshot. -/
theorem rise_vote {s : SM} {u : UM} {v : VM} (hv : v ∈ s.vs) (hb : (s.upd u).base < v.s) : ∃ v' ∈ (s.upd u).vs, v'.s = v.s ∧ (¬ (u.k = 2 ∧ u.s = v.s) → v' = v) := by
  unfold SM.upd at hb ⊢
  split at hb
  · rename_i h1
    rw [if_pos h1]
    exact ⟨v, hv, rfl, fun _ => rfl⟩
  · rename_i h1
    rw [if_neg h1]
    split at hb
    · rename_i h2
      rw [if_pos h2]
      by_cases e : u.s = v.s
      · exact ⟨⟨u.s, u.b, u.x⟩, by simp [putV], e, fun h => absurd ⟨h2, e⟩ h⟩
      · refine ⟨v, ?_, rfl, fun _ => rfl⟩
        simp only [putV, List.mem_append, List.mem_filter, decide_eq_true_eq, List.mem_singleton]
        rcases Nat.lt_or_gt_of_ne e with h | h
        · exact .inr ⟨hv, h⟩
        · exact .inl (.inl ⟨hv, h⟩)
    · rename_i h2
      rw [if_neg h2]
      exact ⟨v, List.mem_filter.2 ⟨hv, decide_eq_true hb⟩, rfl, fun _ => rfl⟩
/-- One set, as the law on what rises asks it. -/
structure Rose (s s' : SM) (done : Bool) (k n : Nat) : Prop where
  p : ¬ ltB s'.p s.p
  base : s.base ≤ s'.base
  no : done = false → s' = s
  vs : ∀ v ∈ s.vs, s'.base < v.s → ∃ v', s'.vote v.s = some v' ∧ (¬ (done = true ∧ k = 1 ∧ n = v.s) → v' = v)
theorem rose {s : SM} {d : DS} {a : AcM} (hs : s.ok) (ha : a.ok) (hx : a.x.length ≤ 60000) (hd : d.dead = false) (hf : d.f = none) : Rose s (s.on d a.um).1.2 (decide ((s.on d a.um).2 = 0)) (a.k % 3) a.s := by
  by_cases hm : s.may a.um = 0
  · rw [SM.on_put hm (AcM.um_ok ha hx) hd hf]
    refine ⟨rise_p hm, rise_base hm, (fun h => by simp at h), fun v hv hb => ?_⟩
    obtain ⟨v', h1, h2, h3⟩ := rise_vote hv hb
    refine ⟨v', ?_, fun hn => h3 fun hk => hn ⟨rfl, ?_⟩⟩
    · have h4 := (hs.upd (AcM.um_ok ha hx) hm).vote h1
      rw [h2] at h4
      exact h4
    · obtain ⟨k1, k2⟩ := hk
      unfold AcM.um at k1 k2
      split at k1
      · cases k1
      · rename_i h0
        rw [if_neg h0] at k2
        split at k1
        · rename_i h1
          rw [if_pos h1] at k2
          exact ⟨h1, k2⟩
        · cases k1
  · rw [SM.on_not hm]
    refine ⟨ltB_irr _, Nat.le_refl _, fun _ => rfl, fun v hv _ => ⟨v, hs.vote hv, fun _ => rfl⟩⟩
end Go.Proofs.YtdiihaeelcbjbaaGreatDoor

-- StRiR
namespace Go.Proofs.YtdiihaeelcbjbaaGreatDoor
open Go.RowKit

theorem leqF (t : TypeId) (k : IntKind) (w : World) {x y : Nat} (h : y < x) : (binOp .leq t (.int k (x : Int)) (.int k (y : Int))).run Tryz.prog w = .ok (.bool false) w := by
  have h' : ¬ (x : Int) ≤ y := by omega
  simp [go_sem, h']
theorem geqF (t : TypeId) (k : IntKind) (w : World) {x y : Nat} (h : x < y) : (binOp .geq t (.int k (x : Int)) (.int k (y : Int))).run Tryz.prog w = .ok (.bool false) w := by
  have h' : ¬ (y : Int) ≤ x := by omega
  simp [go_sem, h']
theorem gtrF (t : TypeId) (k : IntKind) (w : World) {x y : Int} (h : x ≤ y) : (binOp .gtr t (.int k x) (.int k y)).run Tryz.prog w = .ok (.bool false) w := by
  have h' : ¬ y < x := by omega
  simp [go_sem, h']
theorem gtrT (t : TypeId) (k : IntKind) (w : World) {x y : Int} (h : y < x) : (binOp .gtr t (.int k x) (.int k y)).run Tryz.prog w = .ok (.bool true) w := by
  simp [go_sem, h]
theorem eqNd (t : TypeId) (k : IntKind) (w : World) (x y : Nat) {b : Bool} (h : b = decide (x = y)) : (binOp .eql t (.int k (x : Int)) (.int k (y : Int))).run Tryz.prog w = .ok (.bool b) w := by
  subst h
  by_cases h : x = y
  · subst h
    simp [go_sem]
  · have h1 : ¬ (x : Int) = y := by omega
    simp [go_sem, h, h1]
theorem subN (t : TypeId) (w : World) (k : Nat) (h : 0 < k) (hk : k ≤ 1000) : (binOp .sub t (.int .i64 (k : Int)) (.int .i64 1)).run Tryz.prog w = .ok (.int .i64 ((k - 1 : Nat) : Int)) w := by
  have e : ((k - 1 : Nat) : Int) = (k : Int) - 1 := by omega
  rw [e]
  simp [go_sem, IntKind.wrap_i64]
  omega
theorem rem8 (t : TypeId) (w : World) (k : Nat) (hk : k < 256) : (binOp .rem t (.int .u8 (k : Int)) (.int .u8 3)).run Tryz.prog w = .ok (.int .u8 ((k % 3 : Nat) : Int)) w := by
  obtain ⟨m, hm⟩ : ∃ m, m = k % 3 := ⟨_, rfl⟩
  have h2 : m < 3 := by rw [hm]; exact Nat.mod_lt _ (by decide)
  have h1 : (k : Int).tmod 3 = (m : Int) := by rw [Int.tmod_eq_emod_of_nonneg (by omega)]; omega
  rw [← hm]
  clear hm
  simp [go_sem, h1]
theorem fdBo (w : World) (b o i : Nat) (hi : i = 0 ∨ i = 1) : (Instr.fieldAt 25 (.pointer (some ⟨b, o, none⟩)) i).run Tryz.prog w = .ok (.pointer (some ⟨b, o + i, none⟩)) w := by
  rcases hi with rfl | rfl <;> simp [go_sem]
theorem ldWi (w : World) (p : Addr) (v : Value) (h : w.cell? p = some v) : (Instr.loadAt 3 (.pointer (some p))).run Tryz.prog w = .ok v w := by
  simp [go_sem, h]
theorem ldW8 (w : World) (p : Addr) (v : Value) (h : w.cell? p = some v) : (Instr.loadAt 5 (.pointer (some p))).run Tryz.prog w = .ok v w := by
  simp [go_sem, h]
theorem fdAm (w : World) (b o i : Nat) (hi : i = 0 ∨ i = 2) : (Instr.fieldAt 41 (.pointer (some ⟨b, o, none⟩)) i).run Tryz.prog w = .ok (.pointer (some ⟨b, o + i, none⟩)) w := by
  rcases hi with rfl | rfl <;> simp [go_sem]
theorem ixAm (w : World) (b o L c q : Nat) (h : q < L) : (Instr.indexAt 22 (.slice (some ⟨b, o, none⟩) L c) (.int .i64 (q : Int))).run Tryz.prog w = .ok (.pointer (some ⟨b, o + q * 6, none⟩)) w := by
  have h1 : (0 : Int) ≤ q := by omega
  have h2 : (q : Int) < L := by omega
  simp [go_sem, h1, h2]
noncomputable def opsRi00 : List Oper := opsOf Tryz.f5 18
set_option maxRecDepth 100000 in
set_option maxHeartbeats 4000000 in
theorem rises_v00 (B pv pc k n nb no c2 m _s0 : Nat) (v : VM) (c : BA)  (a : Act) (w : World) (Q : Exit → Act → World → Prop) (hN : a.tmps.size = 228) (h4 : a.tmps.getD 4 undef = .pointer (some ⟨B, 0, none⟩)) (h10 : a.tmps.getD 10 undef = .pointer (some ⟨pc, 0, none⟩)) (h11 : a.tmps.getD 11 undef = .slice (some ⟨nb, no, none⟩) n c2) (h12 : a.tmps.getD 12 undef = .int .i64 (k : Int)) (h13 : a.tmps.getD 13 undef = .pointer (some ⟨pv, 0, none⟩)) (lv : pv < w.heap.size) (lc : pc < w.heap.size) (x0 : w.cell? ⟨pv, 0, none⟩ = some (.int .u64 (v.s : Int))) (x1 : w.cell? ⟨pv, 1, none⟩ = some (.int .u64 (v.b.n : Int))) (_x2 : w.cell? ⟨pv, 2, none⟩ = some (.int .i64 v.b.r)) (z0 : w.cell? ⟨pc, 0, none⟩ = some (.int .u64 (c.n : Int))) (_z1 : w.cell? ⟨pc, 1, none⟩ = some (.int .i64 c.r)) (hB : ∀ w', Grew w w' → Calls Tryz.prog 26 #[.pointer (some ⟨B, 0, none⟩)] w' fun e W' => e = .returned (.int .u64 (m : Int)) ∧ Grew w' W') (hm : m < v.s) (hn : v.b.n ≤ c.n) (he : v.b.n ≠ c.n) (hk : k = 0) (hQ : ∀ (w' : World), Grew w w' → Q .normal (puts [(106, .pointer (some ⟨pv, 0, none⟩)), (107, .int .u64 (v.s : Int)), (108, .pointer (some ⟨B, 0, none⟩)), (109, .int .u64 (m : Int)), (110, .bool false), (111, .bool false), (112, .pointer (some ⟨pv, 1, none⟩)), (113, .pointer (some ⟨pv, 1, none⟩)), (114, .int .u64 (v.b.n : Int)), (115, .pointer (some ⟨pc, 0, none⟩)), (116, .int .u64 (c.n : Int)), (117, .bool false), (118, .bool false), (119, .bool false), (120, .pointer (some ⟨pv, 1, none⟩)), (121, .pointer (some ⟨pv, 1, none⟩)), (122, .int .u64 (v.b.n : Int)), (123, .pointer (some ⟨pc, 0, none⟩)), (124, .int .u64 (c.n : Int)), (125, .bool false), (126, .bool false), (127, undef), (128, undef), (129, undef), (130, undef), (131, undef), (132, undef), (133, .bool false), (134, .bool false), (135, .bool false), (136, .int .i64 (k : Int)), (137, .bool false), (138, .bool false), (139, undef), (140, undef), (141, undef), (142, undef), (143, undef), (144, undef), (145, undef), (146, undef), (147, undef), (148, .bool false), (149, .bool false)] a) w')
    : (Code.region 18 opsRi00.toArray true).wp Tryz.prog Q a w := by
  refine region_v 228 opsRi00 [(4, .pointer (some ⟨B, 0, none⟩)), (10, .pointer (some ⟨pc, 0, none⟩)), (11, .slice (some ⟨nb, no, none⟩) n c2), (12, .int .i64 (k : Int)), (13, .pointer (some ⟨pv, 0, none⟩))] [3] [.eq (.pointer (some ⟨pv, 0, none⟩)), .eq (.int .u64 (v.s : Int)), .eq (.pointer (some ⟨B, 0, none⟩)), .eq (.int .u64 (m : Int)), .eq (.bool false), .eq (.bool false), .eq (.pointer (some ⟨pv, 1, none⟩)), .eq (.pointer (some ⟨pv, 1, none⟩)), .eq (.int .u64 (v.b.n : Int)), .eq (.pointer (some ⟨pc, 0, none⟩)), .eq (.int .u64 (c.n : Int)), .eq (.bool false), .eq (.bool false), .eq (.bool false), .eq (.pointer (some ⟨pv, 1, none⟩)), .eq (.pointer (some ⟨pv, 1, none⟩)), .eq (.int .u64 (v.b.n : Int)), .eq (.pointer (some ⟨pc, 0, none⟩)), .eq (.int .u64 (c.n : Int)), .eq (.bool false), .eq (.bool false), .eq (undef), .eq (undef), .eq (undef), .eq (undef), .eq (undef), .eq (undef), .eq (.bool false), .eq (.bool false), .eq (.bool false), .eq (.int .i64 (k : Int)), .eq (.bool false), .eq (.bool false), .eq (undef), .eq (undef), .eq (undef), .eq (undef), .eq (undef), .eq (undef), .eq (undef), .eq (undef), .eq (undef), .eq (.bool false), .eq (.bool false)] Grew Grew.refl Grew.trans follows (by kernel_rfl) (by kernel_rfl) hN ⟨h4, h10, h11, h12, h13, trivial⟩ rfl ?_ ?_ ?_ ?_
  · exact trivial
  · intro _ w' hR _
    exact ⟨fun _ => ob_fld (fdVo0 _ _ _), fun _ => ob_load (ldW6 _ _ _ ((Below.cell hR.undraw (p := ⟨pv, 0, none⟩) lv).trans x0)), fun _ => rfl, trivial, fun _ => ob_bin (guard_int _ _ _ _ _ _ _ _ _) (leqF _ _ _ hm), fun _ => rfl, fun _ => ob_fld (fdVo1 _ _ _), fun _ => ob_fld (fdBo _ _ _ _ (.inl rfl)), fun _ => ob_load (ldW6 _ _ _ ((Below.cell hR.undraw (p := ⟨pv, 1, none⟩) lv).trans x1)), fun _ => ob_fld (fdBo _ _ _ _ (.inl rfl)), fun _ => ob_load (ldW6 _ _ _ ((Below.cell hR.undraw (p := ⟨pc, 0, none⟩) lc).trans z0)), fun _ => ob_bin (guard_int _ _ _ _ _ _ _ _ _) (gtrF _ _ _ (by omega)), fun _ => ob_pick rfl rfl, fun _ => rfl, fun _ => ob_fld (fdVo1 _ _ _), fun _ => ob_fld (fdBo _ _ _ _ (.inl rfl)), fun _ => ob_load (ldW6 _ _ _ ((Below.cell hR.undraw (p := ⟨pv, 1, none⟩) lv).trans x1)), fun _ => ob_fld (fdBo _ _ _ _ (.inl rfl)), fun _ => ob_load (ldW6 _ _ _ ((Below.cell hR.undraw (p := ⟨pc, 0, none⟩) lc).trans z0)), fun _ => ob_bin (guard_int _ _ _ _ _ _ _ _ _) (eqNd _ _ _ _ _ (by simp [he])), fun _ => rfl, fun _ => rfl, fun _ => rfl, fun _ => rfl, fun _ => rfl, fun _ => rfl, fun _ => rfl, fun _ => ob_pick rfl rfl, fun _ => ob_pick rfl rfl, fun _ => rfl, fun _ => rfl, fun _ => ob_bin (guard_int _ _ _ _ _ _ _ _ _) (gtrF _ _ _ (by omega)), fun _ => rfl, fun _ => rfl, fun _ => rfl, fun _ => rfl, fun _ => rfl, fun _ => rfl, fun _ => rfl, fun _ => rfl, fun _ => rfl, fun _ => rfl, fun _ => ob_pick rfl rfl, fun _ => ob_pick rfl rfl, trivial⟩
  · refine ⟨?_, trivial⟩
    · rintro o _ ho hd a' w' hF hR hp
      have hio := (nthO_eq _ _).symm.trans ho
      cases ho
      cases hd
      have q2 : a'.tmps.getD 108 undef = .pointer (some ⟨B, 0, none⟩) := hp 2 _ 108 rfl rfl rfl
      refine step_callD hio rfl rfl (enters_of Tryz.func26 (by kernel_rfl) rfl) (show Array.map a'.eval #[.tmp 108] = _ from by simp only [List.map_toArray, List.map_cons, List.map_nil, Act.eval, q2]) ((hB w' hR.undraw).mono ?_)
      rintro e w'' ⟨rfl, hb⟩
      exact ⟨_, rfl, _, rfl, rfl, hb⟩
  · intro _ w' hR _
    exact hQ  w'  hR.undraw
noncomputable def opsRi01 : List Oper := opsOf Tryz.f5 18
set_option maxRecDepth 100000 in
set_option maxHeartbeats 4000000 in
theorem rises_v01 (B pv pc k n nb no c2 m s0 : Nat) (v : VM) (c : BA)  (a : Act) (w : World) (Q : Exit → Act → World → Prop) (hN : a.tmps.size = 228) (h4 : a.tmps.getD 4 undef = .pointer (some ⟨B, 0, none⟩)) (h10 : a.tmps.getD 10 undef = .pointer (some ⟨pc, 0, none⟩)) (h11 : a.tmps.getD 11 undef = .slice (some ⟨nb, no, none⟩) n c2) (h12 : a.tmps.getD 12 undef = .int .i64 (k : Int)) (h13 : a.tmps.getD 13 undef = .pointer (some ⟨pv, 0, none⟩)) (lv : pv < w.heap.size) (lc : pc < w.heap.size) (x0 : w.cell? ⟨pv, 0, none⟩ = some (.int .u64 (v.s : Int))) (x1 : w.cell? ⟨pv, 1, none⟩ = some (.int .u64 (v.b.n : Int))) (_x2 : w.cell? ⟨pv, 2, none⟩ = some (.int .i64 v.b.r)) (z0 : w.cell? ⟨pc, 0, none⟩ = some (.int .u64 (c.n : Int))) (_z1 : w.cell? ⟨pc, 1, none⟩ = some (.int .i64 c.r)) (hB : ∀ w', Grew w w' → Calls Tryz.prog 26 #[.pointer (some ⟨B, 0, none⟩)] w' fun e W' => e = .returned (.int .u64 (m : Int)) ∧ Grew w' W') (hm : m < v.s) (hn : v.b.n ≤ c.n) (he : v.b.n ≠ c.n) (hk : 0 < k) (hkm : k ≤ 1000) (hkn : k - 1 < n) (ln : nb < w.heap.size) (n0 : w.cell? ⟨nb, no + (k - 1) * 4, none⟩ = some (.int .u64 (s0 : Int))) (hs : s0 < v.s) (hQ : ∀ (w' : World), Grew w w' → Q .normal (puts [(106, .pointer (some ⟨pv, 0, none⟩)), (107, .int .u64 (v.s : Int)), (108, .pointer (some ⟨B, 0, none⟩)), (109, .int .u64 (m : Int)), (110, .bool false), (111, .bool false), (112, .pointer (some ⟨pv, 1, none⟩)), (113, .pointer (some ⟨pv, 1, none⟩)), (114, .int .u64 (v.b.n : Int)), (115, .pointer (some ⟨pc, 0, none⟩)), (116, .int .u64 (c.n : Int)), (117, .bool false), (118, .bool false), (119, .bool false), (120, .pointer (some ⟨pv, 1, none⟩)), (121, .pointer (some ⟨pv, 1, none⟩)), (122, .int .u64 (v.b.n : Int)), (123, .pointer (some ⟨pc, 0, none⟩)), (124, .int .u64 (c.n : Int)), (125, .bool false), (126, .bool false), (127, undef), (128, undef), (129, undef), (130, undef), (131, undef), (132, undef), (133, .bool false), (134, .bool false), (135, .bool false), (136, .int .i64 (k : Int)), (137, .bool true), (138, .bool true), (139, .slice (some ⟨nb, no, none⟩) n c2), (140, .int .i64 (k : Int)), (141, .int .i64 ((k - 1 : Nat) : Int)), (142, .pointer (some ⟨nb, no + (k - 1) * 4, none⟩)), (143, .pointer (some ⟨nb, no + (k - 1) * 4, none⟩)), (144, .int .u64 (s0 : Int)), (145, .pointer (some ⟨pv, 0, none⟩)), (146, .int .u64 (v.s : Int)), (147, .bool false), (148, .bool false), (149, .bool false)] a) w')
    : (Code.region 18 opsRi01.toArray true).wp Tryz.prog Q a w := by
  refine region_v 228 opsRi01 [(4, .pointer (some ⟨B, 0, none⟩)), (10, .pointer (some ⟨pc, 0, none⟩)), (11, .slice (some ⟨nb, no, none⟩) n c2), (12, .int .i64 (k : Int)), (13, .pointer (some ⟨pv, 0, none⟩))] [3] [.eq (.pointer (some ⟨pv, 0, none⟩)), .eq (.int .u64 (v.s : Int)), .eq (.pointer (some ⟨B, 0, none⟩)), .eq (.int .u64 (m : Int)), .eq (.bool false), .eq (.bool false), .eq (.pointer (some ⟨pv, 1, none⟩)), .eq (.pointer (some ⟨pv, 1, none⟩)), .eq (.int .u64 (v.b.n : Int)), .eq (.pointer (some ⟨pc, 0, none⟩)), .eq (.int .u64 (c.n : Int)), .eq (.bool false), .eq (.bool false), .eq (.bool false), .eq (.pointer (some ⟨pv, 1, none⟩)), .eq (.pointer (some ⟨pv, 1, none⟩)), .eq (.int .u64 (v.b.n : Int)), .eq (.pointer (some ⟨pc, 0, none⟩)), .eq (.int .u64 (c.n : Int)), .eq (.bool false), .eq (.bool false), .eq (undef), .eq (undef), .eq (undef), .eq (undef), .eq (undef), .eq (undef), .eq (.bool false), .eq (.bool false), .eq (.bool false), .eq (.int .i64 (k : Int)), .eq (.bool true), .eq (.bool true), .eq (.slice (some ⟨nb, no, none⟩) n c2), .eq (.int .i64 (k : Int)), .eq (.int .i64 ((k - 1 : Nat) : Int)), .eq (.pointer (some ⟨nb, no + (k - 1) * 4, none⟩)), .eq (.pointer (some ⟨nb, no + (k - 1) * 4, none⟩)), .eq (.int .u64 (s0 : Int)), .eq (.pointer (some ⟨pv, 0, none⟩)), .eq (.int .u64 (v.s : Int)), .eq (.bool false), .eq (.bool false), .eq (.bool false)] Grew Grew.refl Grew.trans follows (by kernel_rfl) (by kernel_rfl) hN ⟨h4, h10, h11, h12, h13, trivial⟩ rfl ?_ ?_ ?_ ?_
  · exact trivial
  · intro _ w' hR _
    exact ⟨fun _ => ob_fld (fdVo0 _ _ _), fun _ => ob_load (ldW6 _ _ _ ((Below.cell hR.undraw (p := ⟨pv, 0, none⟩) lv).trans x0)), fun _ => rfl, trivial, fun _ => ob_bin (guard_int _ _ _ _ _ _ _ _ _) (leqF _ _ _ hm), fun _ => rfl, fun _ => ob_fld (fdVo1 _ _ _), fun _ => ob_fld (fdBo _ _ _ _ (.inl rfl)), fun _ => ob_load (ldW6 _ _ _ ((Below.cell hR.undraw (p := ⟨pv, 1, none⟩) lv).trans x1)), fun _ => ob_fld (fdBo _ _ _ _ (.inl rfl)), fun _ => ob_load (ldW6 _ _ _ ((Below.cell hR.undraw (p := ⟨pc, 0, none⟩) lc).trans z0)), fun _ => ob_bin (guard_int _ _ _ _ _ _ _ _ _) (gtrF _ _ _ (by omega)), fun _ => ob_pick rfl rfl, fun _ => rfl, fun _ => ob_fld (fdVo1 _ _ _), fun _ => ob_fld (fdBo _ _ _ _ (.inl rfl)), fun _ => ob_load (ldW6 _ _ _ ((Below.cell hR.undraw (p := ⟨pv, 1, none⟩) lv).trans x1)), fun _ => ob_fld (fdBo _ _ _ _ (.inl rfl)), fun _ => ob_load (ldW6 _ _ _ ((Below.cell hR.undraw (p := ⟨pc, 0, none⟩) lc).trans z0)), fun _ => ob_bin (guard_int _ _ _ _ _ _ _ _ _) (eqNd _ _ _ _ _ (by simp [he])), fun _ => rfl, fun _ => rfl, fun _ => rfl, fun _ => rfl, fun _ => rfl, fun _ => rfl, fun _ => rfl, fun _ => ob_pick rfl rfl, fun _ => ob_pick rfl rfl, fun _ => rfl, fun _ => rfl, fun _ => ob_bin (guard_int _ _ _ _ _ _ _ _ _) (gtrT _ _ _ (by omega)), fun _ => rfl, fun _ => rfl, fun _ => rfl, fun _ => ob_bin (guard_int _ _ _ _ _ _ _ _ _) (subN _ _ _ hk hkm), fun _ => ob_idx (ixVo _ _ _ _ _ _ hkn), fun _ => ob_fld (fdVo0 _ _ _), fun _ => ob_load (ldW6 _ _ _ ((Below.cell hR.undraw (p := ⟨nb, no + (k - 1) * 4, none⟩) ln).trans n0)), fun _ => ob_fld (fdVo0 _ _ _), fun _ => ob_load (ldW6 _ _ _ ((Below.cell hR.undraw (p := ⟨pv, 0, none⟩) lv).trans x0)), fun _ => ob_bin (guard_int _ _ _ _ _ _ _ _ _) (geqF _ _ _ hs), fun _ => ob_pick rfl rfl, fun _ => ob_pick rfl rfl, trivial⟩
  · refine ⟨?_, trivial⟩
    · rintro o _ ho hd a' w' hF hR hp
      have hio := (nthO_eq _ _).symm.trans ho
      cases ho
      cases hd
      have q2 : a'.tmps.getD 108 undef = .pointer (some ⟨B, 0, none⟩) := hp 2 _ 108 rfl rfl rfl
      refine step_callD hio rfl rfl (enters_of Tryz.func26 (by kernel_rfl) rfl) (show Array.map a'.eval #[.tmp 108] = _ from by simp only [List.map_toArray, List.map_cons, List.map_nil, Act.eval, q2]) ((hB w' hR.undraw).mono ?_)
      rintro e w'' ⟨rfl, hb⟩
      exact ⟨_, rfl, _, rfl, rfl, hb⟩
  · intro _ w' hR _
    exact hQ  w'  hR.undraw
noncomputable def opsRi10 : List Oper := opsOf Tryz.f5 18
set_option maxRecDepth 100000 in
set_option maxHeartbeats 4000000 in
theorem rises_v10 (B pv pc k n nb no c2 m _s0 : Nat) (v : VM) (c : BA)  (a : Act) (w : World) (Q : Exit → Act → World → Prop) (hN : a.tmps.size = 228) (h4 : a.tmps.getD 4 undef = .pointer (some ⟨B, 0, none⟩)) (h10 : a.tmps.getD 10 undef = .pointer (some ⟨pc, 0, none⟩)) (h11 : a.tmps.getD 11 undef = .slice (some ⟨nb, no, none⟩) n c2) (h12 : a.tmps.getD 12 undef = .int .i64 (k : Int)) (h13 : a.tmps.getD 13 undef = .pointer (some ⟨pv, 0, none⟩)) (lv : pv < w.heap.size) (lc : pc < w.heap.size) (x0 : w.cell? ⟨pv, 0, none⟩ = some (.int .u64 (v.s : Int))) (x1 : w.cell? ⟨pv, 1, none⟩ = some (.int .u64 (v.b.n : Int))) (x2 : w.cell? ⟨pv, 2, none⟩ = some (.int .i64 v.b.r)) (z0 : w.cell? ⟨pc, 0, none⟩ = some (.int .u64 (c.n : Int))) (z1 : w.cell? ⟨pc, 1, none⟩ = some (.int .i64 c.r)) (hB : ∀ w', Grew w w' → Calls Tryz.prog 26 #[.pointer (some ⟨B, 0, none⟩)] w' fun e W' => e = .returned (.int .u64 (m : Int)) ∧ Grew w' W') (hm : m < v.s) (_hn : v.b.n ≤ c.n) (he : v.b.n = c.n) (hr : v.b.r ≤ c.r) (hk : k = 0) (hQ : ∀ (w' : World), Grew w w' → Q .normal (puts [(106, .pointer (some ⟨pv, 0, none⟩)), (107, .int .u64 (v.s : Int)), (108, .pointer (some ⟨B, 0, none⟩)), (109, .int .u64 (m : Int)), (110, .bool false), (111, .bool false), (112, .pointer (some ⟨pv, 1, none⟩)), (113, .pointer (some ⟨pv, 1, none⟩)), (114, .int .u64 (v.b.n : Int)), (115, .pointer (some ⟨pc, 0, none⟩)), (116, .int .u64 (c.n : Int)), (117, .bool false), (118, .bool false), (119, .bool false), (120, .pointer (some ⟨pv, 1, none⟩)), (121, .pointer (some ⟨pv, 1, none⟩)), (122, .int .u64 (v.b.n : Int)), (123, .pointer (some ⟨pc, 0, none⟩)), (124, .int .u64 (c.n : Int)), (125, .bool true), (126, .bool true), (127, .pointer (some ⟨pv, 1, none⟩)), (128, .pointer (some ⟨pv, 2, none⟩)), (129, .int .i64 v.b.r), (130, .pointer (some ⟨pc, 1, none⟩)), (131, .int .i64 c.r), (132, .bool false), (133, .bool false), (134, .bool false), (135, .bool false), (136, .int .i64 (k : Int)), (137, .bool false), (138, .bool false), (139, undef), (140, undef), (141, undef), (142, undef), (143, undef), (144, undef), (145, undef), (146, undef), (147, undef), (148, .bool false), (149, .bool false)] a) w')
    : (Code.region 18 opsRi10.toArray true).wp Tryz.prog Q a w := by
  refine region_v 228 opsRi10 [(4, .pointer (some ⟨B, 0, none⟩)), (10, .pointer (some ⟨pc, 0, none⟩)), (11, .slice (some ⟨nb, no, none⟩) n c2), (12, .int .i64 (k : Int)), (13, .pointer (some ⟨pv, 0, none⟩))] [3] [.eq (.pointer (some ⟨pv, 0, none⟩)), .eq (.int .u64 (v.s : Int)), .eq (.pointer (some ⟨B, 0, none⟩)), .eq (.int .u64 (m : Int)), .eq (.bool false), .eq (.bool false), .eq (.pointer (some ⟨pv, 1, none⟩)), .eq (.pointer (some ⟨pv, 1, none⟩)), .eq (.int .u64 (v.b.n : Int)), .eq (.pointer (some ⟨pc, 0, none⟩)), .eq (.int .u64 (c.n : Int)), .eq (.bool false), .eq (.bool false), .eq (.bool false), .eq (.pointer (some ⟨pv, 1, none⟩)), .eq (.pointer (some ⟨pv, 1, none⟩)), .eq (.int .u64 (v.b.n : Int)), .eq (.pointer (some ⟨pc, 0, none⟩)), .eq (.int .u64 (c.n : Int)), .eq (.bool true), .eq (.bool true), .eq (.pointer (some ⟨pv, 1, none⟩)), .eq (.pointer (some ⟨pv, 2, none⟩)), .eq (.int .i64 v.b.r), .eq (.pointer (some ⟨pc, 1, none⟩)), .eq (.int .i64 c.r), .eq (.bool false), .eq (.bool false), .eq (.bool false), .eq (.bool false), .eq (.int .i64 (k : Int)), .eq (.bool false), .eq (.bool false), .eq (undef), .eq (undef), .eq (undef), .eq (undef), .eq (undef), .eq (undef), .eq (undef), .eq (undef), .eq (undef), .eq (.bool false), .eq (.bool false)] Grew Grew.refl Grew.trans follows (by kernel_rfl) (by kernel_rfl) hN ⟨h4, h10, h11, h12, h13, trivial⟩ rfl ?_ ?_ ?_ ?_
  · exact trivial
  · intro _ w' hR _
    exact ⟨fun _ => ob_fld (fdVo0 _ _ _), fun _ => ob_load (ldW6 _ _ _ ((Below.cell hR.undraw (p := ⟨pv, 0, none⟩) lv).trans x0)), fun _ => rfl, trivial, fun _ => ob_bin (guard_int _ _ _ _ _ _ _ _ _) (leqF _ _ _ hm), fun _ => rfl, fun _ => ob_fld (fdVo1 _ _ _), fun _ => ob_fld (fdBo _ _ _ _ (.inl rfl)), fun _ => ob_load (ldW6 _ _ _ ((Below.cell hR.undraw (p := ⟨pv, 1, none⟩) lv).trans x1)), fun _ => ob_fld (fdBo _ _ _ _ (.inl rfl)), fun _ => ob_load (ldW6 _ _ _ ((Below.cell hR.undraw (p := ⟨pc, 0, none⟩) lc).trans z0)), fun _ => ob_bin (guard_int _ _ _ _ _ _ _ _ _) (gtrF _ _ _ (by omega)), fun _ => ob_pick rfl rfl, fun _ => rfl, fun _ => ob_fld (fdVo1 _ _ _), fun _ => ob_fld (fdBo _ _ _ _ (.inl rfl)), fun _ => ob_load (ldW6 _ _ _ ((Below.cell hR.undraw (p := ⟨pv, 1, none⟩) lv).trans x1)), fun _ => ob_fld (fdBo _ _ _ _ (.inl rfl)), fun _ => ob_load (ldW6 _ _ _ ((Below.cell hR.undraw (p := ⟨pc, 0, none⟩) lc).trans z0)), fun _ => ob_bin (guard_int _ _ _ _ _ _ _ _ _) (eqNd _ _ _ _ _ (by simp [he])), fun _ => rfl, fun _ => ob_fld (fdVo1 _ _ _), fun _ => ob_fld (fdBo _ _ _ _ (.inr rfl)), fun _ => ob_load (ldWi _ _ _ ((Below.cell hR.undraw (p := ⟨pv, 2, none⟩) lv).trans x2)), fun _ => ob_fld (fdBo _ _ _ _ (.inr rfl)), fun _ => ob_load (ldWi _ _ _ ((Below.cell hR.undraw (p := ⟨pc, 1, none⟩) lc).trans z1)), fun _ => ob_bin (guard_int _ _ _ _ _ _ _ _ _) (gtrF _ _ _ hr), fun _ => ob_pick rfl rfl, fun _ => ob_pick rfl rfl, fun _ => rfl, fun _ => rfl, fun _ => ob_bin (guard_int _ _ _ _ _ _ _ _ _) (gtrF _ _ _ (by omega)), fun _ => rfl, fun _ => rfl, fun _ => rfl, fun _ => rfl, fun _ => rfl, fun _ => rfl, fun _ => rfl, fun _ => rfl, fun _ => rfl, fun _ => rfl, fun _ => ob_pick rfl rfl, fun _ => ob_pick rfl rfl, trivial⟩
  · refine ⟨?_, trivial⟩
    · rintro o _ ho hd a' w' hF hR hp
      have hio := (nthO_eq _ _).symm.trans ho
      cases ho
      cases hd
      have q2 : a'.tmps.getD 108 undef = .pointer (some ⟨B, 0, none⟩) := hp 2 _ 108 rfl rfl rfl
      refine step_callD hio rfl rfl (enters_of Tryz.func26 (by kernel_rfl) rfl) (show Array.map a'.eval #[.tmp 108] = _ from by simp only [List.map_toArray, List.map_cons, List.map_nil, Act.eval, q2]) ((hB w' hR.undraw).mono ?_)
      rintro e w'' ⟨rfl, hb⟩
      exact ⟨_, rfl, _, rfl, rfl, hb⟩
  · intro _ w' hR _
    exact hQ  w'  hR.undraw
noncomputable def opsRi11 : List Oper := opsOf Tryz.f5 18
set_option maxRecDepth 100000 in
set_option maxHeartbeats 4000000 in
theorem rises_v11 (B pv pc k n nb no c2 m s0 : Nat) (v : VM) (c : BA)  (a : Act) (w : World) (Q : Exit → Act → World → Prop) (hN : a.tmps.size = 228) (h4 : a.tmps.getD 4 undef = .pointer (some ⟨B, 0, none⟩)) (h10 : a.tmps.getD 10 undef = .pointer (some ⟨pc, 0, none⟩)) (h11 : a.tmps.getD 11 undef = .slice (some ⟨nb, no, none⟩) n c2) (h12 : a.tmps.getD 12 undef = .int .i64 (k : Int)) (h13 : a.tmps.getD 13 undef = .pointer (some ⟨pv, 0, none⟩)) (lv : pv < w.heap.size) (lc : pc < w.heap.size) (x0 : w.cell? ⟨pv, 0, none⟩ = some (.int .u64 (v.s : Int))) (x1 : w.cell? ⟨pv, 1, none⟩ = some (.int .u64 (v.b.n : Int))) (x2 : w.cell? ⟨pv, 2, none⟩ = some (.int .i64 v.b.r)) (z0 : w.cell? ⟨pc, 0, none⟩ = some (.int .u64 (c.n : Int))) (z1 : w.cell? ⟨pc, 1, none⟩ = some (.int .i64 c.r)) (hB : ∀ w', Grew w w' → Calls Tryz.prog 26 #[.pointer (some ⟨B, 0, none⟩)] w' fun e W' => e = .returned (.int .u64 (m : Int)) ∧ Grew w' W') (hm : m < v.s) (_hn : v.b.n ≤ c.n) (he : v.b.n = c.n) (hr : v.b.r ≤ c.r) (hk : 0 < k) (hkm : k ≤ 1000) (hkn : k - 1 < n) (ln : nb < w.heap.size) (n0 : w.cell? ⟨nb, no + (k - 1) * 4, none⟩ = some (.int .u64 (s0 : Int))) (hs : s0 < v.s) (hQ : ∀ (w' : World), Grew w w' → Q .normal (puts [(106, .pointer (some ⟨pv, 0, none⟩)), (107, .int .u64 (v.s : Int)), (108, .pointer (some ⟨B, 0, none⟩)), (109, .int .u64 (m : Int)), (110, .bool false), (111, .bool false), (112, .pointer (some ⟨pv, 1, none⟩)), (113, .pointer (some ⟨pv, 1, none⟩)), (114, .int .u64 (v.b.n : Int)), (115, .pointer (some ⟨pc, 0, none⟩)), (116, .int .u64 (c.n : Int)), (117, .bool false), (118, .bool false), (119, .bool false), (120, .pointer (some ⟨pv, 1, none⟩)), (121, .pointer (some ⟨pv, 1, none⟩)), (122, .int .u64 (v.b.n : Int)), (123, .pointer (some ⟨pc, 0, none⟩)), (124, .int .u64 (c.n : Int)), (125, .bool true), (126, .bool true), (127, .pointer (some ⟨pv, 1, none⟩)), (128, .pointer (some ⟨pv, 2, none⟩)), (129, .int .i64 v.b.r), (130, .pointer (some ⟨pc, 1, none⟩)), (131, .int .i64 c.r), (132, .bool false), (133, .bool false), (134, .bool false), (135, .bool false), (136, .int .i64 (k : Int)), (137, .bool true), (138, .bool true), (139, .slice (some ⟨nb, no, none⟩) n c2), (140, .int .i64 (k : Int)), (141, .int .i64 ((k - 1 : Nat) : Int)), (142, .pointer (some ⟨nb, no + (k - 1) * 4, none⟩)), (143, .pointer (some ⟨nb, no + (k - 1) * 4, none⟩)), (144, .int .u64 (s0 : Int)), (145, .pointer (some ⟨pv, 0, none⟩)), (146, .int .u64 (v.s : Int)), (147, .bool false), (148, .bool false), (149, .bool false)] a) w')
    : (Code.region 18 opsRi11.toArray true).wp Tryz.prog Q a w := by
  refine region_v 228 opsRi11 [(4, .pointer (some ⟨B, 0, none⟩)), (10, .pointer (some ⟨pc, 0, none⟩)), (11, .slice (some ⟨nb, no, none⟩) n c2), (12, .int .i64 (k : Int)), (13, .pointer (some ⟨pv, 0, none⟩))] [3] [.eq (.pointer (some ⟨pv, 0, none⟩)), .eq (.int .u64 (v.s : Int)), .eq (.pointer (some ⟨B, 0, none⟩)), .eq (.int .u64 (m : Int)), .eq (.bool false), .eq (.bool false), .eq (.pointer (some ⟨pv, 1, none⟩)), .eq (.pointer (some ⟨pv, 1, none⟩)), .eq (.int .u64 (v.b.n : Int)), .eq (.pointer (some ⟨pc, 0, none⟩)), .eq (.int .u64 (c.n : Int)), .eq (.bool false), .eq (.bool false), .eq (.bool false), .eq (.pointer (some ⟨pv, 1, none⟩)), .eq (.pointer (some ⟨pv, 1, none⟩)), .eq (.int .u64 (v.b.n : Int)), .eq (.pointer (some ⟨pc, 0, none⟩)), .eq (.int .u64 (c.n : Int)), .eq (.bool true), .eq (.bool true), .eq (.pointer (some ⟨pv, 1, none⟩)), .eq (.pointer (some ⟨pv, 2, none⟩)), .eq (.int .i64 v.b.r), .eq (.pointer (some ⟨pc, 1, none⟩)), .eq (.int .i64 c.r), .eq (.bool false), .eq (.bool false), .eq (.bool false), .eq (.bool false), .eq (.int .i64 (k : Int)), .eq (.bool true), .eq (.bool true), .eq (.slice (some ⟨nb, no, none⟩) n c2), .eq (.int .i64 (k : Int)), .eq (.int .i64 ((k - 1 : Nat) : Int)), .eq (.pointer (some ⟨nb, no + (k - 1) * 4, none⟩)), .eq (.pointer (some ⟨nb, no + (k - 1) * 4, none⟩)), .eq (.int .u64 (s0 : Int)), .eq (.pointer (some ⟨pv, 0, none⟩)), .eq (.int .u64 (v.s : Int)), .eq (.bool false), .eq (.bool false), .eq (.bool false)] Grew Grew.refl Grew.trans follows (by kernel_rfl) (by kernel_rfl) hN ⟨h4, h10, h11, h12, h13, trivial⟩ rfl ?_ ?_ ?_ ?_
  · exact trivial
  · intro _ w' hR _
    exact ⟨fun _ => ob_fld (fdVo0 _ _ _), fun _ => ob_load (ldW6 _ _ _ ((Below.cell hR.undraw (p := ⟨pv, 0, none⟩) lv).trans x0)), fun _ => rfl, trivial, fun _ => ob_bin (guard_int _ _ _ _ _ _ _ _ _) (leqF _ _ _ hm), fun _ => rfl, fun _ => ob_fld (fdVo1 _ _ _), fun _ => ob_fld (fdBo _ _ _ _ (.inl rfl)), fun _ => ob_load (ldW6 _ _ _ ((Below.cell hR.undraw (p := ⟨pv, 1, none⟩) lv).trans x1)), fun _ => ob_fld (fdBo _ _ _ _ (.inl rfl)), fun _ => ob_load (ldW6 _ _ _ ((Below.cell hR.undraw (p := ⟨pc, 0, none⟩) lc).trans z0)), fun _ => ob_bin (guard_int _ _ _ _ _ _ _ _ _) (gtrF _ _ _ (by omega)), fun _ => ob_pick rfl rfl, fun _ => rfl, fun _ => ob_fld (fdVo1 _ _ _), fun _ => ob_fld (fdBo _ _ _ _ (.inl rfl)), fun _ => ob_load (ldW6 _ _ _ ((Below.cell hR.undraw (p := ⟨pv, 1, none⟩) lv).trans x1)), fun _ => ob_fld (fdBo _ _ _ _ (.inl rfl)), fun _ => ob_load (ldW6 _ _ _ ((Below.cell hR.undraw (p := ⟨pc, 0, none⟩) lc).trans z0)), fun _ => ob_bin (guard_int _ _ _ _ _ _ _ _ _) (eqNd _ _ _ _ _ (by simp [he])), fun _ => rfl, fun _ => ob_fld (fdVo1 _ _ _), fun _ => ob_fld (fdBo _ _ _ _ (.inr rfl)), fun _ => ob_load (ldWi _ _ _ ((Below.cell hR.undraw (p := ⟨pv, 2, none⟩) lv).trans x2)), fun _ => ob_fld (fdBo _ _ _ _ (.inr rfl)), fun _ => ob_load (ldWi _ _ _ ((Below.cell hR.undraw (p := ⟨pc, 1, none⟩) lc).trans z1)), fun _ => ob_bin (guard_int _ _ _ _ _ _ _ _ _) (gtrF _ _ _ hr), fun _ => ob_pick rfl rfl, fun _ => ob_pick rfl rfl, fun _ => rfl, fun _ => rfl, fun _ => ob_bin (guard_int _ _ _ _ _ _ _ _ _) (gtrT _ _ _ (by omega)), fun _ => rfl, fun _ => rfl, fun _ => rfl, fun _ => ob_bin (guard_int _ _ _ _ _ _ _ _ _) (subN _ _ _ hk hkm), fun _ => ob_idx (ixVo _ _ _ _ _ _ hkn), fun _ => ob_fld (fdVo0 _ _ _), fun _ => ob_load (ldW6 _ _ _ ((Below.cell hR.undraw (p := ⟨nb, no + (k - 1) * 4, none⟩) ln).trans n0)), fun _ => ob_fld (fdVo0 _ _ _), fun _ => ob_load (ldW6 _ _ _ ((Below.cell hR.undraw (p := ⟨pv, 0, none⟩) lv).trans x0)), fun _ => ob_bin (guard_int _ _ _ _ _ _ _ _ _) (geqF _ _ _ hs), fun _ => ob_pick rfl rfl, fun _ => ob_pick rfl rfl, trivial⟩
  · refine ⟨?_, trivial⟩
    · rintro o _ ho hd a' w' hF hR hp
      have hio := (nthO_eq _ _).symm.trans ho
      cases ho
      cases hd
      have q2 : a'.tmps.getD 108 undef = .pointer (some ⟨B, 0, none⟩) := hp 2 _ 108 rfl rfl rfl
      refine step_callD hio rfl rfl (enters_of Tryz.func26 (by kernel_rfl) rfl) (show Array.map a'.eval #[.tmp 108] = _ from by simp only [List.map_toArray, List.map_cons, List.map_nil, Act.eval, q2]) ((hB w' hR.undraw).mono ?_)
      rintro e w'' ⟨rfl, hb⟩
      exact ⟨_, rfl, _, rfl, rfl, hb⟩
  · intro _ w' hR _
    exact hQ  w'  hR.undraw
noncomputable def opsRj0 : List Oper := opsOf Tryz.f5 24
set_option maxRecDepth 100000 in
set_option maxHeartbeats 4000000 in
theorem rises_c0 (ab ao N ac i wb wo n wc k _ak _al _vs : Nat) (_e : Bool)  (a : Act) (w : World) (Q : Exit → Act → World → Prop) (hN : a.tmps.size = 228) (h0 : a.tmps.getD 0 undef = .slice (some ⟨ab, ao, none⟩) N ac) (h5 : a.tmps.getD 5 undef = .int .i64 (i : Int)) (h8 : a.tmps.getD 8 undef = .slice (some ⟨wb, wo, none⟩) n wc) (h9 : a.tmps.getD 9 undef = .bool false) (h14 : a.tmps.getD 14 undef = .int .i64 (k : Int))  (hQ : ∀ (w' : World), Grew w w' → Q .normal (puts [(166, .bool false), (167, .bool false), (168, undef), (169, undef), (170, undef), (171, undef), (172, undef), (173, undef), (174, undef), (175, .bool false), (176, .bool false), (177, undef), (178, undef), (179, undef), (180, undef), (181, undef), (182, undef), (183, undef), (184, undef), (185, undef), (186, undef), (187, undef), (188, .bool false), (17, .bool false)] a) w')
    : (Code.region 24 opsRj0.toArray true).wp Tryz.prog Q a w := by
  refine region_v 228 opsRj0 [(0, .slice (some ⟨ab, ao, none⟩) N ac), (5, .int .i64 (i : Int)), (8, .slice (some ⟨wb, wo, none⟩) n wc), (9, .bool false), (14, .int .i64 (k : Int))] [] [.eq (.bool false), .eq (.bool false), .eq (undef), .eq (undef), .eq (undef), .eq (undef), .eq (undef), .eq (undef), .eq (undef), .eq (.bool false), .eq (.bool false), .eq (undef), .eq (undef), .eq (undef), .eq (undef), .eq (undef), .eq (undef), .eq (undef), .eq (undef), .eq (undef), .eq (undef), .eq (undef), .eq (.bool false), .eq (.bool false)] Grew Grew.refl Grew.trans follows (by kernel_rfl) (by kernel_rfl) hN ⟨h0, h5, h8, h9, h14, trivial⟩ rfl trivial ?_ ?_ ?_
  · intro _ w' _ _
    exact ⟨fun _ => rfl, fun _ => rfl, fun _ => rfl, fun _ => rfl, fun _ => rfl, fun _ => rfl, fun _ => rfl, fun _ => rfl, fun _ => rfl, fun _ => ob_pick rfl rfl, fun _ => rfl, fun _ => rfl, fun _ => rfl, fun _ => rfl, fun _ => rfl, fun _ => rfl, fun _ => rfl, fun _ => rfl, fun _ => rfl, fun _ => rfl, fun _ => rfl, fun _ => rfl, fun _ => ob_pick rfl rfl, fun _ => rfl, trivial⟩
  · exact trivial
  · intro _ w' hR _
    exact hQ  w'  hR.undraw
noncomputable def opsRj1 : List Oper := opsOf Tryz.f5 24
set_option maxRecDepth 100000 in
set_option maxHeartbeats 4000000 in
theorem rises_c1 (ab ao N ac i wb wo n wc k ak _al _vs : Nat) (_e : Bool)  (a : Act) (w : World) (Q : Exit → Act → World → Prop) (hN : a.tmps.size = 228) (h0 : a.tmps.getD 0 undef = .slice (some ⟨ab, ao, none⟩) N ac) (h5 : a.tmps.getD 5 undef = .int .i64 (i : Int)) (h8 : a.tmps.getD 8 undef = .slice (some ⟨wb, wo, none⟩) n wc) (h9 : a.tmps.getD 9 undef = .bool true) (h14 : a.tmps.getD 14 undef = .int .i64 (k : Int)) (hi : i < N) (la : ab < w.heap.size) (hak : ak < 256) (a0 : w.cell? ⟨ab, ao + i * 6 + 0, none⟩ = some (.int .u8 (ak : Int))) (hq : ak % 3 ≠ 1) (hQ : ∀ (w' : World), Grew w w' → Q .normal (puts [(166, .bool true), (167, .bool true), (168, .slice (some ⟨ab, ao, none⟩) N ac), (169, .int .i64 (i : Int)), (170, .pointer (some ⟨ab, ao + i * 6, none⟩)), (171, .pointer (some ⟨ab, ao + i * 6 + 0, none⟩)), (172, .int .u8 (ak : Int)), (173, .int .u8 ((ak % 3 : Nat) : Int)), (174, .bool false), (175, .bool false), (176, .bool false), (177, undef), (178, undef), (179, undef), (180, undef), (181, undef), (182, undef), (183, undef), (184, undef), (185, undef), (186, undef), (187, undef), (188, .bool false), (17, .bool false)] a) w')
    : (Code.region 24 opsRj1.toArray true).wp Tryz.prog Q a w := by
  refine region_v 228 opsRj1 [(0, .slice (some ⟨ab, ao, none⟩) N ac), (5, .int .i64 (i : Int)), (8, .slice (some ⟨wb, wo, none⟩) n wc), (9, .bool true), (14, .int .i64 (k : Int))] [] [.eq (.bool true), .eq (.bool true), .eq (.slice (some ⟨ab, ao, none⟩) N ac), .eq (.int .i64 (i : Int)), .eq (.pointer (some ⟨ab, ao + i * 6, none⟩)), .eq (.pointer (some ⟨ab, ao + i * 6 + 0, none⟩)), .eq (.int .u8 (ak : Int)), .eq (.int .u8 ((ak % 3 : Nat) : Int)), .eq (.bool false), .eq (.bool false), .eq (.bool false), .eq (undef), .eq (undef), .eq (undef), .eq (undef), .eq (undef), .eq (undef), .eq (undef), .eq (undef), .eq (undef), .eq (undef), .eq (undef), .eq (.bool false), .eq (.bool false)] Grew Grew.refl Grew.trans follows (by kernel_rfl) (by kernel_rfl) hN ⟨h0, h5, h8, h9, h14, trivial⟩ rfl trivial ?_ ?_ ?_
  · intro _ w' hR _
    exact ⟨fun _ => rfl, fun _ => rfl, fun _ => rfl, fun _ => rfl, fun _ => ob_idx (ixAm _ _ _ _ _ _ hi), fun _ => ob_fld (fdAm _ _ _ _ (.inl rfl)), fun _ => ob_load (ldW8 _ _ _ ((Below.cell hR.undraw (p := ⟨ab, ao + i * 6 + 0, none⟩) la).trans a0)), fun _ => ob_bin (guard_int _ _ _ _ _ _ _ _ _) (rem8 _ _ _ hak), fun _ => ob_bin (guard_int _ _ _ _ _ _ _ _ _) (eqNd _ _ _ _ 1 (by simp [hq])), fun _ => ob_pick rfl rfl, fun _ => rfl, fun _ => rfl, fun _ => rfl, fun _ => rfl, fun _ => rfl, fun _ => rfl, fun _ => rfl, fun _ => rfl, fun _ => rfl, fun _ => rfl, fun _ => rfl, fun _ => rfl, fun _ => ob_pick rfl rfl, fun _ => rfl, trivial⟩
  · exact trivial
  · intro _ w' hR _
    exact hQ  w'  hR.undraw
noncomputable def opsRj2 : List Oper := opsOf Tryz.f5 24
set_option maxRecDepth 100000 in
set_option maxHeartbeats 4000000 in
theorem rises_c2 (ab ao N ac i wb wo n wc k ak al vs : Nat) (e : Bool)  (a : Act) (w : World) (Q : Exit → Act → World → Prop) (hN : a.tmps.size = 228) (h0 : a.tmps.getD 0 undef = .slice (some ⟨ab, ao, none⟩) N ac) (h5 : a.tmps.getD 5 undef = .int .i64 (i : Int)) (h8 : a.tmps.getD 8 undef = .slice (some ⟨wb, wo, none⟩) n wc) (h9 : a.tmps.getD 9 undef = .bool true) (h14 : a.tmps.getD 14 undef = .int .i64 (k : Int)) (hi : i < N) (la : ab < w.heap.size) (hak : ak < 256) (a0 : w.cell? ⟨ab, ao + i * 6 + 0, none⟩ = some (.int .u8 (ak : Int))) (hq : ak % 3 = 1) (hk : k < n) (lw : wb < w.heap.size) (a2 : w.cell? ⟨ab, ao + i * 6 + 2, none⟩ = some (.int .u64 (al : Int))) (v0 : w.cell? ⟨wb, wo + k * 4, none⟩ = some (.int .u64 (vs : Int))) (he : e = decide (al = vs)) (hQ : ∀ (w' : World), Grew w w' → Q .normal (puts [(166, .bool true), (167, .bool true), (168, .slice (some ⟨ab, ao, none⟩) N ac), (169, .int .i64 (i : Int)), (170, .pointer (some ⟨ab, ao + i * 6, none⟩)), (171, .pointer (some ⟨ab, ao + i * 6 + 0, none⟩)), (172, .int .u8 (ak : Int)), (173, .int .u8 ((ak % 3 : Nat) : Int)), (174, .bool true), (175, .bool true), (176, .bool true), (177, .slice (some ⟨ab, ao, none⟩) N ac), (178, .int .i64 (i : Int)), (179, .pointer (some ⟨ab, ao + i * 6, none⟩)), (180, .pointer (some ⟨ab, ao + i * 6 + 2, none⟩)), (181, .int .u64 (al : Int)), (182, .slice (some ⟨wb, wo, none⟩) n wc), (183, .int .i64 (k : Int)), (184, .pointer (some ⟨wb, wo + k * 4, none⟩)), (185, .pointer (some ⟨wb, wo + k * 4, none⟩)), (186, .int .u64 (vs : Int)), (187, .bool e), (188, .bool e), (17, .bool e)] a) w')
    : (Code.region 24 opsRj2.toArray true).wp Tryz.prog Q a w := by
  refine region_v 228 opsRj2 [(0, .slice (some ⟨ab, ao, none⟩) N ac), (5, .int .i64 (i : Int)), (8, .slice (some ⟨wb, wo, none⟩) n wc), (9, .bool true), (14, .int .i64 (k : Int))] [] [.eq (.bool true), .eq (.bool true), .eq (.slice (some ⟨ab, ao, none⟩) N ac), .eq (.int .i64 (i : Int)), .eq (.pointer (some ⟨ab, ao + i * 6, none⟩)), .eq (.pointer (some ⟨ab, ao + i * 6 + 0, none⟩)), .eq (.int .u8 (ak : Int)), .eq (.int .u8 ((ak % 3 : Nat) : Int)), .eq (.bool true), .eq (.bool true), .eq (.bool true), .eq (.slice (some ⟨ab, ao, none⟩) N ac), .eq (.int .i64 (i : Int)), .eq (.pointer (some ⟨ab, ao + i * 6, none⟩)), .eq (.pointer (some ⟨ab, ao + i * 6 + 2, none⟩)), .eq (.int .u64 (al : Int)), .eq (.slice (some ⟨wb, wo, none⟩) n wc), .eq (.int .i64 (k : Int)), .eq (.pointer (some ⟨wb, wo + k * 4, none⟩)), .eq (.pointer (some ⟨wb, wo + k * 4, none⟩)), .eq (.int .u64 (vs : Int)), .eq (.bool e), .eq (.bool e), .eq (.bool e)] Grew Grew.refl Grew.trans follows (by kernel_rfl) (by kernel_rfl) hN ⟨h0, h5, h8, h9, h14, trivial⟩ rfl trivial ?_ ?_ ?_
  · intro _ w' hR _
    exact ⟨fun _ => rfl, fun _ => rfl, fun _ => rfl, fun _ => rfl, fun _ => ob_idx (ixAm _ _ _ _ _ _ hi), fun _ => ob_fld (fdAm _ _ _ _ (.inl rfl)), fun _ => ob_load (ldW8 _ _ _ ((Below.cell hR.undraw (p := ⟨ab, ao + i * 6 + 0, none⟩) la).trans a0)), fun _ => ob_bin (guard_int _ _ _ _ _ _ _ _ _) (rem8 _ _ _ hak), fun _ => ob_bin (guard_int _ _ _ _ _ _ _ _ _) (eqNd _ _ _ _ 1 (by simp [hq])), fun _ => ob_pick rfl rfl, fun _ => rfl, fun _ => rfl, fun _ => rfl, fun _ => ob_idx (ixAm _ _ _ _ _ _ hi), fun _ => ob_fld (fdAm _ _ _ _ (.inr rfl)), fun _ => ob_load (ldW6 _ _ _ ((Below.cell hR.undraw (p := ⟨ab, ao + i * 6 + 2, none⟩) la).trans a2)), fun _ => rfl, fun _ => rfl, fun _ => ob_idx (ixVo _ _ _ _ _ _ hk), fun _ => ob_fld (fdVo0 _ _ _), fun _ => ob_load (ldW6 _ _ _ ((Below.cell hR.undraw (p := ⟨wb, wo + k * 4, none⟩) lw).trans v0)), fun _ => ob_bin (guard_int _ _ _ _ _ _ _ _ _) (eqNd _ _ _ _ _ he), fun _ => ob_pick rfl rfl, fun _ => rfl, trivial⟩
  · exact trivial
  · intro _ w' hR _
    exact hQ  w'  hR.undraw
noncomputable def opsRk0 : List Oper := opsOf Tryz.f5 25
set_option maxRecDepth 100000 in
set_option maxHeartbeats 4000000 in
theorem rises_w0 (B wb wo n wc k m pv _e _f : Nat) (v : VM) (_X _Y : Option Addr) (d1 d2 : Bool)  (a : Act) (w : World) (Q : Exit → Act → World → Prop) (hN : a.tmps.size = 228) (h4 : a.tmps.getD 4 undef = .pointer (some ⟨B, 0, none⟩)) (h8 : a.tmps.getD 8 undef = .slice (some ⟨wb, wo, none⟩) n wc) (h14 : a.tmps.getD 14 undef = .int .i64 (k : Int)) (h15 : a.tmps.getD 15 undef = .pointer (some ⟨pv, 0, none⟩)) (h16 : a.tmps.getD 16 undef = .bool d1) (h17 : a.tmps.getD 17 undef = .bool d2) (hk : k < n) (lw : wb < w.heap.size) (v0 : w.cell? ⟨wb, wo + k * 4, none⟩ = some (.int .u64 (v.s : Int))) (hB : ∀ w', Grew w w' → Calls Tryz.prog 26 #[.pointer (some ⟨B, 0, none⟩)] w' fun e W' => e = .returned (.int .u64 (m : Int)) ∧ Grew w' W') (hm : v.s ≤ m) (hQ : ∀ (w' : World), Grew w w' → Q .normal (puts [(189, .slice (some ⟨wb, wo, none⟩) n wc), (190, .int .i64 (k : Int)), (191, .pointer (some ⟨wb, wo + k * 4, none⟩)), (192, .pointer (some ⟨wb, wo + k * 4, none⟩)), (193, .int .u64 (v.s : Int)), (194, .pointer (some ⟨B, 0, none⟩)), (195, .int .u64 (m : Int)), (196, .bool false), (197, .bool false), (198, undef), (199, undef), (200, undef), (201, undef), (202, undef), (203, undef), (204, undef), (205, undef), (206, undef), (207, undef), (208, undef), (209, undef), (210, undef), (211, undef), (212, undef), (213, undef), (214, undef), (215, undef), (216, undef), (217, undef), (218, undef), (219, undef), (220, undef), (221, undef), (222, undef), (223, undef), (224, undef), (225, undef), (226, .bool false)] a) w')
    : (Code.region 25 opsRk0.toArray true).wp Tryz.prog Q a w := by
  refine region_v 228 opsRk0 [(4, .pointer (some ⟨B, 0, none⟩)), (8, .slice (some ⟨wb, wo, none⟩) n wc), (14, .int .i64 (k : Int)), (15, .pointer (some ⟨pv, 0, none⟩)), (16, .bool d1), (17, .bool d2)] [6] [.eq (.slice (some ⟨wb, wo, none⟩) n wc), .eq (.int .i64 (k : Int)), .eq (.pointer (some ⟨wb, wo + k * 4, none⟩)), .eq (.pointer (some ⟨wb, wo + k * 4, none⟩)), .eq (.int .u64 (v.s : Int)), .eq (.pointer (some ⟨B, 0, none⟩)), .eq (.int .u64 (m : Int)), .eq (.bool false), .eq (.bool false), .eq (undef), .eq (undef), .eq (undef), .eq (undef), .eq (undef), .eq (undef), .eq (undef), .eq (undef), .eq (undef), .eq (undef), .eq (undef), .eq (undef), .eq (undef), .eq (undef), .eq (undef), .eq (undef), .eq (undef), .eq (undef), .eq (undef), .eq (undef), .eq (undef), .eq (undef), .eq (undef), .eq (undef), .eq (undef), .eq (undef), .eq (undef), .eq (undef), .eq (.bool false)] Grew Grew.refl Grew.trans follows (by kernel_rfl) (by kernel_rfl) hN ⟨h4, h8, h14, h15, h16, h17, trivial⟩ rfl ?_ ?_ ?_ ?_
  · exact trivial
  · intro _ w' hR _
    exact ⟨fun _ => rfl, fun _ => rfl, fun _ => ob_idx (ixVo _ _ _ _ _ _ hk), fun _ => ob_fld (fdVo0 _ _ _), fun _ => ob_load (ldW6 _ _ _ ((Below.cell hR.undraw (p := ⟨wb, wo + k * 4, none⟩) lw).trans v0)), fun _ => rfl, trivial, fun _ => ob_bin (guard_int _ _ _ _ _ _ _ _ _) (gtrF _ _ _ (by omega)), fun _ => rfl, fun _ => rfl, fun _ => rfl, fun _ => rfl, fun _ => ⟨rfl, rfl⟩, fun _ => ⟨rfl, rfl⟩, fun _ => ⟨rfl, rfl⟩, fun _ => ⟨rfl, rfl⟩, fun _ => ⟨rfl, rfl⟩, fun _ => ⟨rfl, rfl⟩, fun _ => ⟨rfl, rfl⟩, fun _ => ⟨rfl, rfl⟩, fun _ => ⟨rfl, rfl⟩, fun _ => ⟨rfl, rfl⟩, fun _ => ⟨rfl, rfl⟩, fun _ => ⟨rfl, rfl⟩, fun _ => ⟨rfl, rfl⟩, fun _ => ⟨rfl, rfl⟩, fun _ => ⟨rfl, rfl⟩, fun _ => ⟨rfl, rfl⟩, fun _ => ⟨rfl, rfl⟩, fun _ => ⟨rfl, rfl⟩, fun _ => ⟨rfl, rfl⟩, fun _ => ⟨rfl, rfl⟩, fun _ => ⟨rfl, rfl⟩, fun _ => ⟨rfl, rfl⟩, fun _ => ⟨rfl, rfl⟩, fun _ => ⟨rfl, rfl⟩, fun _ => rfl, fun _ => ob_pick rfl rfl, trivial⟩
  · refine ⟨?_, trivial⟩
    · rintro o _ ho hd a' w' hF hR hp
      have hio := (nthO_eq _ _).symm.trans ho
      cases ho
      cases hd
      have q5 : a'.tmps.getD 194 undef = .pointer (some ⟨B, 0, none⟩) := hp 5 _ 194 rfl rfl rfl
      refine step_callD hio rfl rfl (enters_of Tryz.func26 (by kernel_rfl) rfl) (show Array.map a'.eval #[.tmp 194] = _ from by simp only [List.map_toArray, List.map_cons, List.map_nil, Act.eval, q5]) ((hB w' hR.undraw).mono ?_)
      rintro e w'' ⟨rfl, hb⟩
      exact ⟨_, rfl, _, rfl, rfl, hb⟩
  · intro _ w' hR _
    exact hQ  w'  hR.undraw
noncomputable def opsRk1 : List Oper := opsOf Tryz.f5 25
set_option maxRecDepth 100000 in
set_option maxHeartbeats 4000000 in
theorem rises_w1 (B wb wo n wc k m pv _e _f : Nat) (v : VM) (_X _Y : Option Addr) (_d1 _d2 : Bool)  (a : Act) (w : World) (Q : Exit → Act → World → Prop) (hN : a.tmps.size = 228) (h4 : a.tmps.getD 4 undef = .pointer (some ⟨B, 0, none⟩)) (h8 : a.tmps.getD 8 undef = .slice (some ⟨wb, wo, none⟩) n wc) (h14 : a.tmps.getD 14 undef = .int .i64 (k : Int)) (h15 : a.tmps.getD 15 undef = .pointer (some ⟨pv, 0, none⟩)) (h16 : a.tmps.getD 16 undef = .bool true) (h17 : a.tmps.getD 17 undef = .bool true) (hk : k < n) (lw : wb < w.heap.size) (v0 : w.cell? ⟨wb, wo + k * 4, none⟩ = some (.int .u64 (v.s : Int))) (hB : ∀ w', Grew w w' → Calls Tryz.prog 26 #[.pointer (some ⟨B, 0, none⟩)] w' fun e W' => e = .returned (.int .u64 (m : Int)) ∧ Grew w' W') (hm : m < v.s) (hQ : ∀ (w' : World), Grew w w' → Q .normal (puts [(189, .slice (some ⟨wb, wo, none⟩) n wc), (190, .int .i64 (k : Int)), (191, .pointer (some ⟨wb, wo + k * 4, none⟩)), (192, .pointer (some ⟨wb, wo + k * 4, none⟩)), (193, .int .u64 (v.s : Int)), (194, .pointer (some ⟨B, 0, none⟩)), (195, .int .u64 (m : Int)), (196, .bool true), (197, .bool true), (198, .bool true), (199, .bool false), (200, .bool false), (201, .bool true), (202, .bool false), (203, .bool false), (204, undef), (205, undef), (206, undef), (207, undef), (208, undef), (209, undef), (210, undef), (211, undef), (212, undef), (213, undef), (214, undef), (215, undef), (216, undef), (217, undef), (218, undef), (219, undef), (220, undef), (221, undef), (222, undef), (223, undef), (224, .bool false), (225, .bool false), (226, .bool false)] a) w')
    : (Code.region 25 opsRk1.toArray true).wp Tryz.prog Q a w := by
  refine region_v 228 opsRk1 [(4, .pointer (some ⟨B, 0, none⟩)), (8, .slice (some ⟨wb, wo, none⟩) n wc), (14, .int .i64 (k : Int)), (15, .pointer (some ⟨pv, 0, none⟩)), (16, .bool true), (17, .bool true)] [6] [.eq (.slice (some ⟨wb, wo, none⟩) n wc), .eq (.int .i64 (k : Int)), .eq (.pointer (some ⟨wb, wo + k * 4, none⟩)), .eq (.pointer (some ⟨wb, wo + k * 4, none⟩)), .eq (.int .u64 (v.s : Int)), .eq (.pointer (some ⟨B, 0, none⟩)), .eq (.int .u64 (m : Int)), .eq (.bool true), .eq (.bool true), .eq (.bool true), .eq (.bool false), .eq (.bool false), .eq (.bool true), .eq (.bool false), .eq (.bool false), .eq (undef), .eq (undef), .eq (undef), .eq (undef), .eq (undef), .eq (undef), .eq (undef), .eq (undef), .eq (undef), .eq (undef), .eq (undef), .eq (undef), .eq (undef), .eq (undef), .eq (undef), .eq (undef), .eq (undef), .eq (undef), .eq (undef), .eq (undef), .eq (.bool false), .eq (.bool false), .eq (.bool false)] Grew Grew.refl Grew.trans follows (by kernel_rfl) (by kernel_rfl) hN ⟨h4, h8, h14, h15, h16, h17, trivial⟩ rfl ?_ ?_ ?_ ?_
  · exact trivial
  · intro _ w' hR _
    exact ⟨fun _ => rfl, fun _ => rfl, fun _ => ob_idx (ixVo _ _ _ _ _ _ hk), fun _ => ob_fld (fdVo0 _ _ _), fun _ => ob_load (ldW6 _ _ _ ((Below.cell hR.undraw (p := ⟨wb, wo + k * 4, none⟩) lw).trans v0)), fun _ => rfl, trivial, fun _ => ob_bin (guard_int _ _ _ _ _ _ _ _ _) (gtrT _ _ _ (by omega)), fun _ => rfl, fun _ => rfl, fun _ => ob_un (run_not _ _), fun _ => rfl, fun _ => rfl, fun _ => ob_un (run_not _ _), fun _ => rfl, fun _ => rfl, fun _ => rfl, fun _ => rfl, fun _ => rfl, fun _ => rfl, fun _ => rfl, fun _ => rfl, fun _ => rfl, fun _ => rfl, fun _ => ⟨rfl, rfl⟩, fun _ => ⟨rfl, rfl⟩, fun _ => ⟨rfl, rfl⟩, fun _ => ⟨rfl, rfl⟩, fun _ => ⟨rfl, rfl⟩, fun _ => ⟨rfl, rfl⟩, fun _ => ⟨rfl, rfl⟩, fun _ => ⟨rfl, rfl⟩, fun _ => ⟨rfl, rfl⟩, fun _ => ⟨rfl, rfl⟩, fun _ => rfl, fun _ => ob_pick rfl rfl, fun _ => ob_pick rfl rfl, fun _ => ob_pick rfl rfl, trivial⟩
  · refine ⟨?_, trivial⟩
    · rintro o _ ho hd a' w' hF hR hp
      have hio := (nthO_eq _ _).symm.trans ho
      cases ho
      cases hd
      have q5 : a'.tmps.getD 194 undef = .pointer (some ⟨B, 0, none⟩) := hp 5 _ 194 rfl rfl rfl
      refine step_callD hio rfl rfl (enters_of Tryz.func26 (by kernel_rfl) rfl) (show Array.map a'.eval #[.tmp 194] = _ from by simp only [List.map_toArray, List.map_cons, List.map_nil, Act.eval, q5]) ((hB w' hR.undraw).mono ?_)
      rintro e w'' ⟨rfl, hb⟩
      exact ⟨_, rfl, _, rfl, rfl, hb⟩
  · intro _ w' hR _
    exact hQ  w'  hR.undraw
noncomputable def opsRk2 : List Oper := opsOf Tryz.f5 25
set_option maxRecDepth 100000 in
set_option maxHeartbeats 4000000 in
theorem rises_w2 (B wb wo n wc k m pv e f : Nat) (v : VM) (X Y : Option Addr) (_d1 _d2 : Bool)  (a : Act) (w : World) (Q : Exit → Act → World → Prop) (hN : a.tmps.size = 228) (h4 : a.tmps.getD 4 undef = .pointer (some ⟨B, 0, none⟩)) (h8 : a.tmps.getD 8 undef = .slice (some ⟨wb, wo, none⟩) n wc) (h14 : a.tmps.getD 14 undef = .int .i64 (k : Int)) (h15 : a.tmps.getD 15 undef = .pointer (some ⟨pv, 0, none⟩)) (h16 : a.tmps.getD 16 undef = .bool true) (h17 : a.tmps.getD 17 undef = .bool false) (hk : k < n) (lw : wb < w.heap.size) (v0 : w.cell? ⟨wb, wo + k * 4, none⟩ = some (.int .u64 (v.s : Int))) (hB : ∀ w', Grew w w' → Calls Tryz.prog 26 #[.pointer (some ⟨B, 0, none⟩)] w' fun e W' => e = .returned (.int .u64 (m : Int)) ∧ Grew w' W') (hm : m < v.s) (lv : pv < w.heap.size) (x1 : w.cell? ⟨pv, 1, none⟩ = some (.int .u64 (v.b.n : Int))) (x2 : w.cell? ⟨pv, 2, none⟩ = some (.int .i64 v.b.r)) (x3 : w.cell? ⟨pv, 0 + 3, none⟩ = some (.slice X v.x.length e)) (gx : HasA w w.heap.size X v.x) (v1 : w.cell? ⟨wb, wo + k * 4 + 1, none⟩ = some (.int .u64 (v.b.n : Int))) (v2 : w.cell? ⟨wb, wo + k * 4 + 1 + 1, none⟩ = some (.int .i64 v.b.r)) (v3 : w.cell? ⟨wb, wo + k * 4 + 3, none⟩ = some (.slice Y v.x.length f)) (gy : HasA w w.heap.size Y v.x) (hQ : ∀ (w' : World), Grew w w' → Q .normal (puts [(189, .slice (some ⟨wb, wo, none⟩) n wc), (190, .int .i64 (k : Int)), (191, .pointer (some ⟨wb, wo + k * 4, none⟩)), (192, .pointer (some ⟨wb, wo + k * 4, none⟩)), (193, .int .u64 (v.s : Int)), (194, .pointer (some ⟨B, 0, none⟩)), (195, .int .u64 (m : Int)), (196, .bool true), (197, .bool true), (198, .bool true), (199, .bool false), (200, .bool false), (201, .bool false), (202, .bool true), (203, .bool true), (204, .pointer (some ⟨pv, 1, none⟩)), (205, .agg #[.int .u64 (v.b.n : Int), .int .i64 v.b.r]), (206, .slice (some ⟨wb, wo, none⟩) n wc), (207, .int .i64 (k : Int)), (208, .pointer (some ⟨wb, wo + k * 4, none⟩)), (209, .pointer (some ⟨wb, wo + k * 4 + 1, none⟩)), (210, .agg #[.int .u64 (v.b.n : Int), .int .i64 v.b.r]), (211, .bool false), (212, .bool false), (213, .pointer (some ⟨pv, 0 + 3, none⟩)), (214, .slice X v.x.length e), (215, .string (str v.x)), (216, .slice (some ⟨wb, wo, none⟩) n wc), (217, .int .i64 (k : Int)), (218, .pointer (some ⟨wb, wo + k * 4, none⟩)), (219, .pointer (some ⟨wb, wo + k * 4 + 3, none⟩)), (220, .slice Y v.x.length f), (221, .string (str v.x)), (222, .bool false), (223, .bool false), (224, .bool false), (225, .bool false), (226, .bool false)] a) w')
    : (Code.region 25 opsRk2.toArray true).wp Tryz.prog Q a w := by
  refine region_v 228 opsRk2 [(4, .pointer (some ⟨B, 0, none⟩)), (8, .slice (some ⟨wb, wo, none⟩) n wc), (14, .int .i64 (k : Int)), (15, .pointer (some ⟨pv, 0, none⟩)), (16, .bool true), (17, .bool false)] [6] [.eq (.slice (some ⟨wb, wo, none⟩) n wc), .eq (.int .i64 (k : Int)), .eq (.pointer (some ⟨wb, wo + k * 4, none⟩)), .eq (.pointer (some ⟨wb, wo + k * 4, none⟩)), .eq (.int .u64 (v.s : Int)), .eq (.pointer (some ⟨B, 0, none⟩)), .eq (.int .u64 (m : Int)), .eq (.bool true), .eq (.bool true), .eq (.bool true), .eq (.bool false), .eq (.bool false), .eq (.bool false), .eq (.bool true), .eq (.bool true), .eq (.pointer (some ⟨pv, 1, none⟩)), .eq (.agg #[.int .u64 (v.b.n : Int), .int .i64 v.b.r]), .eq (.slice (some ⟨wb, wo, none⟩) n wc), .eq (.int .i64 (k : Int)), .eq (.pointer (some ⟨wb, wo + k * 4, none⟩)), .eq (.pointer (some ⟨wb, wo + k * 4 + 1, none⟩)), .eq (.agg #[.int .u64 (v.b.n : Int), .int .i64 v.b.r]), .eq (.bool false), .eq (.bool false), .eq (.pointer (some ⟨pv, 0 + 3, none⟩)), .eq (.slice X v.x.length e), .eq (.string (str v.x)), .eq (.slice (some ⟨wb, wo, none⟩) n wc), .eq (.int .i64 (k : Int)), .eq (.pointer (some ⟨wb, wo + k * 4, none⟩)), .eq (.pointer (some ⟨wb, wo + k * 4 + 3, none⟩)), .eq (.slice Y v.x.length f), .eq (.string (str v.x)), .eq (.bool false), .eq (.bool false), .eq (.bool false), .eq (.bool false), .eq (.bool false)] Grew Grew.refl Grew.trans follows (by kernel_rfl) (by kernel_rfl) hN ⟨h4, h8, h14, h15, h16, h17, trivial⟩ rfl ?_ ?_ ?_ ?_
  · exact trivial
  · intro _ w' hR _
    exact ⟨fun _ => rfl, fun _ => rfl, fun _ => ob_idx (ixVo _ _ _ _ _ _ hk), fun _ => ob_fld (fdVo0 _ _ _), fun _ => ob_load (ldW6 _ _ _ ((Below.cell hR.undraw (p := ⟨wb, wo + k * 4, none⟩) lw).trans v0)), fun _ => rfl, trivial, fun _ => ob_bin (guard_int _ _ _ _ _ _ _ _ _) (gtrT _ _ _ (by omega)), fun _ => rfl, fun _ => rfl, fun _ => ob_un (run_not _ _), fun _ => rfl, fun _ => rfl, fun _ => ob_un (run_not _ _), fun _ => rfl, fun _ => ob_fld (fdVo1 _ _ _), fun _ => ob_load (ldBA _ _ _ _ _ ((Below.cell hR.undraw (p := ⟨pv, 1, none⟩) lv).trans x1) ((Below.cell hR.undraw (p := ⟨pv, 2, none⟩) lv).trans x2)), fun _ => rfl, fun _ => rfl, fun _ => ob_idx (ixVo _ _ _ _ _ _ hk), fun _ => ob_fld (fdVo1 _ _ _), fun _ => ob_load (ldBA _ _ _ _ _ ((Below.cell hR.undraw (p := ⟨wb, wo + k * 4 + 1, none⟩) lw).trans v1) ((Below.cell hR.undraw (p := ⟨wb, wo + k * 4 + 1 + 1, none⟩) lw).trans v2)), fun _ => ob_bin (guardBa _ _ _ _ _ _) (neBf _ rfl), fun _ => rfl, fun _ => ob_fld (fdVo2 _ _ _), fun _ => ob_load (ldWb _ _ _ ((Below.cell hR.undraw (p := ⟨pv, 0 + 3, none⟩) lv).trans x3)), fun _ => ob_cv (run_conv (HasA.below' gx hR.undraw) _ Tryz.underlying39 Tryz.underlying5 Tryz.underlying9 rfl), fun _ => rfl, fun _ => rfl, fun _ => ob_idx (ixVo _ _ _ _ _ _ hk), fun _ => ob_fld (fdVo2 _ _ _), fun _ => ob_load (ldWb _ _ _ ((Below.cell hR.undraw (p := ⟨wb, wo + k * 4 + 3, none⟩) lw).trans v3)), fun _ => ob_cv (run_conv (HasA.below' gy hR.undraw) _ Tryz.underlying39 Tryz.underlying5 Tryz.underlying9 rfl), fun _ => ob_bin (guard_str _ _ _ _ _ _ _) (neSf _ rfl), fun _ => ob_pick rfl rfl, fun _ => ob_pick rfl rfl, fun _ => ob_pick rfl rfl, fun _ => ob_pick rfl rfl, trivial⟩
  · refine ⟨?_, trivial⟩
    · rintro o _ ho hd a' w' hF hR hp
      have hio := (nthO_eq _ _).symm.trans ho
      cases ho
      cases hd
      have q5 : a'.tmps.getD 194 undef = .pointer (some ⟨B, 0, none⟩) := hp 5 _ 194 rfl rfl rfl
      refine step_callD hio rfl rfl (enters_of Tryz.func26 (by kernel_rfl) rfl) (show Array.map a'.eval #[.tmp 194] = _ from by simp only [List.map_toArray, List.map_cons, List.map_nil, Act.eval, q5]) ((hB w' hR.undraw).mono ?_)
      rintro e w'' ⟨rfl, hb⟩
      exact ⟨_, rfl, _, rfl, rfl, hb⟩
  · intro _ w' hR _
    exact hQ  w'  hR.undraw
end Go.Proofs.YtdiihaeelcbjbaaGreatDoor

-- StRi
namespace Go.Proofs.YtdiihaeelcbjbaaGreatDoor
open Go.RowKit

/-- Votes that lie apart from what changes. -/
theorem HasVM.only {base : Nat} {w W : World} {A : Option Addr} {l : List VM} {Z : Nat → Prop} (h : HasVM base w A l) (o : Only Z w W) (hZ : ∀ k, base ≤ k → k < w.heap.size → ¬ Z k) : HasVM base W A l := fun hl => by
  obtain ⟨b, q, e, h0, h1, h2⟩ := h hl
  have hk := o.block b h1 (hZ b h0 h1)
  refine ⟨b, q, e, h0, Nat.lt_of_lt_of_le h1 o.size, fun j hj => ?_⟩
  obtain ⟨y, L, c0, c1, c2, c3, ho⟩ := h2 j hj
  have up : ∀ (p : Nat) (v : Value), w.cell? ⟨b, p, none⟩ = some v → W.cell? ⟨b, p, none⟩ = some v := fun p v hv => (World.cell?_of_block hk).trans hv
  exact ⟨y, L, up _ _ c0, up _ _ c1, up _ _ c2, up _ _ c3, ho.only o hZ⟩
/-- A store behind i sets of at most 200 bytes each. -/
structure SetsI {P : DiskK} (K : StabK P) (w : World) (R B : Nat) (Q : Nat → Prop) (i : Nat) (d : DS) (s : SM) (W : World) : Prop where
  live : LiveT K w R B d s Q W
  dead : d.dead = false
  f : d.f = none
  len : d.A.length ≤ 300 * i
  vs : s.vs.length ≤ i
section
variable {P : DiskK} {K : StabK P} {w W W' : World} {R B i : Nat} {d : DS} {s : SM} {Q : Nat → Prop} {a : AcM}
theorem um_x (a : AcM) : a.um.x.length ≤ a.x.length := by
  unfold AcM.um
  split
  · exact Nat.zero_le _
  · split <;> exact Nat.le_refl _
theorem on_d (ha : a.ok) (hx : a.x.length ≤ 200) (hd : d.dead = false) (hf : d.f = none) : (s.on d a.um).1.1.dead = false ∧ (s.on d a.um).1.1.f = none ∧ (s.on d a.um).1.1.A.length ≤ d.A.length + 300 ∧ (s.on d a.um).1.1.y = d.y := by
  by_cases hm : s.may a.um = 0
  · have hu := AcM.um_ok ha (by omega)
    have h1 := frm_small hu (may_fit hm)
    have h2 := um_x a
    rw [SM.on_put hm hu hd hf]
    refine ⟨hd, hf, ?_, rfl⟩
    show (d.A ++ frm (bytesUM a.um)).length ≤ _
    rw [List.length_append]
    omega
  · rw [SM.on_not hm]
    exact ⟨hd, hf, Nat.le_add_right _ _, rfl⟩
theorem SetsI.grew (h : SetsI K w R B Q i d s W) (hb : Below W.heap.size W W') : SetsI K w R B Q i d s W' := ⟨h.live.grew hb, h.dead, h.f, h.len, h.vs⟩
theorem SetsI.more (h : SetsI K w R B Q i d s W) (hb : Below W.heap.size W W') {Z : Nat → Prop} (h1 : ∀ k, Z k → W.heap.size ≤ k) (h2 : ∀ k, Z k → k < W'.heap.size) : SetsI K w R B (fun k => Z k ∨ Q k) i d s W' := ⟨h.live.more hb h1 h2, h.dead, h.f, h.len, h.vs⟩
theorem SetsI.less (h : SetsI K w R B Q i d s W) {Q' : Nat → Prop} (hq : ∀ k, Q' k → Q k) : SetsI K w R B Q' i d s W := ⟨h.live.less hq, h.dead, h.f, h.len, h.vs⟩
theorem SetsI.tell (h : SetsI K w R B Q i d s W) (hi : i ≤ 200) : TellS K B s W := h.live.tell (by have := h.vs; omega)
theorem SetsI.new (h : LiveT K w R B (dW [] 0) SM.new Q W) : SetsI K w R B Q 0 (dW [] 0) SM.new W := ⟨h, rfl, rfl, Nat.le_refl 0, Nat.le_refl 0⟩
/-- One more set. -/
theorem SetsI.set (h : SetsI K w R B Q i d s W) (hT : Tab w) (hi : i ≤ 200) (ha : a.ok) (A : Option Addr) (c : Nat) (hc : a.x.length ≤ c) (hx : a.x.length ≤ 200) (hA : HasA W W.heap.size A a.x) :
    Calls Tryz.prog 20 #[.pointer (some ⟨B, 0, none⟩), a.val A c] W fun e W' => e = .returned (.bool (decide ((s.on d a.um).2 = 0))) ∧ SetsI K w R B Q (i + 1) (s.on d a.um).1.1 (s.on d a.um).1.2 W' ∧ ∃ Z, Only Z W W' ∧ ∀ k, Z k → w.heap.size ≤ k ∧ ¬ Q k := by
  obtain ⟨d1, d2, d3, _⟩ := on_d (s := s) ha hx h.dead h.f
  have h1 := h.vs
  have h2 := h.len
  refine (set_any h.live hT ha A c hc (by omega) hA (by omega) (by omega)).mono ?_
  rintro e W' ⟨he, hl, hz⟩
  have h3 := on_len s d a.um
  exact ⟨he, ⟨hl, d1, d2, by omega, by omega⟩, hz⟩
end
end Go.Proofs.YtdiihaeelcbjbaaGreatDoor
