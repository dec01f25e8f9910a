/- The program's closures on a disk: Sync, Fuse, Cut; fail. -/
import Derived.Test.YteiednjhliobeaaDq
import Derived.Deep.DeepCutAuto
import Derived.Deep.RegionHeld3
namespace Go.Proofs.Yteiednjhliobeaa
open Go.RowKit

section
variable {w w' : World} {R c : Nat} {A : Option Addr} {s : DS}
theorem DQ.moved (h : DQ w R A c s) (s' : DS) (hb : w'.heap[R]? = some (.cells #[.slice A s.A.length c, .int .i64 (s'.y : Int), .bool s'.dead, .bool s'.f.isSome, .int .i64 ((s'.f.getD 0 : Nat) : Int)] 38 (0, 0))) (hA : s'.A = s.A) (hy : s'.y ≤ s.A.length) (hf : s'.f.getD 0 ≤ 9223372036854775807)
    (ho : Only (fun k => k = R) w w') : DQ w' R A c s' := by
  refine ⟨by rw [hA]; exact hb, ?_, by rw [hA]; exact hy, by rw [hA]; exact h.ln, hf⟩
  rw [hA]
  exact ho.own h.own (fun k hk => h.ne hk)
end

theorem run_uptoD (w : World) (A : Option Addr) (L c N : Nat) (h : N ≤ c) (hc : N ≤ 1000000000) : (Instr.sliceAt 27 (.slice A L c) none (some (.int .i64 (N : Int))) none).run Try.prog w = .ok (.slice A N c) w := by
  have h1 : (N : Int) ≤ c := by omega
  cases A <;> simp [go_sem, h1]

set_option maxHeartbeats 2000000 in
theorem l_fail {w : World} {R c : Nat} {A : Option Addr} {s : DS} (h : DQ w R A c s) :
    Calls Try.prog 24 #[.pointer (some ⟨R, 0, none⟩)] w fun e w' => e = .returned (.tuple #[]) ∧ DQ w' R A c { s with dead := true, f := none } ∧ Only (fun k => k = R) w w' := by
  have f2 := blk_cell h.blk 2
  have f3 := blk_cell h.blk 3
  have f4 := blk_cell h.blk 4
  simp at f2 f3 f4
  have z2 := blk_frozen h.blk 2
  have z3 := blk_frozen h.blk 3
  have z4 := blk_frozen h.blk 4
  have HL := Lib.hid h
  clear h
  go_enter Try.func24, Try.ntmps24
  go_wp2
  have hq : DQ (((w.setCell ⟨R, 2, none⟩ (.bool true)).setCell ⟨R, 3, none⟩ (.bool false)).setCell ⟨R, 4, none⟩ (.int .i64 0)) R A c { s with dead := true, f := none } ∧ Only (fun k => k = R) w (((w.setCell ⟨R, 2, none⟩ (.bool true)).setCell ⟨R, 3, none⟩ (.bool false)).setCell ⟨R, 4, none⟩ (.int .i64 0)) := by
    have ho := (((Only.refl (fun k => k = R) w).setCell (p := ⟨R, 2, none⟩) (.inl rfl) (.bool true)).setCell (p := ⟨R, 3, none⟩) (.inl rfl) (.bool false)).setCell (p := ⟨R, 4, none⟩) (.inl rfl) (.int .i64 0)
    exact ⟨HL.out.moved { s with dead := true, f := none } ((blk_set (blk_set (blk_set HL.out.blk 2 _) 3 _) 4 _).trans rfl) rfl HL.out.sy (by simp) ho, ho⟩
  have HQ := Lib.hid hq
  obtain ⟨W2, hW2⟩ : ∃ W2, W2 = ((w.setCell ⟨R, 2, none⟩ (.bool true)).setCell ⟨R, 3, none⟩ (.bool false)).setCell ⟨R, 4, none⟩ (.int .i64 0) := ⟨_, rfl⟩
  rw [← hW2] at HQ ⊢
  clear hq hW2
  exact bodyPost_end (results_none rfl _ _ _) rfl ⟨rfl, HQ.out⟩

set_option maxHeartbeats 2000000 in
theorem l_Sync1 {w : World} {R c : Nat} {A : Option Addr} {s : DS} (h : DQ w R A c s) (D : Nat) (hD : w.heap[D]? = some (.cells #[.pointer (some ⟨R, 0, none⟩)] 25 (0, 0))) :
    Calls Try.prog 22 #[.pointer (some ⟨D, 0, none⟩)] w fun e w' => e = .returned (.int .i64 0) ∧ DQ w' R A c { s with y := s.A.length } ∧ Only (fun k => k = R) w w' := by
  have f0 := blk_cell h.blk 0
  have f1 := blk_cell h.blk 1
  have p0 := blk_cell hD 0
  simp at f0 f1 p0
  have z1 := blk_frozen h.blk 1
  obtain ⟨n, hn⟩ : ∃ n, n = s.A.length := ⟨_, rfl⟩
  rw [← hn] at f0
  have HN := Lib.hid hn
  have HL := Lib.hid h
  clear h hn hD
  go_enter Try.func22, Try.ntmps22
  go_upto_region 1 with (fail)
  go_region
  have hq : DQ (w.setCell ⟨R, 1, none⟩ (.int .i64 (n : Int))) R A c { s with y := s.A.length } ∧ Only (fun k => k = R) w (w.setCell ⟨R, 1, none⟩ (.int .i64 (n : Int))).drew := by
    have ho := (Only.refl (fun k => k = R) w).setCell (p := ⟨R, 1, none⟩) (.inl rfl) (.int .i64 (n : Int))
    exact ⟨HL.out.moved { s with y := s.A.length } ((blk_set HL.out.blk 1 _).trans (by rw [HN.out]; rfl)) rfl (Nat.le_refl _) HL.out.fu ho, ho.drew⟩
  have HQ := Lib.hid hq
  obtain ⟨W2, hW2⟩ : ∃ W2, W2 = w.setCell ⟨R, 1, none⟩ (.int .i64 (n : Int)) := ⟨_, rfl⟩
  rw [← hW2] at HQ ⊢
  clear hq hW2
  go_wp2
  go_ret
  exact ⟨rfl, HQ.out.1.grew (Below.refl _ _).drew, HQ.out.2⟩

set_option maxHeartbeats 2000000 in
theorem l_Fuse1 {w : World} {R c : Nat} {A : Option Addr} {s : DS} (h : DQ w R A c s) (D N : Nat) (n : Int) (hn : InI5 n) (hD : w.heap[D]? = some (.cells #[.pointer (some ⟨R, 0, none⟩)] 25 (0, 0))) (hN : w.heap[N]? = some (.cells #[.int .i64 n] 3 (0, 0))) :
    Calls Try.prog 26 #[.pointer (some ⟨N, 0, none⟩), .pointer (some ⟨D, 0, none⟩)] w fun e w' => e = .returned (.int .i64 0) ∧ DQ w' R A c { s with f := if n < 0 then none else some n.toNat } ∧ Only (fun k => k = R) w w' := by
  have f3 := blk_cell h.blk 3
  have f4 := blk_cell h.blk 4
  have p0 := blk_cell hD 0
  have n0 := blk_cell hN 0
  simp at f3 f4 p0 n0
  have z3 := blk_frozen h.blk 3
  have z4 := blk_frozen h.blk 4
  have HL := Lib.hid h
  clear h hD hN
  obtain ⟨hn1, hn2⟩ := hn
  by_cases h0 : 0 ≤ n
  · have hm : max n 0 = n := by omega
    have hn0 : ¬ n < 0 := by omega
    have HF := Lib.hid (show ∀ W, DQ W R A c { s with f := if n < 0 then none else some n.toNat } → DQ W R A c { s with f := some n.toNat } by rw [if_neg hn0]; exact fun _ => id)
    go_enter Try.func26, Try.ntmps26
    go_upto_region 1 with (fail)
    go_region
    have hq : DQ ((w.setCell ⟨R, 3, none⟩ (.bool true)).setCell ⟨R, 4, none⟩ (.int .i64 n)) R A c { s with f := if n < 0 then none else some n.toNat } ∧ Only (fun k => k = R) w ((w.setCell ⟨R, 3, none⟩ (.bool true)).setCell ⟨R, 4, none⟩ (.int .i64 n)).drew := by
      have ho := ((Only.refl (fun k => k = R) w).setCell (p := ⟨R, 3, none⟩) (.inl rfl) (.bool true)).setCell (p := ⟨R, 4, none⟩) (.inl rfl) (.int .i64 n)
      refine ⟨HL.out.moved { s with f := if n < 0 then none else some n.toNat } ((blk_set (blk_set HL.out.blk 3 _) 4 _).trans ?_) rfl HL.out.sy ?_ ho, ho.drew⟩
      · have : ((n.toNat : Nat) : Int) = n := by omega
        simp [this, hn0]
      · simp [hn0]; omega
    have HQ := Lib.hid hq
    obtain ⟨W2, hW2⟩ : ∃ W2, W2 = (w.setCell ⟨R, 3, none⟩ (.bool true)).setCell ⟨R, 4, none⟩ (.int .i64 n) := ⟨_, rfl⟩
    rw [← hW2] at HQ ⊢
    clear hq hW2
    go_wp2
    go_ret
    exact ⟨rfl, HF.out _ (HQ.out.1.grew (Below.refl _ _).drew), HQ.out.2⟩
  · have hm : max n 0 = 0 := by omega
    have hn0 : n < 0 := by omega
    have HF := Lib.hid (show ∀ W, DQ W R A c { s with f := if n < 0 then none else some n.toNat } → DQ W R A c { s with f := none } by rw [if_pos hn0]; exact fun _ => id)
    go_enter Try.func26, Try.ntmps26
    go_upto_region 1 with (fail)
    go_region
    have hq : DQ ((w.setCell ⟨R, 3, none⟩ (.bool false)).setCell ⟨R, 4, none⟩ (.int .i64 0)) R A c { s with f := if n < 0 then none else some n.toNat } ∧ Only (fun k => k = R) w ((w.setCell ⟨R, 3, none⟩ (.bool false)).setCell ⟨R, 4, none⟩ (.int .i64 0)).drew := by
      have ho := ((Only.refl (fun k => k = R) w).setCell (p := ⟨R, 3, none⟩) (.inl rfl) (.bool false)).setCell (p := ⟨R, 4, none⟩) (.inl rfl) (.int .i64 0)
      exact ⟨HL.out.moved { s with f := if n < 0 then none else some n.toNat } ((blk_set (blk_set HL.out.blk 3 _) 4 _).trans (by simp [hn0])) rfl HL.out.sy (by simp [hn0]) ho, ho.drew⟩
    have HQ := Lib.hid hq
    obtain ⟨W2, hW2⟩ : ∃ W2, W2 = (w.setCell ⟨R, 3, none⟩ (.bool false)).setCell ⟨R, 4, none⟩ (.int .i64 0) := ⟨_, rfl⟩
    rw [← hW2] at HQ ⊢
    clear hq hW2
    go_wp2
    go_ret
    exact ⟨rfl, HF.out _ (HQ.out.1.grew (Below.refl _ _).drew), HQ.out.2⟩

set_option maxHeartbeats 2000000 in
theorem l_Cut1 {w : World} {R c : Nat} {A : Option Addr} {s : DS} (h : DQ w R A c s) (D N : Nat) (n : Int) (hn : InI5 n) (hD : w.heap[D]? = some (.cells #[.pointer (some ⟨R, 0, none⟩)] 25 (0, 0))) (hN : w.heap[N]? = some (.cells #[.int .i64 n] 3 (0, 0))) (hd : s.dead = false) :
    Calls Try.prog 25 #[.pointer (some ⟨N, 0, none⟩), .pointer (some ⟨D, 0, none⟩)] w fun e w' => e = .returned (.int .i64 ((s.cut n).2 : Int)) ∧ DQ w' R A c (s.cut n).1 ∧ Only (fun k => k = R) w w' := by
  have f0 := blk_cell h.blk 0
  have f1 := blk_cell h.blk 1
  have p0 := blk_cell hD 0
  have n0 := blk_cell hN 0
  simp at f0 f1 p0 n0
  have z0 := blk_frozen h.blk 0
  obtain ⟨y, hy⟩ : ∃ y, y = s.y := ⟨_, rfl⟩
  obtain ⟨L, hL⟩ : ∃ L, L = s.A.length := ⟨_, rfl⟩
  have hcap := own_cap h.own
  have hln := h.ln
  have hsy := h.sy
  rw [← hL] at f0 hcap hln hsy
  rw [← hy] at f1 hsy
  have HY := Lib.hid (And.intro hy hL)
  have HL := Lib.hid h
  have HAD := Lib.hid h.adr
  have HD := Lib.hid hd
  clear h hD hN hy hL hd
  obtain ⟨hn1, hn2⟩ := hn
  by_cases h0 : n < y
  · have HR := Lib.hid (show s.cut n = (s, 1) by simp [DS.cut, HD.out, ← HY.out.1, h0])
    go_enter Try.func25, Try.ntmps25
    go_upto_region 1 with (fail)
    go_region
    all_goals go_wp2
    all_goals go_ret
    all_goals exact ⟨by rw [HR.out]; rfl, by rw [HR.out]; exact HL.out.grew (Below.refl _ _).drew, (Only.refl _ _).drew⟩
  · by_cases h1 : (L : Int) < n
    · have HR := Lib.hid (show s.cut n = (s, 1) by simp [DS.cut, HD.out, ← HY.out.2, h1])
      go_enter Try.func25, Try.ntmps25
      go_upto_region 1 with (fail)
      go_region
      all_goals go_wp2
      all_goals go_ret
      all_goals exact ⟨by rw [HR.out]; rfl, by rw [HR.out]; exact HL.out.grew (Below.refl _ _).drew, (Only.refl _ _).drew⟩
    · obtain ⟨k, rfl⟩ := Int.eq_ofNat_of_zero_le (show 0 ≤ n by omega)
      have hkL : k ≤ L := by omega
      have hkc : (k : Int) ≤ c := by omega
      have HR := Lib.hid (show s.cut (k : Int) = ({ s with A := s.A.take k }, 0) by simp [DS.cut, HD.out, ← HY.out.1, ← HY.out.2, h0, h1])
      go_enter Try.func25, Try.ntmps25
      go_upto_region 1 with (fail)
      go_region
      all_goals go_upto_region 3 with (fail)
      have hrun := fun w' => run_uptoD w' A L c k (by omega) (by omega)
      go_region
      have hq : DQ (w.setCell ⟨R, 0, none⟩ (.slice A k c)) R A c { s with A := s.A.take k } ∧ Only (fun k => k = R) w (w.setCell ⟨R, 0, none⟩ (.slice A k c)) :=
        ⟨HL.out.cut k (by rw [← HY.out.1]; omega) (by rw [← HY.out.2]; exact hkL), (Only.refl (fun k => k = R) w).setCell (p := ⟨R, 0, none⟩) (.inl rfl) (.slice A k c)⟩
      have HQ := Lib.hid hq
      obtain ⟨W2, hW2⟩ : ∃ W2, W2 = w.setCell ⟨R, 0, none⟩ (.slice A k c) := ⟨_, rfl⟩
      rw [← hW2] at HQ ⊢
      clear hq hW2 hrun
      go_wp2
      go_ret
      exact ⟨by rw [HR.out]; rfl, by rw [HR.out]; exact HQ.out.1.grew (Below.refl _ _).drew.drew, HQ.out.2.drew.drew⟩

theorem crash_keeps (s : DS) (n : Int) (hd : s.dead = false) (h : ¬ (0 ≤ n ∧ n < (s.A.length - s.y : Nat))) : s.crash n = ({ s with dead := true, f := none }, 0) := by
  simp [DS.crash, hd, h]
theorem crash_cuts (s : DS) (k : Nat) (hd : s.dead = false) (h : (k : Int) < (s.A.length - s.y : Nat)) : s.crash (k : Int) = ({ s with A := s.A.take (s.y + k), dead := true, f := none }, 0) := by
  have : (0 : Int) ≤ k ∧ (k : Int) < (s.A.length - s.y : Nat) := ⟨by omega, h⟩
  simp [DS.crash, hd]
  omega

set_option maxHeartbeats 4000000 in
theorem l_Crash1 {w : World} {R c : Nat} {A : Option Addr} {s : DS} (h : DQ w R A c s) (D N : Nat) (n : Int) (hn : InI5 n) (hD : w.heap[D]? = some (.cells #[.pointer (some ⟨R, 0, none⟩)] 25 (0, 0))) (hN : w.heap[N]? = some (.cells #[.int .i64 n] 3 (0, 0))) (hd : s.dead = false) :
    Calls Try.prog 23 #[.pointer (some ⟨N, 0, none⟩), .pointer (some ⟨D, 0, none⟩)] w fun e w' => e = .returned (.int .i64 ((s.crash n).2 : Int)) ∧ DQ w' R A c (s.crash n).1 ∧ Only (fun k => k = R) w w' := by
  have f0 := blk_cell h.blk 0
  have f1 := blk_cell h.blk 1
  have p0 := blk_cell hD 0
  have n0 := blk_cell hN 0
  simp at f0 f1 p0 n0
  have z0 := blk_frozen h.blk 0
  obtain ⟨y, hy⟩ : ∃ y, y = s.y := ⟨_, rfl⟩
  obtain ⟨L, hL⟩ : ∃ L, L = s.A.length := ⟨_, rfl⟩
  have hcap := own_cap h.own
  have hln := h.ln
  have hsy := h.sy
  rw [← hL] at f0 hcap hln hsy
  rw [← hy] at f1 hsy
  have hnD := blkd_ne hD h.blk (by decide)
  have HY := Lib.hid (And.intro hy hL)
  have HL := Lib.hid h
  have HD := Lib.hid hd
  have HCD := Lib.hid hD
  clear h hD hN hy hL hd
  obtain ⟨hn1, hn2⟩ := hn
  by_cases h0 : 0 ≤ n
  · by_cases h1 : n < (L : Int) - y
    · obtain ⟨k, rfl⟩ := Int.eq_ofNat_of_zero_le h0
      obtain ⟨j, hj⟩ : ∃ j, j = y + k := ⟨_, rfl⟩
      have hji : (y : Int) + k = (j : Int) := by omega
      have hjL : j ≤ L := by omega
      have hjc : (j : Int) ≤ c := by omega
      have HR := Lib.hid (show s.crash (k : Int) = ({ s with A := s.A.take j, dead := true, f := none }, 0) by
        rw [crash_cuts s k HD.out (by rw [← HY.out.1, ← HY.out.2]; omega), hj, HY.out.1])
      have HJ := Lib.hid hj
      clear hj
      go_enter Try.func23, Try.ntmps23
      go_upto_region 1 with (fail)
      go_region
      go_upto_region 2 with (fail)
      have hrun := fun w' => run_uptoD w' A L c j (by omega) (by omega)
      go_region
      have hq : DQ (w.setCell ⟨R, 0, none⟩ (.slice A j c)) R A c { s with A := s.A.take j } ∧ Only (fun k => k = R) w (w.setCell ⟨R, 0, none⟩ (.slice A j c)) :=
        ⟨HL.out.cut j (by rw [← HY.out.1, HJ.out]; omega) (by rw [← HY.out.2]; exact hjL), (Only.refl (fun k => k = R) w).setCell (p := ⟨R, 0, none⟩) (.inl rfl) (.slice A j c)⟩
      have HQ := Lib.hid hq
      have hp0 : (w.setCell ⟨R, 0, none⟩ (.slice A j c)).cell? ⟨D, 0, none⟩ = some (.pointer (some ⟨R, 0, none⟩)) := by
        rw [blk_cell (blkd_keep HCD.out hnD)]; rfl
      obtain ⟨W2, hW2⟩ : ∃ W2, W2 = w.setCell ⟨R, 0, none⟩ (.slice A j c) := ⟨_, rfl⟩
      rw [← hW2] at HQ hp0 ⊢
      clear hq hW2 hrun
      go_wp2_with fail
      refine (l_fail (HQ.out.1.grew (Below.refl _ _).drew.drew)).mono ?_
      rintro e W3 ⟨rfl, hq, ho⟩
      have HQ3 := Lib.hid (And.intro hq (HQ.out.2.drew.drew.trans ho (fun _ h => .inl h)))
      clear hq ho
      go_wp2
      go_ret
      exact ⟨by rw [HR.out]; rfl, by rw [HR.out]; exact HQ3.out.1, HQ3.out.2⟩
    · have HR := Lib.hid (crash_keeps s n HD.out (by rw [← HY.out.1, ← HY.out.2]; omega))
      go_enter Try.func23, Try.ntmps23
      go_upto_region 1 with (fail)
      go_region
      go_wp2_with fail
      refine (l_fail (HL.out.grew (Below.refl _ _).drew)).mono ?_
      rintro e W3 ⟨rfl, hq, ho⟩
      have HQ3 := Lib.hid (And.intro hq ((Only.refl (fun k => k = R) w).drew.trans ho (fun _ h => .inl h)))
      clear hq ho
      go_wp2
      go_ret
      exact ⟨by rw [HR.out]; rfl, by rw [HR.out]; exact HQ3.out.1, HQ3.out.2⟩
  · have HR := Lib.hid (crash_keeps s n HD.out (by omega))
    go_enter Try.func23, Try.ntmps23
    go_upto_region 1 with (fail)
    go_region
    go_wp2_with fail
    refine (l_fail (HL.out.grew (Below.refl _ _).drew)).mono ?_
    rintro e W3 ⟨rfl, hq, ho⟩
    have HQ3 := Lib.hid (And.intro hq ((Only.refl (fun k => k = R) w).drew.trans ho (fun _ h => .inl h)))
    clear hq ho
    go_wp2
    go_ret
    exact ⟨by rw [HR.out]; rfl, by rw [HR.out]; exact HQ3.out.1, HQ3.out.2⟩
end Go.Proofs.Yteiednjhliobeaa
