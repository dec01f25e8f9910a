/- The contracts of the program's Get. -/
import Derived.Test.YtmpaefndkobgnaaPqSet
namespace Go.Proofs.Ytmpaefndkobgnaa
open Go.RowKit

set_option maxHeartbeats 1000000 in
theorem l_Get_nil (w : World) : Calls Try.prog 6 #[.pointer none] w fun e w' => e = .returned (.tuple #[hV 0 0, .int .i64 2]) ∧ Below w.heap.size w w' := by
  go_enter Try.func6, Try.ntmps6
  go_wp2
  obtain ⟨e0, e1⟩ := boxed w 0 0
  exact bodyPost_ret (v := .tuple #[hV 0 0, .int .i64 2]) (by simp [results, Try.results6, go_sem, e0, e1, hV]) rfl ⟨rfl, (Below.refl _ w).alloc (Nat.le_refl _) _⟩
set_option maxHeartbeats 1000000 in
theorem l_Get_none {w : World} {R gU cU gB gF cF : Nat} {s : QS} (h : LQ w R gU cU gB gF cF s) (hN : s.N = []) : Calls Try.prog 6 #[.pointer (some ⟨R, 0, none⟩)] w fun e w' => e = .returned (.tuple #[hV 0 0, .int .i64 30]) ∧ Below w.heap.size w w' := by
  have HL := Lib.hid h
  have HN := Lib.hid hN
  clear h hN
  go_enter Try.func6, Try.ntmps6
  go_upto_region 1 with (fail)
  have hbw := (Below.refl _ w).alloc (Nat.le_refl _) (.cells #[.int .i64 0, .int .u32 0] 29)
  have f1 := blk_cell (HL.out.grew hbw).blk 1
  rw [HN.out] at f1
  simp at f1
  have hnew := World.alloc_heap_new w (.cells #[.int .i64 0, .int .u32 0] 29)
  obtain ⟨B, hB⟩ : ∃ B, B = w.heap.size := ⟨_, rfl⟩
  obtain ⟨W, hW⟩ : ∃ W, W = w.alloc (.cells #[.int .i64 0, .int .u32 0] 29) := ⟨_, rfl⟩
  rw [← hW] at f1 hnew hbw ⊢
  rw [← hB] at hnew ⊢
  have z0 := blk_frozen hnew 0
  have z1 := blk_frozen hnew 1
  have b0 := blk_cell hnew 0
  have b1 := blk_cell hnew 1
  simp at b0 b1
  have HW := Lib.hid hnew
  have HB := Lib.hid hB
  have HBW := Lib.hid hbw
  clear hW hnew hB hbw
  go_wp2
  have hfin := blk_set (blk_set HW.out 0 (.int .i64 0)) 1 (.int .u32 0)
  obtain ⟨W6, hW6⟩ : ∃ W6, W6 = (W.setCell ⟨B, 0, none⟩ (.int .i64 0)).setCell ⟨B, 1, none⟩ (.int .u32 0) := ⟨_, rfl⟩
  rw [← hW6] at hfin ⊢
  have e0 := blk_cell hfin 0
  have e1 := blk_cell hfin 1
  simp at e0 e1
  have hbl : Below w.heap.size w W6 := by
    rw [hW6]
    exact (HBW.out.setCell (p := ⟨B, 0, none⟩) (Nat.le_of_eq HB.out.symm) _).setCell (p := ⟨B, 1, none⟩) (Nat.le_of_eq HB.out.symm) _
  clear hW6
  exact bodyPost_ret (v := .tuple #[hV 0 0, .int .i64 30]) (by simp [results, Try.results6, go_sem, e0, e1, hV]) rfl ⟨rfl, hbl⟩
set_option maxHeartbeats 2000000 in
theorem l_Get_one {w : World} {R gU cU gB gF cF : Nat} {s : QS} (h : LQ w R gU cU gB gF cF s) (i : Nat) (N' : List Nat) (hN : s.N = i :: N') :
    Calls Try.prog 6 #[.pointer (some ⟨R, 0, none⟩)] w fun e w' => e = .returned (.tuple #[hV (i : Int) ((s.G.getD i 0 + 1) % 4294967296), .int .i64 0]) ∧ LQ w' R gU cU gB gF cF (s.getS i N') ∧ Only (FL R gU gB gF) w w' := by
  have hi : i < s.n := h.hNn i (by rw [hN]; simp)
  obtain ⟨m, hm⟩ : ∃ m, m = N'.length := ⟨_, rfl⟩
  have hm4 : m + 1 ≤ 4096 := by have := h.hn; have := h.hNl; rw [hN] at this; simp at this; omega
  have hn4 := h.hn
  have hlG := h.lG
  have HN := Lib.hid hN
  have HM := Lib.hid hm
  have HL := Lib.hid h
  clear hN hm h
  go_enter Try.func6, Try.ntmps6
  go_upto_region 1 with (fail)
  have hbw := (Below.refl _ w).alloc (Nat.le_refl _) (.cells #[.int .i64 0, .int .u32 0] 29)
  have hq := HL.out.grew hbw
  have hnew := World.alloc_heap_new w (.cells #[.int .i64 0, .int .u32 0] 29)
  have hlt := HL.out.lt
  obtain ⟨B, hB⟩ : ∃ B, B = w.heap.size := ⟨_, rfl⟩
  obtain ⟨W, hW⟩ : ∃ W, W = w.alloc (.cells #[.int .i64 0, .int .u32 0] 29) := ⟨_, rfl⟩
  have o1 : Only (FL R gU gB gF) w W := by rw [hW]; exact (Only.refl _ _).alloc _
  rw [← hW] at hq hnew ⊢
  rw [← hB] at hnew hlt ⊢
  have HLT := Lib.hid hlt
  have HB := Lib.hid hB
  have hown := hq.hF
  have hcF := own_cap hown
  have f1 := blk_cell hq.blk 1
  have z1 := blk_frozen hq.blk 1
  simp at f1
  rw [HN.out] at hown hcF f1
  simp only [List.length_cons] at hown hcF f1
  rw [← HM.out] at hown hcF f1
  have ct : W.cell? ⟨gF, m, none⟩ = some (.int .i64 (i : Int)) := by
    rw [hown.cellAt m (by omega)]
    simp [iV, HM.out]
  have hcFi : (m : Int) ≤ cF := by omega
  have HO := Lib.hid hown
  have HQ := Lib.hid hq
  have HW := Lib.hid hnew
  have O1 := Lib.hid o1
  clear hW hB hq hbw hnew hlt hown o1
  go_upto_region 8 with (fail)
  have hq2 : LQ (W.setCell ⟨R, 1, none⟩ (.slice (some ⟨gF, 0, none⟩) m cF)) R gU cU gB gF cF { s with N := N' } := by
    have h := HQ.out.setN gF cF N' (by
      have h := own_cut (x := iV i) (xs := N'.reverse.map iV) (n := m) (by simpa using HO.out)
      rw [← HM.out]; exact h) HQ.out.hcF (by have := HQ.out.hNl; rw [HN.out] at this; simp at this; omega) (fun j hj => HQ.out.hNn j (by rw [HN.out]; simp [hj]))
    rw [← HM.out] at h
    exact h
  have o2 := O1.out.setCell (p := ⟨R, 1, none⟩) (.inl (.inl rfl)) (.slice (some ⟨gF, 0, none⟩) m cF)
  have hn2 := blk_keep (j := 1) (u := .slice (some ⟨gF, 0, none⟩) m cF) HW.out (Nat.ne_of_gt (HLT.out R (.inl rfl)))
  obtain ⟨W2, hW2⟩ : ∃ W2, W2 = W.setCell ⟨R, 1, none⟩ (.slice (some ⟨gF, 0, none⟩) m cF) := ⟨_, rfl⟩
  rw [← hW2] at hq2 o2 hn2 ⊢
  have f0 := blk_cell hq2.blk 0
  simp at f0
  obtain ⟨c0, c1, c2⟩ := hq2.cells i hi
  obtain ⟨lb, hlb⟩ : ∃ x, x = s.L.getD i false := ⟨_, rfl⟩
  have c2' : W2.cell? ⟨gU, i * 3 + 2, none⟩ = some (.bool lb) := by rw [hlb]; exact c2
  have z2 := hq2.fz (i * 3 + 2)
  have hii : (i : Int) < s.n := by omega
  have HQ2 := Lib.hid hq2
  have O2 := Lib.hid o2
  have HW2 := Lib.hid hn2
  clear hW2 hq2 o2 hn2 f1 z1 ct hcFi c0 c1 c2 hlb HQ O1 HW HO
  go_upto_region 10 with (fail)
  have hq3 := HQ2.out.setL i hi true
  have o3 := O2.out.setCell (p := ⟨gU, i * 3 + 2, none⟩) (.inl (.inr (.inl rfl))) (.bool true)
  have hn3 := blk_keep (j := i * 3 + 2) (u := .bool true) HW2.out (Nat.ne_of_gt (HLT.out gU (.inr (.inl rfl))))
  obtain ⟨W3, hW3⟩ : ∃ W3, W3 = W2.setCell ⟨gU, i * 3 + 2, none⟩ (.bool true) := ⟨_, rfl⟩
  rw [← hW3] at hq3 o3 hn3 ⊢
  obtain ⟨-, c1, -⟩ := hq3.cells i hi
  obtain ⟨gg, hgg⟩ : ∃ x, x = s.G.getD i 0 := ⟨_, rfl⟩
  have c1' : W3.cell? ⟨gU, i * 3 + 1, none⟩ = some (.int .u32 (gg : Int)) := by rw [hgg]; exact c1
  have hgl : gg < 4294967296 := by rw [hgg]; exact hq3.gl i
  have z3 := hq3.fz (i * 3 + 1)
  have HGG := Lib.hid hgg
  have HQ3 := Lib.hid hq3
  have O3 := Lib.hid o3
  have HW3 := Lib.hid hn3
  clear hW3 hq3 o3 hn3 f0 c2' z2 c1 hgg HQ2 O2 HW2
  go_upto_region 11 with (fail)
  have hwr : ((gg : Int) + 1) % 4294967296 = (((gg + 1) % 4294967296 : Nat) : Int) := by omega
  rw [hwr]
  obtain ⟨g1, hg1⟩ : ∃ g1, g1 = (gg + 1) % 4294967296 := ⟨_, rfl⟩
  rw [← hg1]
  have hg1l : g1 < 4294967296 := by omega
  have hq4 := HQ3.out.setG i hi g1 hg1l
  have o4 := O3.out.setCell (p := ⟨gU, i * 3 + 1, none⟩) (.inl (.inr (.inl rfl))) (.int .u32 (g1 : Int))
  have hn4' := blk_keep (j := i * 3 + 1) (u := .int .u32 (g1 : Int)) HW3.out (Nat.ne_of_gt (HLT.out gU (.inr (.inl rfl))))
  obtain ⟨W4, hW4⟩ : ∃ W4, W4 = W3.setCell ⟨gU, i * 3 + 1, none⟩ (.int .u32 (g1 : Int)) := ⟨_, rfl⟩
  rw [← hW4] at hq4 o4 hn4' ⊢
  obtain ⟨c0, -, -⟩ := hq4.cells i hi
  obtain ⟨lb', hlb'⟩ : ∃ x, x = (s.B.getD i []).length := ⟨_, rfl⟩
  have c0' : W4.cell? ⟨gU, i * 3, none⟩ = some (.slice (some ⟨gB, i * s.sz, none⟩) lb' s.sz) := by rw [hlb']; exact c0
  have z4 := hq4.fz (i * 3)
  have hs0 := hq4.hs0
  have hsz := hq4.hsz
  obtain ⟨sz, hszz⟩ : ∃ x, x = s.sz := ⟨_, rfl⟩
  obtain ⟨off, hoff⟩ : ∃ x, x = i * s.sz := ⟨_, rfl⟩
  rw [← hoff, ← hszz] at c0'
  have hs0' : 0 < sz := by rw [hszz]; exact hs0
  have hsz' : sz ≤ 65536 := by rw [hszz]; exact hsz
  have HG1 := Lib.hid hg1
  have HQ4 := Lib.hid hq4
  have O4 := Lib.hid o4
  have HW4 := Lib.hid hn4'
  have HZ := Lib.hid hszz
  have HOF := Lib.hid hoff
  clear hW4 hq4 o4 hn4' c1' z3 c0 hwr hg1 hlb' hs0 hsz hszz hoff HQ3 O3 HW3
  go_upto_region 12 with (fail)
  have hq5 : LQ (W4.setCell ⟨gU, i * 3, none⟩ (.slice (some ⟨gB, off, none⟩) 0 sz)) R gU cU gB gF cF (s.getS i N') := by
    have := HQ4.out.setB0 i hi
    have e : s.getS i N' = { s with N := N', L := s.L.set i true, G := s.G.set i g1, B := s.B.set i [] } := by
      rw [QS.getS, ← HGG.out, ← HG1.out]
    rw [e, HOF.out, HZ.out]
    exact this
  have o5 := O4.out.setCell (p := ⟨gU, i * 3, none⟩) (.inl (.inr (.inl rfl))) (.slice (some ⟨gB, off, none⟩) 0 sz)
  have hn5 := blk_keep (j := i * 3) (u := .slice (some ⟨gB, off, none⟩) 0 sz) HW4.out (Nat.ne_of_gt (HLT.out gU (.inr (.inl rfl))))
  obtain ⟨W5, hW5⟩ : ∃ W5, W5 = W4.setCell ⟨gU, i * 3, none⟩ (.slice (some ⟨gB, off, none⟩) 0 sz) := ⟨_, rfl⟩
  rw [← hW5] at hq5 o5 hn5 ⊢
  have c1 : W5.cell? ⟨gU, i * 3 + 1, none⟩ = some (.int .u32 (g1 : Int)) := by
    have := (hq5.cells i (by exact hi)).2.1
    have e : (s.getS i N').G.getD i 0 = g1 := by
      rw [QS.getS, HG1.out, HGG.out]
      show (s.G.set i _).getD i 0 = _
      rw [getD_set _ _ _ _ _ (by rw [hlG]; exact hi), if_pos rfl]
    rw [e] at this
    exact this
  have d0 := blk_cell hn5 0
  have d1 := blk_cell hn5 1
  have y0 := blk_frozen hn5 0
  have y1 := blk_frozen hn5 1
  simp at d0 d1
  have HQ5 := Lib.hid hq5
  have O5 := Lib.hid o5
  have HW5 := Lib.hid hn5
  clear hW5 hq5 o5 hn5 c0' z4 HQ4 O4 HW4
  go_wp2
  have hfin := blk_set (blk_set HW5.out 0 (.int .i64 (i : Int))) 1 (.int .u32 (g1 : Int))
  obtain ⟨W6, hW6⟩ : ∃ W6, W6 = (W5.setCell ⟨B, 0, none⟩ (.int .i64 (i : Int))).setCell ⟨B, 1, none⟩ (.int .u32 (g1 : Int)) := ⟨_, rfl⟩
  rw [← hW6] at hfin ⊢
  have e0 := blk_cell hfin 0
  have e1 := blk_cell hfin 1
  simp at e0 e1
  have hgo : Below W5.heap.size W5 W5 := Below.refl _ _
  have o6 : Only (FL R gU gB gF) w W6 := by
    rw [hW6]
    exact (O5.out.setCell (p := ⟨B, 0, none⟩) (.inr (Nat.le_of_eq HB.out.symm)) _).setCell (p := ⟨B, 1, none⟩) (.inr (Nat.le_of_eq HB.out.symm)) _
  have hq6 : LQ W6 R gU cU gB gF cF (s.getS i N') := by
    rw [hW6]
    refine HQ5.out.only (((Only.refl (fun k => k = B) W5).setCell (p := ⟨B, 0, none⟩) (.inl rfl) _).setCell (p := ⟨B, 1, none⟩) (.inl rfl) _) (fun k hk e => ?_)
    exact absurd (HLT.out k hk) (by rw [e]; exact Nat.lt_irrefl _)
  clear hW6
  exact bodyPost_ret (v := .tuple #[hV (i : Int) g1, .int .i64 0]) (by simp [results, Try.results6, go_sem, e0, e1, hV]) rfl ⟨by rw [HG1.out, HGG.out], hq6, o6⟩
end Go.Proofs.Ytmpaefndkobgnaa
