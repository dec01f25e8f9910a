/- The landed Less and Next. -/
import Derived.Test.YtkeaeahiokgkiaaBlLsR
namespace Go.Proofs.Ytkeaeahiokgkiaa
open Go.RowKit

set_option maxRecDepth 100000 in
set_option maxHeartbeats 1000000 in
theorem less_any (x y : BA) (hx : x.ok) (hy : y.ok) (w : World) : Calls Try.prog 11 #[.agg #[.int .u64 (x.n : Int), .int .i64 x.r], .agg #[.int .u64 (y.n : Int), .int .i64 y.r]] w fun e W' => e = .returned (.bool (decide (ltB x y))) ∧ Below w.heap.size w W' := by
  have HX := Lib.hid (And.intro hx hy)
  obtain ⟨t, ht⟩ : ∃ t, t = decide (ltB x y) := ⟨_, rfl⟩
  rw [← ht]
  have HT := Lib.hid ht
  clear hx hy ht
  go_enter Try.func11, Try.ntmps11
  go_upto_region 1 with (fail)
  obtain ⟨W0, hW0⟩ : ∃ W0, W0 = w.alloc (.cells #[.int .u64 (x.n : Int), .int .i64 x.r] 25) := ⟨_, rfl⟩
  rw [← hW0]
  obtain ⟨W1, hW1⟩ : ∃ W1, W1 = W0.alloc (.cells #[.int .u64 (y.n : Int), .int .i64 y.r] 25) := ⟨_, rfl⟩
  rw [← hW1]
  obtain ⟨b0, k0, s0⟩ := boxBA hW0
  obtain ⟨b1, k1, s1⟩ := boxBA hW1
  have k0' := (b1.block _ (by omega)).trans k0
  rw [s0] at k1
  obtain ⟨p, hp⟩ : ∃ p, p = w.heap.size := ⟨_, rfl⟩
  rw [← hp] at k0' k1 ⊢
  have hb := b0.trans (Below.mono b1 b0.size)
  have hpl := (Array.getElem?_eq_some_iff.1 k0').1
  have hql := (Array.getElem?_eq_some_iff.1 k1).1
  have HB := Lib.hid hb
  clear hb hp b0 b1 k0 s0 s1 hW0 hW1
  by_cases hxy : x = y
  · refine less_f p (p + 1) x y _ W1 _ rfl rfl rfl hpl hql (blk_cell k0' 0) (blk_cell k0' 1) (blk_cell k1 0) (blk_cell k1 1) (by simpa using hxy) ?_
    intro W2 b2
    have H2 := Lib.hid (HB.out.trans (Below.mono b2 HB.out.size))
    obtain rfl : t = false := by rw [HT.out, hxy]; simpa using ltB_irr y
    simp only [puts, List.foldl_cons, List.foldl_nil, Act.put, List.setIfInBounds_toArray, List.set_cons_succ, List.set_cons_zero]
    clear b2 hpl hql k0' k1 hxy
    go_wp2
    go_ret
    exact ⟨rfl, H2.out⟩
  · refine less_t p (p + 1) x y _ W1 _ rfl rfl rfl hpl hql (blk_cell k0' 0) (blk_cell k0' 1) (blk_cell k1 0) (blk_cell k1 1) (by simpa using hxy) HX.out.1 HX.out.2 ?_
    intro v11 W2 _ b2
    have H2 := Lib.hid (HB.out.trans (Below.mono b2 HB.out.size))
    have ht : decide (maxB [x, y] = y) = decide (ltB x y) := by
      by_cases h : ltB x y
      · simp [h, ((less_two x y).1 h).2]
      · have : ¬ maxB [x, y] = y := fun e => h ((less_two x y).2 ⟨hxy, e⟩)
        simp [h, this]
    rw [ht, ← HT.out]
    simp only [puts, List.foldl_cons, List.foldl_nil, Act.put, List.setIfInBounds_toArray, List.set_cons_succ, List.set_cons_zero]
    clear b2 hpl hql k0' k1 ht hxy
    go_wp2
    go_ret
    exact ⟨rfl, H2.out⟩
theorem run_maxU (ts : Array TypeId) (t : TypeId) (w : World) (a b : Nat) : (Builtin.max_ ts t #[.int .u64 (a : Int), .int .u64 (b : Int)]).run Try.prog w = .ok (.int .u64 ((max a b : Nat) : Int)) w := by
  rw [show ((max a b : Nat) : Int) = if (b : Int) > a then (b : Int) else a by split <;> omega]
  simp [Builtin.max_, Builtin.max2]
set_option maxRecDepth 100000 in
set_option maxHeartbeats 2000000 in
theorem next_any (b : BA) (r : Int) (hb : b.ok) (w : World) : Calls Try.prog 9 #[.agg #[.int .u64 (b.n : Int), .int .i64 b.r], .int .i64 r] w fun e W' => e = .returned (.tuple #[.agg #[.int .u64 ((nextB b r).1.n : Int), .int .i64 (nextB b r).1.r], .int .i64 ((nextB b r).2 : Int)]) ∧ Below w.heap.size w W' := by
  have HN := Lib.hid hb
  obtain ⟨x, hx⟩ : ∃ x, x = nextB b r := ⟨_, rfl⟩
  rw [← hx]
  have HX := Lib.hid hx
  clear hx hb
  go_enter Try.func9, Try.ntmps9
  go_upto_region 1 with (fail)
  obtain ⟨W0, hW0⟩ : ∃ W0, W0 = w.alloc (.cells #[.int .u64 (b.n : Int), .int .i64 b.r] 25) := ⟨_, rfl⟩
  rw [← hW0]
  obtain ⟨W1, hW1⟩ : ∃ W1, W1 = W0.alloc (.cells #[.int .u64 0, .int .i64 0] 25) := ⟨_, rfl⟩
  rw [← hW1]
  obtain ⟨b0, k0, s0⟩ := boxBA hW0
  obtain ⟨b1, k1, s1⟩ := boxBA hW1
  have k0' := (b1.block _ (by omega)).trans k0
  rw [s0] at k1
  obtain ⟨p, hp⟩ : ∃ p, p = w.heap.size := ⟨_, rfl⟩
  rw [← hp] at k0' k1 s0 ⊢
  obtain ⟨g, hg⟩ : ∃ g, g = p + 1 := ⟨_, rfl⟩
  rw [← hg] at k1 s0 ⊢
  have hb1 := b0.trans (Below.mono b1 b0.size)
  have z0 := blk_cell k0' 0
  have z1 := blk_cell k0' 1
  have y0 := blk_cell k1 0
  have y1 := blk_cell k1 1
  have u0 := blk_frozen k1 0
  have u1 := blk_frozen k1 1
  simp at z0 z1 y0 y1
  have HB := Lib.hid (And.intro hb1 (And.intro k0' (And.intro k1 (And.intro (show w.heap.size ≤ g by omega) (show p < g by omega)))))
  have S1 := Lib.hid (show W1.heap.size = g + 1 by omega)
  clear hb1 k0' k1 hg hp s0 s1 b0 b1 k0 hW0 hW1
  by_cases hbad : r < 0 ∨ 6 < r
  · obtain ⟨V, hV⟩ : ∃ V, V = (W1.setCell ⟨g, 0, none⟩ (.int .u64 0)).setCell ⟨g, 1, none⟩ (.int .i64 0) := ⟨_, rfl⟩
    obtain ⟨f1, f2, f3, _⟩ := finBA HB.out.1 HB.out.2.2.1 HB.out.2.2.2.1 _ _ V hV
    have HF := Lib.hid f1
    obtain rfl : x = (B0, 1) := by rw [HX.out]; unfold nextB; rw [if_pos hbad]
    clear f1
    by_cases h1 : r < 0
    · clear hbad
      go_wp2
      rw [← hV]
      exact bodyPost_ret (v := .tuple #[.agg #[.int .u64 0, .int .i64 0], .int .i64 1]) (by simp [results, Try.results9, go_sem, f2, f3]) rfl ⟨rfl, HF.out⟩
    · have h2 : (7 : Int) ≤ r := by omega
      clear hbad
      go_wp2
      rw [← hV]
      exact bodyPost_ret (v := .tuple #[.agg #[.int .u64 0, .int .i64 0], .int .i64 1]) (by simp [results, Try.results9, go_sem, f2, f3]) rfl ⟨rfl, HF.out⟩
  · have h1 : ¬ r < 0 := by omega
    have h2 : ¬ (7 : Int) ≤ r := by omega
    have HR := Lib.hid hbad
    clear hbad
    obtain ⟨m, hm⟩ : ∃ m, m = max b.n 1 := ⟨_, rfl⟩
    have hmx : ∀ ts t w, (Builtin.max_ ts t #[.int .u64 (b.n : Int), .int .u64 1]).run Try.prog w = .ok (.int .u64 (m : Int)) w := fun ts t w => by
      rw [hm]
      exact run_maxU ts t w b.n 1
    have HM := Lib.hid hm
    clear hm
    go_upto_region 4 with (fail)
    obtain ⟨W2, hW2⟩ : ∃ V, V = W1.alloc (.cells #[.int .u64 (m : Int), .int .i64 r] 25) := ⟨_, rfl⟩
    rw [← hW2]
    obtain ⟨ba, kq, sa⟩ := boxBA hW2
    obtain ⟨q, hq⟩ : ∃ q, q = W1.heap.size := ⟨_, rfl⟩
    rw [← hq] at kq ⊢
    have f1 := HB.out.1.trans (Below.mono ba HB.out.1.size)
    have kp := (ba.block p (Array.getElem?_eq_some_iff.1 HB.out.2.1).1).trans HB.out.2.1
    have kg := (ba.block g (Array.getElem?_eq_some_iff.1 HB.out.2.2.1).1).trans HB.out.2.2.1
    have f2 := blk_cell kq 0
    have f3 := blk_cell kq 1
    simp at f2 f3
    clear z0 z1 y0 y1 u0 u1 hmx
    have z0 := blk_cell kp 0
    have z1 := blk_cell kp 1
    simp at z0 z1
    have HW := Lib.hid (And.intro f1 (And.intro kp (And.intro kg (And.intro kq (show w.heap.size ≤ q ∧ q ≠ g ∧ q ≠ p by have := HB.out.1.size; have := S1.out; have := HB.out.2.2.2.2; omega)))))
    clear f1 kp kg kq hW2 ba sa hq S1
    have HC := Lib.hid (less_any b ⟨m, r⟩ HN.out ⟨by have := HM.out; have := HN.out.n; show m < _; omega, by show _ ≤ r; have := HR.out; omega, by show r ≤ _; have := HR.out; omega⟩ W2)
    obtain ⟨t, ht⟩ : ∃ t, t = decide (ltB b ⟨m, r⟩) := ⟨_, rfl⟩
    rw [← ht] at HC
    have HT := Lib.hid ht
    clear ht
    go_wp2_with fail
    refine HC.out.mono ?_
    rintro e W3 ⟨rfl, b3⟩
    have kp := (b3.block p (Array.getElem?_eq_some_iff.1 HW.out.2.1).1).trans HW.out.2.1
    have kg := (b3.block g (Array.getElem?_eq_some_iff.1 HW.out.2.2.1).1).trans HW.out.2.2.1
    have kq := (b3.block q (Array.getElem?_eq_some_iff.1 HW.out.2.2.2.1).1).trans HW.out.2.2.2.1
    have hb3 := HW.out.1.trans (Below.mono b3 HW.out.1.size)
    clear z0 z1 f2 f3
    have z0 := blk_cell kp 0
    have y0 := blk_cell kg 0
    have y1 := blk_cell kg 1
    have u0 := blk_frozen kg 0
    have u1 := blk_frozen kg 1
    have x0 := blk_cell kq 0
    have x1 := blk_cell kq 1
    have v0 := blk_frozen kq 0
    simp at z0 y0 y1 x0 x1
    have FI := fun x y V hV => finBA (x0 := .int .u64 0) (y0 := .int .i64 0) hb3 kg HB.out.2.2.2.1 x y V hV
    have HFI := Lib.hid FI
    have HK := Lib.hid (And.intro hb3 (And.intro kg kq))
    clear FI kp kg kq hb3 b3
    cases t with
    | true =>
      have hlt : ltB b ⟨m, r⟩ := by simpa using HT.out.symm
      obtain rfl : x = (⟨m, r⟩, 0) := by
        rw [HX.out]; unfold nextB; rw [if_neg HR.out]
        by_cases h0 : b.n = 0
        · rw [if_neg (fun h => h.1 h0), if_neg (by omega), show m = b.n + 1 by have := HM.out; omega]
        · have e : m = b.n := by have := HM.out; omega
          rw [e] at hlt
          rw [if_pos ⟨h0, hlt⟩, e]
      clear hlt
      obtain ⟨V, hV⟩ : ∃ V, V = (W3.setCell ⟨g, 0, none⟩ (.int .u64 (m : Int))).setCell ⟨g, 1, none⟩ (.int .i64 r) := ⟨_, rfl⟩
      obtain ⟨f1, g2, g3, _⟩ := HFI.out _ _ V hV
      have HF := Lib.hid f1
      clear f1
      go_wp2
      rw [← hV]
      exact bodyPost_ret (v := .tuple #[.agg #[.int .u64 (m : Int), .int .i64 r], .int .i64 0]) (by simp [results, Try.results9, go_sem, g2, g3]) rfl ⟨rfl, HF.out⟩
    | false =>
      have hnl : ¬ ltB b ⟨m, r⟩ := by simpa using HT.out.symm
      have h0 : b.n ≠ 0 := fun h0 => hnl (.inl (by have := HM.out; show b.n < m; omega))
      have e : m = b.n := by have := HM.out; omega
      rw [e] at hnl
      by_cases hm : b.n = 18446744073709551615
      · have hmi : (b.n : Int) = 18446744073709551615 := by omega
        obtain rfl : x = (B0, 30) := by rw [HX.out]; unfold nextB; rw [if_neg HR.out, if_neg (fun h => hnl h.2), if_pos hm]
        obtain ⟨V, hV⟩ : ∃ V, V = (W3.setCell ⟨g, 0, none⟩ (.int .u64 0)).setCell ⟨g, 1, none⟩ (.int .i64 0) := ⟨_, rfl⟩
        obtain ⟨f1, g2, g3, _⟩ := HFI.out _ _ V hV
        have HF := Lib.hid f1
        clear f1 e
        go_wp2
        rw [← hV]
        exact bodyPost_ret (v := .tuple #[.agg #[.int .u64 0, .int .i64 0], .int .i64 30]) (by simp [results, Try.results9, go_sem, g2, g3]) rfl ⟨rfl, HF.out⟩
      · have hmi : ((b.n : Int) == 18446744073709551615) = false := beq_eq_false_iff_ne.2 (by omega)
        have hlt : (m : Int) + 1 < 18446744073709551616 := by have := HN.out.n; omega
        obtain rfl : x = (⟨m + 1, r⟩, 0) := by rw [HX.out]; unfold nextB; rw [if_neg HR.out, if_neg (fun h => hnl h.2), if_neg hm, e]
        clear hm hnl h0 e
        go_upto_region 9 with (fail)
        obtain ⟨W4, hW4⟩ : ∃ V, V = W3.setCell ⟨q, 0, none⟩ (.int .u64 ((m : Int) + 1)) := ⟨_, rfl⟩
        rw [← hW4]
        have kg4 : W4.heap[g]? = some (.cells #[.int .u64 0, .int .i64 0] 25 (0, 0)) := by
          rw [hW4]
          exact ((grownBy_set W3 q 0 _).block g (Array.getElem?_eq_some_iff.1 HK.out.2.1).1 (fun e => HW.out.2.2.2.2.2.1 (by cases e; rfl))).trans HK.out.2.1
        have kq4 := blk_set HK.out.2.2 0 (.int .u64 ((m : Int) + 1))
        rw [← hW4] at kq4
        have hb4 : Below w.heap.size w W4 := by rw [hW4]; exact HK.out.1.setCell (p := ⟨q, 0, none⟩) HW.out.2.2.2.2.1 _
        clear z0 y0 y1 u0 u1 x0 x1 v0 hW4
        have x0 := blk_cell kq4 0
        have x1 := blk_cell kq4 1
        have y0 := blk_cell kg4 0
        have y1 := blk_cell kg4 1
        have u0 := blk_frozen kg4 0
        have u1 := blk_frozen kg4 1
        simp at x0 x1 y0 y1
        obtain ⟨V, hV⟩ : ∃ V, V = (W4.setCell ⟨g, 0, none⟩ (.int .u64 ((m : Int) + 1))).setCell ⟨g, 1, none⟩ (.int .i64 r) := ⟨_, rfl⟩
        obtain ⟨f1, g2, g3, _⟩ := finBA hb4 kg4 HB.out.2.2.2.1 _ _ V hV
        have HF := Lib.hid f1
        clear f1 kq4 kg4 hb4
        go_wp2
        rw [← hV]
        exact bodyPost_ret (v := .tuple #[.agg #[.int .u64 ((m : Int) + 1), .int .i64 r], .int .i64 0]) (by simp [results, Try.results9, go_sem, g2, g3]) rfl ⟨rfl, HF.out⟩
end Go.Proofs.Ytkeaeahiokgkiaa
