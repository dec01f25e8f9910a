/- BallotNext's walk. -/
import Derived.Test.YtkeaeahiokgkiaaBlCa
namespace Go.Proofs.Ytkeaeahiokgkiaa
open Go.RowKit

set_option maxRecDepth 100000 in
set_option maxHeartbeats 4000000 in
theorem BallotNext_any (b : BA) (rn qn n : Nat) (w : World) (hb : b.ok) (hr : rn < 256) (hq : qn < 256) (hn : n < 18446744073709551616) :
    Calls Try.prog 6 #[.agg #[.int .u64 (b.n : Int), .int .i64 b.r], .int .u8 (rn : Int), .int .u8 (qn : Int), .int .u64 (n : Int)] w fun e W' => e = .returned (.bool true) ∧ Below w.heap.size w W' := by
  have HO := Lib.hid (And.intro hb hn)
  obtain ⟨i, hi⟩ : ∃ i : Nat, i = rn % 7 := ⟨_, rfl⟩
  obtain ⟨k, hk⟩ : ∃ i : Nat, i = qn % 7 := ⟨_, rfl⟩
  have hri : (rn : Int).tmod 7 = (i : Int) := by rw [Int.tmod_eq_emod_of_nonneg (by omega)]; omega
  have hqi : (qn : Int).tmod 7 = (k : Int) := by rw [Int.tmod_eq_emod_of_nonneg (by omega)]; omega
  have hr2 : (rn : Int) < 256 := by omega
  have hq2 : (qn : Int) < 256 := by omega
  have HIK := Lib.hid (show i < 7 ∧ k < 7 by omega)
  clear hb hn hr hq hi hk
  go_enter Try.func6, Try.ntmps6
  go_upto_region 2 with (fail)
  obtain ⟨W0, hW0⟩ : ∃ W0, W0 = w.alloc (.cells #[.int .u64 (b.n : Int), .int .i64 b.r] 25) := ⟨_, rfl⟩
  rw [← hW0]
  obtain ⟨b0, k0, _⟩ := boxBA hW0
  obtain ⟨pb, hpb⟩ : ∃ p, p = w.heap.size := ⟨_, rfl⟩
  rw [← hpb] at k0 ⊢
  have H0 := Lib.hid (And.intro b0 k0)
  have z0 := blk_cell k0 0
  have z1 := blk_cell k0 1
  simp at z0 z1
  have HA := fun W => next_any b (i : Int) HO.out.1 W
  have HB := fun W => next_any b (k : Int) HO.out.1 W
  have wk : ∀ W, Below w.heap.size w W → Calls Try.prog 8 #[] W fun e W' => e = .returned (.bool true) ∧ Below w.heap.size w W' := fun W hb => (wakes14_any W).mono fun e W' ⟨h1, h2⟩ => ⟨h1, hb.trans (Below.mono h2 hb.size)⟩
  have HWK := Lib.hid wk
  obtain ⟨x, hx⟩ : ∃ x, x = (nextB b (i : Int)).1 := ⟨_, rfl⟩
  obtain ⟨e1, he1⟩ : ∃ x, x = (nextB b (i : Int)).2 := ⟨_, rfl⟩
  obtain ⟨y, hy⟩ : ∃ x, x = (nextB b (k : Int)).1 := ⟨_, rfl⟩
  obtain ⟨e2, he2⟩ : ∃ x, x = (nextB b (k : Int)).2 := ⟨_, rfl⟩
  have HF1 := Lib.hid (fun h : e1 ≠ 0 => nextB_err (b := b) (r := (i : Int)) (by omega) (by have := HIK.out.1; omega) (by rw [← he1]; exact h))
  have HF2 := Lib.hid (fun h : e2 ≠ 0 => nextB_err (b := b) (r := (k : Int)) (by omega) (by have := HIK.out.2; omega) (by rw [← he2]; exact h))
  have HG1 := Lib.hid (fun h : e1 = 0 => nextB_is (b := b) (r := (i : Int)) (by omega) (by have := HIK.out.1; omega) (by rw [← he1]; exact h))
  have HG2 := Lib.hid (fun h : e2 = 0 => nextB_is (b := b) (r := (k : Int)) (by omega) (by have := HIK.out.2; omega) (by rw [← he2]; exact h))
  have HOK := Lib.hid (And.intro (nextB_ok (b := b) (r := (i : Int)) HO.out.1).1 (nextB_ok (b := b) (r := (k : Int)) HO.out.1).1)
  rw [← hx] at HG1
  rw [← hy] at HG2
  rw [← hx, ← hy] at HOK
  rw [← hx, ← he1] at HA
  rw [← hy, ← he2] at HB
  have HAH := fun W => Lib.hid (HA W)
  have HBH := fun W => Lib.hid (HB W)
  clear HA HB hx he1 hy he2 wk hW0 b0 k0 hpb
  go_wp2_with fail
  refine (HAH _).out.mono ?_
  rintro e W1 ⟨rfl, b1⟩
  go_upto_region 3 with (fail)
  obtain ⟨W2, hW2⟩ : ∃ W, W = W1.alloc (.cells #[.int .u64 (x.n : Int), .int .i64 x.r] 25) := ⟨_, rfl⟩
  rw [← hW2]
  have hb1 := H0.out.1.trans (Below.mono b1 H0.out.1.size)
  obtain ⟨hb2, kx, b2⟩ := alloc2 hb1 hW2
  obtain ⟨px, hpx⟩ : ∃ p, p = W1.heap.size := ⟨_, rfl⟩
  rw [← hpx] at kx ⊢
  have b12 := Below.trans b1 (Below.mono b2 b1.size)
  have kb := (b12.block pb (Array.getElem?_eq_some_iff.1 H0.out.2).1).trans H0.out.2
  clear z0 z1
  have z0 := blk_cell kb 0
  have z1 := blk_cell kb 1
  simp at z0 z1
  have H2 := Lib.hid (And.intro hb2 (And.intro kb kx))
  clear b1 hW2 hb1 hb2 kx b2 hpx b12 kb
  go_wp2_with fail
  refine (HBH _).out.mono ?_
  rintro e W3 ⟨rfl, b3⟩
  go_upto_region 4 with (fail)
  obtain ⟨W4, hW4⟩ : ∃ W, W = W3.alloc (.cells #[.int .u64 (y.n : Int), .int .i64 y.r] 25) := ⟨_, rfl⟩
  rw [← hW4]
  have hb3 := H2.out.1.trans (Below.mono b3 H2.out.1.size)
  obtain ⟨hb4, ky, b4⟩ := alloc2 hb3 hW4
  obtain ⟨py, hpy⟩ : ∃ p, p = W3.heap.size := ⟨_, rfl⟩
  rw [← hpy] at ky ⊢
  have b34 := Below.trans b3 (Below.mono b4 b3.size)
  have kb := (b34.block pb (Array.getElem?_eq_some_iff.1 H2.out.2.1).1).trans H2.out.2.1
  have kx := (b34.block px (Array.getElem?_eq_some_iff.1 H2.out.2.2).1).trans H2.out.2.2
  clear z0 z1
  have z0 := blk_cell kb 0
  have z1 := blk_cell kb 1
  have x0 := blk_cell kx 0
  have x1 := blk_cell kx 1
  have y0 := blk_cell ky 0
  have y1 := blk_cell ky 1
  simp at z0 z1 x0 x1 y0 y1
  have H4 := Lib.hid (And.intro hb4 (And.intro kb (And.intro kx ky)))
  clear b3 hW4 hb3 hb4 kx ky b4 hpy b34 kb HAH HBH
  by_cases hm : b.n = 18446744073709551615 ∧ (e1 ≠ 0 ∨ e2 ≠ 0)
  · have hmi : (b.n : Int) = 18446744073709551615 := by have := hm.1; omega
    obtain ⟨_, hm2⟩ := hm
    by_cases h1 : e1 = 0
    · have h1i : (e1 : Int) = 0 := by omega
      have h2i : ((e2 : Int) == 0) = false := beq_eq_false_iff_ne.2 (by omega)
      clear hm2 h1
      go_wp2_with fail
      refine (HWK.out _ H4.out.1).mono ?_
      rintro e W7 ⟨rfl, b7⟩
      have H7 := Lib.hid b7
      clear b7
      go_wp2
      go_ret
      exact ⟨rfl, H7.out⟩
    · have h1i : ((e1 : Int) == 0) = false := beq_eq_false_iff_ne.2 (by omega)
      clear hm2 h1
      go_wp2_with fail
      refine (HWK.out _ H4.out.1).mono ?_
      rintro e W7 ⟨rfl, b7⟩
      have H7 := Lib.hid b7
      clear b7
      go_wp2
      go_ret
      exact ⟨rfl, H7.out⟩
  · have h1 : e1 = 0 := Decidable.byContradiction fun h => hm ⟨HF1.out h, .inl h⟩
    have h2 : e2 = 0 := Decidable.byContradiction fun h => hm ⟨HF2.out h, .inr h⟩
    have h1i : (e1 : Int) = 0 := by omega
    have h2i : (e2 : Int) = 0 := by omega
    obtain ⟨xr, xn, xlt, xno⟩ := HG1.out h1
    obtain ⟨yr, _, _, _⟩ := HG2.out h2
    have hne : ((x.n : Int) == 0) = false := beq_eq_false_iff_ne.2 (by omega)
    have HL := Lib.hid (less_any b x HO.out.1 HOK.out.1 W4)
    rw [show decide (ltB b x) = true by simpa using xlt] at HL
    have HNO := Lib.hid (xno n)
    have hxne : ¬ i = k → x ≠ y := fun h e => h (by rw [e, yr] at xr; omega)
    obtain ⟨xm, xs⟩ := x
    obtain ⟨ym, ys⟩ := y
    dsimp only at xr yr hne x0 x1 y0 y1 HL
    subst xr yr
    have HXY := Lib.hid hxne
    have HZ := Lib.hid (fun W => less_any b ⟨n, (i : Int)⟩ HO.out.1 ⟨HO.out.2, by show _ ≤ (i : Int); omega, by show (i : Int) ≤ _; have := HIK.out.1; omega⟩ W)
    have HZ2 := Lib.hid (fun W => less_any ⟨n, (i : Int)⟩ ⟨xm, (i : Int)⟩ ⟨HO.out.2, by show _ ≤ (i : Int); omega, by show (i : Int) ≤ _; have := HIK.out.1; omega⟩ HOK.out.1 W)
    clear hm h1 h2 xn xlt xno hxne HG1 HG2 HF1 HF2
    have key : ∀ (V : World), Below W4.heap.size W4 V → V.heap[pb]? = some (.cells #[.int .u64 (b.n : Int), .int .i64 b.r] 25 (0, 0)) ∧ V.heap[px]? = some (.cells #[.int .u64 (xm : Int), .int .i64 (i : Int)] 25 (0, 0)) ∧ Below w.heap.size w V := fun V hV =>
      ⟨(hV.block pb (Array.getElem?_eq_some_iff.1 H4.out.2.1).1).trans H4.out.2.1, (hV.block px (Array.getElem?_eq_some_iff.1 H4.out.2.2.1).1).trans H4.out.2.2.1, H4.out.1.trans (Below.mono hV H4.out.1.size)⟩
    have KEY := Lib.hid key
    clear key
    go_wp2_with fail
    refine HL.out.mono ?_
    rintro e W5 ⟨rfl, b5⟩
    have B5 := Lib.hid b5
    have ky5 := (b5.block py (Array.getElem?_eq_some_iff.1 H4.out.2.2.2).1).trans H4.out.2.2.2
    obtain ⟨kb5, kx5, _⟩ := KEY.out W5 b5
    clear z0 z1 x0 x1 y0 y1
    have x0 := blk_cell kx5 0
    have x1 := blk_cell kx5 1
    have y0 := blk_cell ky5 0
    have y1 := blk_cell ky5 1
    simp at x0 x1 y0 y1
    clear b5 ky5 kb5 kx5 HL
    have hxyr : ¬ i = k → ∀ W, (binOp .eql 25 (.agg #[.int .u64 (xm : Int), .int .i64 (i : Int)]) (.agg #[.int .u64 (ym : Int), .int .i64 (k : Int)])).run Try.prog W = .ok (.bool false) W := fun h W => (eqBA W ⟨xm, (i : Int)⟩ ⟨ym, (k : Int)⟩).trans (by simp only [HXY.out h, decide_false])
    have HXR := Lib.hid hxyr
    clear hxyr HXY
    by_cases hik : i = k
    · subst hik
      clear HXR
      go_wp2_with fail
      refine (of_ba _ _ _).mono ?_
      rintro e W6 ⟨rfl, b6⟩
      go_upto_region 9 with (fail)
      obtain ⟨W7, hW7⟩ : ∃ W, W = W6.alloc (.cells #[.int .u64 (n : Int), .int .i64 (i : Int)] 25) := ⟨_, rfl⟩
      rw [← hW7]
      obtain ⟨b7, kz, _⟩ := boxBA hW7
      obtain ⟨pz, hpz⟩ : ∃ p, p = W6.heap.size := ⟨_, rfl⟩
      rw [← hpz] at kz ⊢
      have b67 := Below.trans b6 (Below.mono b7 b6.size)
      have b47 := Below.trans B5.out (Below.mono b67 B5.out.size)
      obtain ⟨kb, kx, hb7⟩ := KEY.out W7 b47
      clear x0 x1 y0 y1
      have z0 := blk_cell kb 0
      have z1 := blk_cell kb 1
      have x0 := blk_cell kx 0
      have x1 := blk_cell kx 1
      have v0 := blk_cell kz 0
      have v1 := blk_cell kz 1
      simp at z0 z1 x0 x1 v0 v1
      have H7 := Lib.hid (And.intro hb7 (And.intro b47 (And.intro kb (And.intro kx kz))))
      clear b6 hW7 b7 kz hpz b67 b47 kb kx hb7
      by_cases hn0 : n = 0
      · have hn0i : (n : Int) = 0 := by omega
        clear hn0
        go_wp2_with fail
        refine (HWK.out _ H7.out.1).mono ?_
        rintro e W8 ⟨rfl, b8⟩
        have H8 := Lib.hid b8
        clear b8
        go_wp2
        go_ret
        exact ⟨rfl, H8.out⟩
      · have hn0i : ((n : Int) == 0) = false := beq_eq_false_iff_ne.2 (by omega)
        have HC := HZ.out W7
        obtain ⟨t, ht⟩ : ∃ t, t = decide (ltB b ⟨n, (i : Int)⟩) := ⟨_, rfl⟩
        rw [← ht] at HC
        have HCC := Lib.hid HC
        have HT := Lib.hid ht
        clear HC ht
        go_wp2_with fail
        refine HCC.out.mono ?_
        rintro e W8 ⟨rfl, b8⟩
        have kz8 := (b8.block pz (Array.getElem?_eq_some_iff.1 H7.out.2.2.2.2).1).trans H7.out.2.2.2.2
        have kx8 := (b8.block px (Array.getElem?_eq_some_iff.1 H7.out.2.2.2.1).1).trans H7.out.2.2.2.1
        have H8 := Lib.hid (H7.out.1.trans (Below.mono b8 H7.out.1.size))
        clear z0 z1 x0 x1 v0 v1
        have x0 := blk_cell kx8 0
        have x1 := blk_cell kx8 1
        have v0 := blk_cell kz8 0
        have v1 := blk_cell kz8 1
        simp at x0 x1 v0 v1
        clear b8 kz8 kx8
        cases t with
        | false =>
          go_wp2_with fail
          refine (HWK.out _ H8.out).mono ?_
          rintro e W9 ⟨rfl, b9⟩
          have H9 := Lib.hid b9
          clear b9
          go_wp2
          go_ret
          exact ⟨rfl, H9.out⟩
        | true =>
          have hlt : ltB b ⟨n, (i : Int)⟩ := by simpa using HT.out.symm
          have hnl : ¬ ltB ⟨n, (i : Int)⟩ ⟨xm, (i : Int)⟩ := by
            rcases HNO.out with h | h | h
            · exact absurd h hn0
            · exact absurd hlt h
            · exact h
          have HC := HZ2.out W8
          rw [show decide (ltB ⟨n, (i : Int)⟩ ⟨xm, (i : Int)⟩) = false by simpa using hnl] at HC
          have HCC := Lib.hid HC
          clear HC hlt hnl
          go_wp2_with fail
          refine HCC.out.mono ?_
          rintro e W9 ⟨rfl, b9⟩
          have H9 := Lib.hid (H8.out.trans (Below.mono b9 H8.out.size))
          clear b9
          go_wp2_with fail
          refine (HWK.out _ H9.out).mono ?_
          rintro e W10 ⟨rfl, b10⟩
          have H10 := Lib.hid b10
          clear b10
          go_wp2
          go_ret
          exact ⟨rfl, H10.out⟩
    · have hiki : ¬ (i : Int) = (k : Int) := by omega
      have hrun := HXR.out hik
      clear HXR hik
      go_wp2_with fail
      refine (of_ba _ _ _).mono ?_
      rintro e W6 ⟨rfl, b6⟩
      go_upto_region 9 with (fail)
      obtain ⟨W7, hW7⟩ : ∃ W, W = W6.alloc (.cells #[.int .u64 (n : Int), .int .i64 (i : Int)] 25) := ⟨_, rfl⟩
      rw [← hW7]
      obtain ⟨b7, kz, _⟩ := boxBA hW7
      obtain ⟨pz, hpz⟩ : ∃ p, p = W6.heap.size := ⟨_, rfl⟩
      rw [← hpz] at kz ⊢
      have b67 := Below.trans b6 (Below.mono b7 b6.size)
      have b47 := Below.trans B5.out (Below.mono b67 B5.out.size)
      obtain ⟨kb, kx, hb7⟩ := KEY.out W7 b47
      clear x0 x1 y0 y1
      have z0 := blk_cell kb 0
      have z1 := blk_cell kb 1
      have x0 := blk_cell kx 0
      have x1 := blk_cell kx 1
      have v0 := blk_cell kz 0
      have v1 := blk_cell kz 1
      simp at z0 z1 x0 x1 v0 v1
      have H7 := Lib.hid (And.intro hb7 (And.intro b47 (And.intro kb (And.intro kx kz))))
      clear b6 hW7 b7 kz hpz b67 b47 kb kx hb7
      by_cases hn0 : n = 0
      · have hn0i : (n : Int) = 0 := by omega
        clear hn0
        go_wp2_with fail
        refine (HWK.out _ H7.out.1).mono ?_
        rintro e W8 ⟨rfl, b8⟩
        have H8 := Lib.hid b8
        clear b8
        go_wp2
        go_ret
        exact ⟨rfl, H8.out⟩
      · have hn0i : ((n : Int) == 0) = false := beq_eq_false_iff_ne.2 (by omega)
        have HC := HZ.out W7
        obtain ⟨t, ht⟩ : ∃ t, t = decide (ltB b ⟨n, (i : Int)⟩) := ⟨_, rfl⟩
        rw [← ht] at HC
        have HCC := Lib.hid HC
        have HT := Lib.hid ht
        clear HC ht
        go_wp2_with fail
        refine HCC.out.mono ?_
        rintro e W8 ⟨rfl, b8⟩
        have kz8 := (b8.block pz (Array.getElem?_eq_some_iff.1 H7.out.2.2.2.2).1).trans H7.out.2.2.2.2
        have kx8 := (b8.block px (Array.getElem?_eq_some_iff.1 H7.out.2.2.2.1).1).trans H7.out.2.2.2.1
        have H8 := Lib.hid (H7.out.1.trans (Below.mono b8 H7.out.1.size))
        clear z0 z1 x0 x1 v0 v1
        have x0 := blk_cell kx8 0
        have x1 := blk_cell kx8 1
        have v0 := blk_cell kz8 0
        have v1 := blk_cell kz8 1
        simp at x0 x1 v0 v1
        clear b8 kz8 kx8
        cases t with
        | false =>
          go_wp2_with fail
          refine (HWK.out _ H8.out).mono ?_
          rintro e W9 ⟨rfl, b9⟩
          have H9 := Lib.hid b9
          clear b9
          go_wp2
          go_ret
          exact ⟨rfl, H9.out⟩
        | true =>
          have hlt : ltB b ⟨n, (i : Int)⟩ := by simpa using HT.out.symm
          have hnl : ¬ ltB ⟨n, (i : Int)⟩ ⟨xm, (i : Int)⟩ := by
            rcases HNO.out with h | h | h
            · exact absurd h hn0
            · exact absurd hlt h
            · exact h
          have HC := HZ2.out W8
          rw [show decide (ltB ⟨n, (i : Int)⟩ ⟨xm, (i : Int)⟩) = false by simpa using hnl] at HC
          have HCC := Lib.hid HC
          clear HC hlt hnl
          go_wp2_with fail
          refine HCC.out.mono ?_
          rintro e W9 ⟨rfl, b9⟩
          have H9 := Lib.hid (H8.out.trans (Below.mono b9 H8.out.size))
          clear b9
          go_wp2_with fail
          refine (HWK.out _ H9.out).mono ?_
          rintro e W10 ⟨rfl, b10⟩
          have H10 := Lib.hid b10
          clear b10
          go_wp2
          go_ret
          exact ⟨rfl, H10.out⟩
end Go.Proofs.Ytkeaeahiokgkiaa
