/- The landed Max. -/
import Derived.Test.YtkeaeahiokgkiaaBlMx
namespace Go.Proofs.Ytkeaeahiokgkiaa
open Go.RowKit

/-- The rounds of the landed Max. -/
structure MaxJ (w : World) (g q : Nat) (l : List BA) (j : Nat) (W : World) : Prop where
  below : Below w.heap.size w W
  kg : W.heap[g]? = some (.cells #[.int .u64 0, .int .i64 0] 25 (0, 0))
  kq : W.heap[q]? = some (.cells #[.int .u64 ((maxB (l.take j)).n : Int), .int .i64 (maxB (l.take j)).r] 25 (0, 0))
set_option maxRecDepth 100000 in
set_option maxHeartbeats 4000000 in
theorem max_any (A : Option Addr) (L c : Nat) (l : List BA) (w : World) (hL : L = l.length) (hLm : L ≤ 1000) (hA : HasBA w A l) :
    Calls Try.prog 13 #[.slice A L c] w fun e W' => e = .returned (.agg #[.int .u64 ((maxB l).n : Int), .int .i64 (maxB l).r]) ∧ Below w.heap.size w W' := by
  have HL := Lib.hid hL
  have HA := Lib.hid hA
  have hLi : (L : Int) ≤ 1000 := by omega
  clear hL hA
  go_enter Try.func13, Try.ntmps13
  go_upto_region 2 with (fail)
  obtain ⟨W0, hW0⟩ : ∃ W0, W0 = w.alloc (.cells #[.int .u64 0, .int .i64 0] 25) := ⟨_, rfl⟩
  rw [← hW0]
  obtain ⟨W1, hW1⟩ : ∃ W1, W1 = W0.alloc (.cells #[.int .u64 0, .int .i64 0] 25) := ⟨_, rfl⟩
  rw [← hW1]
  obtain ⟨b0, k0, s0⟩ := boxBA hW0
  obtain ⟨b1, k1, s1⟩ := boxBA hW1
  have k0' := (b1.block _ (by omega)).trans k0
  obtain ⟨g, hg⟩ : ∃ p, p = w.heap.size := ⟨_, rfl⟩
  rw [s0] at k1
  rw [← hg] at k0' k1 ⊢
  obtain ⟨q, hq⟩ : ∃ p, p = g + 1 := ⟨_, rfl⟩
  rw [← hq] at k1 ⊢
  have S1 : Hid (MaxJ w g q l 0 W1) := Lib.hid ⟨b0.trans (Below.mono b1 b0.size), k0', by rw [maxB_zero]; exact k1⟩
  have HQ := Lib.hid (And.intro (show w.heap.size ≤ g by omega) (And.intro (show w.heap.size ≤ q by omega) (show g ≠ q by omega)))
  clear hW0 hW1 b0 b1 k0 k1 k0' s0 s1 hg hq
  go_wp2
  go_loopw [4, 5, 8] (fun v4 v5 v8 wr => ∃ j : Nat, j ≤ L ∧ v8 = .int .i64 (j : Int) ∧ Hid (MaxJ w g q l j wr)) (fun _ _ j _ => L - (intOf j).toNat)
  case atStart => exact ⟨0, Nat.zero_le _, rfl, S1⟩
  case round =>
    obtain ⟨j, hj, rfl, HI⟩ := hrel
    obtain ⟨m, hm⟩ : ∃ m, m = maxB (l.take j) := ⟨_, rfl⟩
    have kq := HI.out.kq
    rw [← hm] at kq
    have kg := HI.out.kg
    have hb := HI.out.below
    by_cases hlt : j < L
    · have hji : (j : Int) < L := by omega
      have hj1 : j < l.length := by have := HL.out; omega
      obtain ⟨bb, o, e1, l1, f1⟩ := HA.out (by rintro rfl; simp at hj1)
      subst e1
      obtain ⟨_, a0, a1⟩ := f1 j hj1
      obtain ⟨y, hy⟩ : ∃ y, y = l[j] := ⟨_, rfl⟩
      rw [← hy] at a0 a1
      have d0 : wr.cell? ⟨bb, o + j * 2, none⟩ = some (.int .u64 (y.n : Int)) := (hb.cell (p := ⟨bb, _, none⟩) l1).trans a0
      have d1 : wr.cell? ⟨bb, o + j * 2 + 1, none⟩ = some (.int .i64 y.r) := (hb.cell (p := ⟨bb, _, none⟩) l1).trans a1
      have HMJ := Lib.hid (And.intro hm (And.intro hy hj1))
      have HK := Lib.hid (And.intro kq (And.intro kg hb))
      clear a0 a1 l1 f1 hm hy kq kg hb
      go_upto_region 5 with (fail)
      obtain ⟨V, hV⟩ : ∃ V, V = wr.alloc (.cells #[.int .u64 (y.n : Int), .int .i64 y.r] 25) := ⟨_, rfl⟩
      rw [← hV]
      obtain ⟨b1, k1, s1⟩ := boxBA hV
      obtain ⟨p, hp⟩ : ∃ p, p = wr.heap.size := ⟨_, rfl⟩
      rw [← hp] at k1 ⊢
      have kq := (b1.block q (Array.getElem?_eq_some_iff.1 HK.out.1).1).trans HK.out.1
      have kg := (b1.block g (Array.getElem?_eq_some_iff.1 HK.out.2.1).1).trans HK.out.2.1
      have hb := HK.out.2.2.trans (Below.mono b1 HK.out.2.2.size)
      have y0 := blk_cell k1 0
      have y1 := blk_cell k1 1
      have x0 := blk_cell kq 0
      have x1 := blk_cell kq 1
      have u0 := blk_frozen kq 0
      have u1 := blk_frozen kq 1
      simp at y0 y1 x0 x1
      obtain ⟨Z, hZ⟩ : ∃ Z, Z = (V.setCell ⟨q, 0, none⟩ (.int .u64 (y.n : Int))).setCell ⟨q, 1, none⟩ (.int .i64 y.r) := ⟨_, rfl⟩
      obtain ⟨g1, _, _, g4⟩ := finBA hb kq HQ.out.2.1 _ _ Z hZ
      have kg2 : Z.heap[g]? = some (.cells #[.int .u64 0, .int .i64 0] 25 (0, 0)) := by rw [hZ]; exact setOther _ _ HQ.out.2.2 kg
      have HS : Hid (maxB (l.take (j + 1)) = y → MaxJ w g q l (j + 1) Z) := Lib.hid fun e => ⟨g1, kg2, by rw [e]; exact g4⟩
      have HN : Hid (maxB (l.take (j + 1)) = m → MaxJ w g q l (j + 1) V) := Lib.hid fun e => ⟨hb, kg, by rw [e]; exact kq⟩
      clear g1 g4 kg2 kg hb kq b1 k1 s1 hp HK hV
      by_cases hj0 : j = 0
      · have hj0i : (j : Int) = 0 := by omega
        have H5 := Lib.hid (HS.out (by rw [HMJ.out.2.1]; subst hj0; exact maxB_one _))
        clear hj0
        go_wp2
        all_goals
          rw [← hZ]
          exact ⟨⟨j + 1, by omega, by congr 1; try omega, H5⟩, by simp only [intOf]; omega⟩
      · have hj0i : ¬ (j : Int) = 0 := by omega
        have hj2 := HMJ.out.2.2
        have hsucc := maxB_succ hj0 hj2
        rw [← HMJ.out.1, ← HMJ.out.2.1] at hsucc
        unfold stepB at hsucc
        by_cases h1 : m.n < y.n
        · have h1i : (m.n : Int) < y.n := by omega
          have H5 := Lib.hid (HS.out (by rw [hsucc, if_pos (.inl h1)]))
          clear hj0 hsucc h1
          go_wp2
          all_goals
            rw [← hZ]
            exact ⟨⟨j + 1, by omega, by congr 1, H5⟩, by simp only [intOf]; omega⟩
        · have h1i : ¬ (m.n : Int) < y.n := by omega
          by_cases h2 : y.n = m.n
          · have h2i : (y.n : Int) = m.n := by omega
            by_cases h3 : m.r < y.r
            · have H5 := Lib.hid (HS.out (by rw [hsucc, if_pos (.inr ⟨h2.symm, h3⟩)]))
              clear hj0 hsucc h1 h2
              go_wp2
              all_goals
                rw [h2i] at hZ
                rw [← hZ]
                exact ⟨⟨j + 1, by omega, by congr 1, H5⟩, by simp only [intOf]; omega⟩
            · have H5 := Lib.hid (HN.out (by rw [hsucc, if_neg (by unfold ltB; omega)]))
              clear hj0 hsucc h1 h2
              go_wp2
              exact ⟨⟨j + 1, by omega, by congr 1, H5⟩, by simp only [intOf]; omega⟩
          · have h2i : ¬ (y.n : Int) = m.n := by omega
            have H5 := Lib.hid (HN.out (by rw [hsucc, if_neg (by unfold ltB; omega)]))
            clear hj0 hsucc h1 h2
            go_wp2
            exact ⟨⟨j + 1, by omega, by congr 1, H5⟩, by simp only [intOf]; omega⟩
    · have hji : ¬ (j : Int) < L := by omega
      have hmm : m = maxB l := by rw [hm, List.take_of_length_le (by have := HL.out; omega)]
      rw [hmm] at kq
      have y0 := blk_cell kq 0
      have y1 := blk_cell kq 1
      have z0 := blk_cell kg 0
      have z1 := blk_cell kg 1
      have u0 := blk_frozen kg 0
      have u1 := blk_frozen kg 1
      simp at y0 y1 z0 z1
      obtain ⟨V, hV⟩ : ∃ V, V = (wr.setCell ⟨g, 0, none⟩ (.int .u64 ((maxB l).n : Int))).setCell ⟨g, 1, none⟩ (.int .i64 (maxB l).r) := ⟨_, rfl⟩
      obtain ⟨f1, f2, f3, _⟩ := finBA hb kg HQ.out.1 _ _ V hV
      have HF := Lib.hid f1
      clear f1 kg kq hb hm hmm
      go_wp2
      rw [← hV]
      exact bodyPost_ret (v := .agg #[.int .u64 ((maxB l).n : Int), .int .i64 (maxB l).r]) (by simp [results, Try.results13, go_sem, f2, f3]) rfl ⟨rfl, HF.out⟩
end Go.Proofs.Ytkeaeahiokgkiaa
