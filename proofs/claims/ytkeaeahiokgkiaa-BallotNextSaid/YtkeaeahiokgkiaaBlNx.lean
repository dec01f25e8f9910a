/- The document's own Next. -/
import Derived.Test.YtkeaeahiokgkiaaBlRef
namespace Go.Proofs.Ytkeaeahiokgkiaa
open Go.RowKit

/-- A ballot set in a block. -/
theorem finBA {w W : World} {g : Nat} {x0 y0 : Value} {t : TypeId} (hb : Below w.heap.size w W) (k : W.heap[g]? = some (.cells #[x0, y0] t (0, 0))) (hg : w.heap.size ≤ g) (x y : Value) (V : World) (hV : V = (W.setCell ⟨g, 0, none⟩ x).setCell ⟨g, 1, none⟩ y) :
    Below w.heap.size w V ∧ V.cell? ⟨g, 0, none⟩ = some x ∧ V.cell? ⟨g, 1, none⟩ = some y ∧ V.heap[g]? = some (.cells #[x, y] t (0, 0)) := by
  subst hV
  have k3 := blk_set (blk_set k 0 x) 1 y
  refine ⟨(hb.setCell (p := ⟨g, 0, none⟩) hg _).setCell (p := ⟨g, 1, none⟩) hg _, ?_, ?_, by simpa using k3⟩
  · simpa using blk_cell k3 0
  · simpa using blk_cell k3 1
theorem setOther {W : World} {g h : Nat} {o : Obj} (x y : Value) (hne : h ≠ g) (k : W.heap[h]? = some o) : ((W.setCell ⟨g, 0, none⟩ x).setCell ⟨g, 1, none⟩ y).heap[h]? = some o :=
  ((grownBy_trans (grownBy_set W g 0 x) (grownBy_set _ g 1 y)).block h (Array.getElem?_eq_some_iff.1 k).1 (fun e => hne (by cases e; rfl))).trans k
set_option maxRecDepth 100000 in
set_option maxHeartbeats 2000000 in
theorem refNext_any (b : BA) (r : Int) (hb : b.ok) (w : World) : Calls Try.prog 10 #[.agg #[.int .u64 (b.n : Int), .int .i64 b.r], .int .i64 r] w fun e W' => e = .returned (.tuple #[.agg #[.int .u64 ((nextB b r).1.n : Int), .int .i64 (nextB b r).1.r], .int .i64 ((nextB b r).2 : Int)]) ∧ Below w.heap.size w W' := by
  have HL := fun (c : BA) (W : World) => Lib.hid (refLess_any b c W)
  have HN := Lib.hid hb.n
  obtain ⟨x, hx⟩ : ∃ x, x = nextB b r := ⟨_, rfl⟩
  rw [← hx]
  have HX := Lib.hid hx
  clear hx hb
  go_enter Try.func10, Try.ntmps10
  go_upto_region 1 with (fail)
  obtain ⟨W0, hW0⟩ : ∃ W0, W0 = w.alloc (.cells #[.int .u64 (b.n : Int), .int .i64 b.r] 25) := ⟨_, rfl⟩
  rw [← hW0]
  obtain ⟨W1, hW1⟩ : ∃ W1, W1 = W0.alloc (.cells #[.int .u64 0, .int .i64 0] 25) := ⟨_, rfl⟩
  rw [← hW1]
  obtain ⟨b0, k0, s0⟩ := boxBA hW0
  obtain ⟨b1, k1, s1⟩ := boxBA hW1
  have k0' := (b1.block _ (by omega)).trans k0
  rw [s0] at k1
  obtain ⟨p, hp⟩ : ∃ p, p = w.heap.size := ⟨_, rfl⟩
  rw [← hp] at k0' k1 s0 ⊢
  obtain ⟨g, hg⟩ : ∃ g, g = p + 1 := ⟨_, rfl⟩
  rw [← hg] at k1 s0 ⊢
  have hb1 := b0.trans (Below.mono b1 b0.size)
  have z0 := blk_cell k0' 0
  have z1 := blk_cell k0' 1
  have y0 := blk_cell k1 0
  have y1 := blk_cell k1 1
  have u0 := blk_frozen k1 0
  have u1 := blk_frozen k1 1
  simp at z0 z1 y0 y1
  have HB := Lib.hid (And.intro hb1 (And.intro k0' (And.intro k1 (And.intro (show w.heap.size ≤ g by omega) (show p < g by omega)))))
  have S1 := Lib.hid (show W1.heap.size = g + 1 by omega)
  clear hb1 k0' k1 hg hp s0 s1 b0 b1 k0 hW0 hW1
  by_cases hbad : r < 0 ∨ 6 < r
  · obtain ⟨V, hV⟩ : ∃ V, V = (W1.setCell ⟨g, 0, none⟩ (.int .u64 0)).setCell ⟨g, 1, none⟩ (.int .i64 0) := ⟨_, rfl⟩
    obtain ⟨f1, f2, f3, _⟩ := finBA HB.out.1 HB.out.2.2.1 HB.out.2.2.2.1 _ _ V hV
    have HF := Lib.hid f1
    obtain rfl : x = (B0, 1) := by rw [HX.out]; unfold nextB; rw [if_pos hbad]
    clear f1
    by_cases h1 : r < 0
    · clear hbad
      go_wp2
      rw [← hV]
      exact bodyPost_ret (v := .tuple #[.agg #[.int .u64 0, .int .i64 0], .int .i64 1]) (by simp [results, Try.results10, go_sem, f2, f3]) rfl ⟨rfl, HF.out⟩
    · have h2 : 6 < r := by omega
      clear hbad
      go_wp2
      rw [← hV]
      exact bodyPost_ret (v := .tuple #[.agg #[.int .u64 0, .int .i64 0], .int .i64 1]) (by simp [results, Try.results10, go_sem, f2, f3]) rfl ⟨rfl, HF.out⟩
  · have h1 : ¬ r < 0 := by omega
    have h2 : ¬ 6 < r := by omega
    have HR := Lib.hid hbad
    clear hbad
    go_upto_region 4 with (fail)
    obtain ⟨W2, hW2⟩ : ∃ V, V = W1.alloc (.cells #[.int .u64 (b.n : Int), .int .i64 r] 25) := ⟨_, rfl⟩
    rw [← hW2]
    obtain ⟨ba, kq, sa⟩ := boxBA hW2
    obtain ⟨q, hq⟩ : ∃ q, q = W1.heap.size := ⟨_, rfl⟩
    rw [← hq] at kq ⊢
    have f1 := HB.out.1.trans (Below.mono ba HB.out.1.size)
    have kp := (ba.block p (Array.getElem?_eq_some_iff.1 HB.out.2.1).1).trans HB.out.2.1
    have kg := (ba.block g (Array.getElem?_eq_some_iff.1 HB.out.2.2.1).1).trans HB.out.2.2.1
    have f2 := blk_cell kq 0
    have f3 := blk_cell kq 1
    simp at f2 f3
    have HW := Lib.hid (And.intro f1 (And.intro kp (And.intro kg kq)))
    have z0 := blk_cell kp 0
    have z1 := blk_cell kp 1
    have y0 := blk_cell kg 0
    have y1 := blk_cell kg 1
    have u0 := blk_frozen kg 0
    have u1 := blk_frozen kg 1
    simp at z0 z1 y0 y1
    clear f1 kp kg kq hW2 ba sa hq S1
    by_cases hn0 : b.n = 0
    · have hi : (b.n : Int) = 0 := by omega
      have hm : ¬ (b.n : Int) = 18446744073709551615 := by omega
      obtain rfl : x = (⟨b.n + 1, r⟩, 0) := by rw [HX.out]; unfold nextB; rw [if_neg HR.out, if_neg (fun h => h.1 hn0), if_neg (by omega)]
      obtain ⟨V, hV⟩ : ∃ V, V = (W2.setCell ⟨g, 0, none⟩ (.int .u64 ((b.n : Int) + 1))).setCell ⟨g, 1, none⟩ (.int .i64 r) := ⟨_, rfl⟩
      obtain ⟨f1, g2, g3, _⟩ := finBA HW.out.1 HW.out.2.2.1 HB.out.2.2.2.1 _ _ V hV
      have HF := Lib.hid f1
      clear f1
      have hlt : (b.n : Int) + 1 < 18446744073709551616 := by omega
      clear hn0
      rw [hi] at z0 hV g2
      simp at hV g2
      go_wp2
      rw [← hV]
      exact bodyPost_ret (v := .tuple #[.agg #[.int .u64 1, .int .i64 r], .int .i64 0]) (by simp [results, Try.results10, go_sem, g2, g3]) rfl ⟨rfl, HF.out⟩
    · have hi : ¬ (b.n : Int) = 0 := by omega
      have HC := HL ⟨b.n, r⟩ W2
      obtain ⟨t, ht⟩ : ∃ t, t = decide (ltB b ⟨b.n, r⟩) := ⟨_, rfl⟩
      rw [← ht] at HC
      have HT := Lib.hid ht
      clear ht
      go_wp2_with fail
      refine HC.out.mono ?_
      rintro e W3 ⟨rfl, b3⟩
      have kp := (b3.block p (Array.getElem?_eq_some_iff.1 HW.out.2.1).1).trans HW.out.2.1
      have kg := (b3.block g (Array.getElem?_eq_some_iff.1 HW.out.2.2.1).1).trans HW.out.2.2.1
      have kq := (b3.block q (Array.getElem?_eq_some_iff.1 HW.out.2.2.2).1).trans HW.out.2.2.2
      have hb3 := HW.out.1.trans (Below.mono b3 HW.out.1.size)
      clear z0 z1 y0 y1 u0 u1 f2 f3
      have z0 := blk_cell kp 0
      have y0 := blk_cell kg 0
      have y1 := blk_cell kg 1
      have u0 := blk_frozen kg 0
      have u1 := blk_frozen kg 1
      have x0 := blk_cell kq 0
      have x1 := blk_cell kq 1
      simp at z0 y0 y1 x0 x1
      have FI := fun x y V hV => finBA (x0 := .int .u64 0) (y0 := .int .i64 0) hb3 kg HB.out.2.2.2.1 x y V hV
      have HFI := Lib.hid FI
      clear FI kp kg kq hb3 b3
      cases t with
      | true =>
        obtain rfl : x = (⟨b.n, r⟩, 0) := by rw [HX.out]; unfold nextB; rw [if_neg HR.out, if_pos ⟨hn0, by simpa using HT.out.symm⟩]
        obtain ⟨V, hV⟩ : ∃ V, V = (W3.setCell ⟨g, 0, none⟩ (.int .u64 (b.n : Int))).setCell ⟨g, 1, none⟩ (.int .i64 r) := ⟨_, rfl⟩
        obtain ⟨f1, g2, g3, _⟩ := HFI.out _ _ V hV
        have HF := Lib.hid f1
        clear f1
        go_wp2
        rw [← hV]
        exact bodyPost_ret (v := .tuple #[.agg #[.int .u64 (b.n : Int), .int .i64 r], .int .i64 0]) (by simp [results, Try.results10, go_sem, g2, g3]) rfl ⟨rfl, HF.out⟩
      | false =>
        have hnl : ¬ ltB b ⟨b.n, r⟩ := by simpa using HT.out.symm
        by_cases hm : b.n = 18446744073709551615
        · have hmi : (b.n : Int) = 18446744073709551615 := by omega
          obtain rfl : x = (B0, 30) := by rw [HX.out]; unfold nextB; rw [if_neg HR.out, if_neg (fun h => hnl h.2), if_pos hm]
          obtain ⟨V, hV⟩ : ∃ V, V = (W3.setCell ⟨g, 0, none⟩ (.int .u64 0)).setCell ⟨g, 1, none⟩ (.int .i64 0) := ⟨_, rfl⟩
          obtain ⟨f1, g2, g3, _⟩ := HFI.out _ _ V hV
          have HF := Lib.hid f1
          clear f1
          go_wp2
          rw [← hV]
          exact bodyPost_ret (v := .tuple #[.agg #[.int .u64 0, .int .i64 0], .int .i64 30]) (by simp [results, Try.results10, go_sem, g2, g3]) rfl ⟨rfl, HF.out⟩
        · have hmi : ((b.n : Int) == 18446744073709551615) = false := beq_eq_false_iff_ne.2 (by omega)
          have hlt : (b.n : Int) + 1 < 18446744073709551616 := by have := HN.out; omega
          obtain rfl : x = (⟨b.n + 1, r⟩, 0) := by rw [HX.out]; unfold nextB; rw [if_neg HR.out, if_neg (fun h => hnl h.2), if_neg hm]
          obtain ⟨V, hV⟩ : ∃ V, V = (W3.setCell ⟨g, 0, none⟩ (.int .u64 ((b.n : Int) + 1))).setCell ⟨g, 1, none⟩ (.int .i64 r) := ⟨_, rfl⟩
          obtain ⟨f1, g2, g3, _⟩ := HFI.out _ _ V hV
          have HF := Lib.hid f1
          clear f1 hm hnl hn0
          go_wp2
          rw [← hV]
          exact bodyPost_ret (v := .tuple #[.agg #[.int .u64 ((b.n : Int) + 1), .int .i64 r], .int .i64 0]) (by simp [results, Try.results10, go_sem, g2, g3]) rfl ⟨rfl, HF.out⟩
end Go.Proofs.Ytkeaeahiokgkiaa
