/- The document's own Less and Next; a ballot of a number and a replica. -/
import Derived.Test.YtkeaeahiokgkiaaBlW
import Derived.Test.YtkeaeahiokgkiaaStepC
import Derived.Deep.DeepCutAuto
namespace Go.Proofs.Ytkeaeahiokgkiaa
open Go.RowKit

set_option maxRecDepth 100000 in
set_option maxHeartbeats 1000000 in
theorem of_ba (n r : Int) (w : World) : Calls Try.prog 20 #[.int .u64 n, .int .i64 r] w fun e W' => e = .returned (.agg #[.int .u64 n, .int .i64 r]) ∧ Below w.heap.size w W' := by
  go_enter Try.func20, Try.ntmps20
  go_upto_region 1 with (fail)
  obtain ⟨W0, hW0⟩ : ∃ W0, W0 = w.alloc (.cells #[.int .u64 0, .int .i64 0] 25) := ⟨_, rfl⟩
  rw [← hW0]
  obtain ⟨b0, k0, s0⟩ := boxBA hW0
  obtain ⟨p, hp⟩ : ∃ p, p = w.heap.size := ⟨_, rfl⟩
  rw [← hp] at k0 ⊢
  have z0 := blk_cell k0 0
  have z1 := blk_cell k0 1
  have u0 := blk_frozen k0 0
  have u1 := blk_frozen k0 1
  simp at z0 z1
  obtain ⟨W1, hW1⟩ : ∃ W1, W1 = (W0.setCell ⟨p, 0, none⟩ (.int .u64 n)).setCell ⟨p, 1, none⟩ (.int .i64 r) := ⟨_, rfl⟩
  have k1 := blk_set (blk_set k0 0 (.int .u64 n)) 1 (.int .i64 r)
  rw [← hW1] at k1
  have y0 := blk_cell k1 0
  have y1 := blk_cell k1 1
  simp at y0 y1
  have hb : Below w.heap.size w W1 := by
    rw [hW1]
    exact (b0.setCell (p := ⟨p, 0, none⟩) (by simp; omega) _).setCell (p := ⟨p, 1, none⟩) (by simp; omega) _
  have HB := Lib.hid hb
  clear hb k1 b0 k0 s0 hp hW0
  go_wp2
  rw [← hW1]
  exact bodyPost_ret (v := .agg #[.int .u64 n, .int .i64 r]) (by simp [results, Try.results20, go_sem, y0, y1]) rfl ⟨rfl, HB.out⟩
set_option maxRecDepth 100000 in
set_option maxHeartbeats 1000000 in
theorem refLess_any (a b : BA) (w : World) : Calls Try.prog 12 #[.agg #[.int .u64 (a.n : Int), .int .i64 a.r], .agg #[.int .u64 (b.n : Int), .int .i64 b.r]] w fun e W' => e = .returned (.bool (decide (ltB a b))) ∧ Below w.heap.size w W' := by
  obtain ⟨t, ht⟩ : ∃ t, t = decide (ltB a b) := ⟨_, rfl⟩
  rw [← ht]
  have HT := Lib.hid ht
  clear ht
  go_enter Try.func12, Try.ntmps12
  go_upto_region 1 with (fail)
  obtain ⟨W0, hW0⟩ : ∃ W0, W0 = w.alloc (.cells #[.int .u64 (a.n : Int), .int .i64 a.r] 25) := ⟨_, rfl⟩
  rw [← hW0]
  obtain ⟨W1, hW1⟩ : ∃ W1, W1 = W0.alloc (.cells #[.int .u64 (b.n : Int), .int .i64 b.r] 25) := ⟨_, rfl⟩
  rw [← hW1]
  obtain ⟨b0, k0, s0⟩ := boxBA hW0
  obtain ⟨b1, k1, s1⟩ := boxBA hW1
  have k0' := (b1.block _ (by omega)).trans k0
  rw [s0] at k1
  have z0 := blk_cell k0' 0
  have z1 := blk_cell k0' 1
  have z2 := blk_cell k1 0
  have z3 := blk_cell k1 1
  simp at z0 z1 z2 z3
  have HB := Lib.hid (b0.trans (Below.mono b1 b0.size))
  clear hW0 hW1 b0 b1 k0 k1 k0' s0 s1
  by_cases h1 : a.n < b.n
  · have hi : (a.n : Int) < b.n := by omega
    obtain rfl : t = true := by rw [HT.out, decide_eq_true_eq]; exact .inl h1
    go_wp2
    go_ret
    exact ⟨rfl, HB.out⟩
  · have hi : ¬ (a.n : Int) < b.n := by omega
    by_cases h2 : a.n = b.n
    · have hj : (a.n : Int) = b.n := by omega
      by_cases h3 : a.r < b.r
      · obtain rfl : t = true := by rw [HT.out, decide_eq_true_eq]; exact .inr ⟨h2, h3⟩
        go_wp2
        go_ret
        exact ⟨rfl, HB.out⟩
      · obtain rfl : t = false := by rw [HT.out, decide_eq_false_iff_not]; unfold ltB; omega
        go_wp2
        go_ret
        exact ⟨rfl, HB.out⟩
    · have hj : ¬ (a.n : Int) = b.n := by omega
      obtain rfl : t = false := by rw [HT.out, decide_eq_false_iff_not]; unfold ltB; omega
      go_wp2
      go_ret
      exact ⟨rfl, HB.out⟩
end Go.Proofs.Ytkeaeahiokgkiaa
