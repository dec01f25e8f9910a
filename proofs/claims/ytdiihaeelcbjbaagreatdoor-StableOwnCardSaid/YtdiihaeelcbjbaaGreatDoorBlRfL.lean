/- The document's own Less. -/
import Derived.Test.YtdiihaeelcbjbaaGreatDoorBlW
import Derived.Test.YtdiihaeelcbjbaaGreatDoorMStep
import Derived.Deep.DeepCutAuto
namespace Go.Proofs.YtdiihaeelcbjbaaGreatDoor
open Go.RowKit

set_option maxRecDepth 100000 in
set_option maxHeartbeats 1000000 in
theorem refLess_any (a b : BA) (w : World) : Calls Tryz.prog 48 #[.agg #[.int .u64 (a.n : Int), .int .i64 a.r], .agg #[.int .u64 (b.n : Int), .int .i64 b.r]] w fun e W' => e = .returned (.bool (decide (ltB a b))) ∧ Below w.heap.size w W' := by
  obtain ⟨t, ht⟩ : ∃ t, t = decide (ltB a b) := ⟨_, rfl⟩
  rw [← ht]
  have HT := Lib.hid ht
  clear ht
  go_enter Tryz.func48, Tryz.ntmps48
  go_upto_region 1 with (fail)
  obtain ⟨W0, hW0⟩ : ∃ W0, W0 = w.alloc (.cells #[.int .u64 (a.n : Int), .int .i64 a.r] 25) := ⟨_, rfl⟩
  rw [← hW0]
  obtain ⟨W1, hW1⟩ : ∃ W1, W1 = W0.alloc (.cells #[.int .u64 (b.n : Int), .int .i64 b.r] 25) := ⟨_, rfl⟩
  rw [← hW1]
  obtain ⟨b0, k0, s0⟩ := boxBA hW0
  obtain ⟨b1, k1, s1⟩ := boxBA hW1
  have k0' := (b1.block _ (by omega)).trans k0
  rw [s0] at k1
  have z0 := blk_cell k0' 0
  have z1 := blk_cell k0' 1
  have z2 := blk_cell k1 0
  have z3 := blk_cell k1 1
  simp at z0 z1 z2 z3
  have HB := Lib.hid (b0.trans (Below.mono b1 b0.size))
  clear hW0 hW1 b0 b1 k0 k1 k0' s0 s1
  by_cases h1 : a.n < b.n
  · have hi : (a.n : Int) < b.n := by omega
    obtain rfl : t = true := by rw [HT.out, decide_eq_true_eq]; exact .inl h1
    go_wp2
    go_ret
    exact ⟨rfl, HB.out⟩
  · have hi : ¬ (a.n : Int) < b.n := by omega
    by_cases h2 : a.n = b.n
    · have hj : (a.n : Int) = b.n := by omega
      by_cases h3 : a.r < b.r
      · obtain rfl : t = true := by rw [HT.out, decide_eq_true_eq]; exact .inr ⟨h2, h3⟩
        go_wp2
        go_ret
        exact ⟨rfl, HB.out⟩
      · obtain rfl : t = false := by rw [HT.out, decide_eq_false_iff_not]; unfold ltB; omega
        go_wp2
        go_ret
        exact ⟨rfl, HB.out⟩
    · have hj : ¬ (a.n : Int) = b.n := by omega
      obtain rfl : t = false := by rw [HT.out, decide_eq_false_iff_not]; unfold ltB; omega
      go_wp2
      go_ret
      exact ⟨rfl, HB.out⟩
end Go.Proofs.YtdiihaeelcbjbaaGreatDoor
