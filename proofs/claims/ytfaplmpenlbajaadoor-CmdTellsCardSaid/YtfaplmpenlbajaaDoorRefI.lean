/- The contract of the document's own Int. -/
import Derived.Test.YtfaplmpenlbajaaDoorRefU
namespace Go.Proofs.YtfaplmpenlbajaaDoor
open Go.RowKit
theorem ref_Int (m : Int) (h1 : -9223372036854775808 ≤ m) (h2 : m ≤ 9223372036854775807) (w : World) :
    Calls Tryd.prog 31 #[.int .i64 m] w (Gives w (vb (foldN m))) := by
  have hf := foldN_lt h1 h2
  by_cases h : 0 ≤ m
  · have hm : 2 * m = ((foldN m : Nat) : Int) := by unfold foldN; rw [if_pos h]; omega
    have HM := Lib.hid hm
    clear hm
    go_enter Tryd.func31, Tryd.ntmps31
    go_wp2_with fail
    rw [HM.out]
    refine (ref_Uint (foldN m) hf _).mono ?_
    rintro e W1 ⟨g, L1, c1, rfl, hown1, hb1⟩
    go_wp2
    go_ret
    exact ⟨g, L1, c1, rfl, hown1, hb1⟩
  · have hm : 2 * -(m + 1) + 1 = ((foldN m : Nat) : Int) := by unfold foldN; rw [if_neg h]; omega
    have HM := Lib.hid hm
    clear hm
    go_enter Tryd.func31, Tryd.ntmps31
    go_wp2_with fail
    rw [HM.out]
    refine (ref_Uint (foldN m) hf _).mono ?_
    rintro e W1 ⟨g, L1, c1, rfl, hown1, hb1⟩
    go_wp2
    go_ret
    exact ⟨g, L1, c1, rfl, hown1, hb1⟩
end Go.Proofs.YtfaplmpenlbajaaDoor
