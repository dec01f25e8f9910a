/- Contracts of fold and unfold. -/
import Derived.Test.YtfaplmpenlbajaaDoorMVar
import Derived.Test.YtfaplmpenlbajaaDoorFoldMath
import Derived.Deep.DeepFit
namespace Go.Proofs.YtfaplmpenlbajaaDoor
open Go.RowKit
theorem fold_any (m : Int) (h1 : -9223372036854775808 ≤ m) (h2 : m ≤ 9223372036854775807) (w : World) :
    Calls Tryd.prog 58 #[.int .i64 m] w fun e w' => e = .returned (.int .u64 (foldN m : Int)) ∧ w = w' := by
  by_cases h : m < 0
  · go_enter Tryd.func58, Tryd.ntmps58
    go_wp2
    go_ret
    refine ⟨ret_int ?_, rfl⟩
    rw [IntKind.wrap_u64, IntKind.wrap_u64, not_u64 _ (by omega) (by omega)]
    unfold foldN; rw [if_neg (by omega)]; omega
  · go_enter Tryd.func58, Tryd.ntmps58
    go_wp2
    go_ret
    refine ⟨ret_int ?_, rfl⟩
    unfold foldN; rw [if_pos (by omega)]; omega

theorem unfold_any (u : Nat) (h2 : u < 18446744073709551616) (w : World) :
    Calls Tryd.prog 55 #[.int .u64 (u : Int)] w fun e w' => e = .returned (.int .i64 (unfoldN u)) ∧ w = w' := by
  have ha := and1_u64 u h2
  by_cases hodd : u % 2 = 1
  · rw [hodd] at ha
    have hb : bits .and .u64 (u : Int) 1 = 1 := ha
    clear ha
    go_enter Tryd.func55, Tryd.ntmps55
    go_wp2
    go_ret
    refine ⟨ret_int ?_, rfl⟩
    rw [not_i64 _ (by omega) (by omega)]
    unfold unfoldN; rw [if_pos hodd]; omega
  · have h0 : u % 2 = 0 := by omega
    rw [h0] at ha
    have hb : bits .and .u64 (u : Int) 1 = 0 := ha
    clear ha
    go_enter Tryd.func55, Tryd.ntmps55
    go_wp2
    go_ret
    refine ⟨ret_int ?_, rfl⟩
    unfold unfoldN; rw [if_neg hodd]; omega
end Go.Proofs.YtfaplmpenlbajaaDoor
