/- The contract of the document's own comparison of two rows of bytes. -/
import Derived.Test.YtbhncffeoolhfaaDoorRefUint
import Derived.Test.YtbhncffeoolhfaaDoorTakeMath
namespace Go.Proofs.YtbhncffeoolhfaaDoor
open Go.RowKit

theorem same_any (A1 : Option Addr) (L1 c1 : Nat) (x : List UInt8) (h1 : L1 = x.length) (A2 : Option Addr) (L2 c2 : Nat) (y : List UInt8) (h2 : L2 = y.length) (w : World) (hA1 : HasA w w.heap.size A1 x) (hA2 : HasA w w.heap.size A2 y) :
    Calls Tryd.prog 26 #[.slice A1 L1 c1, .slice A2 L2 c2] w fun e w' => e = .returned (.bool (x == y)) ∧ w = w' := by
  have k1 := run_conv (P := Tryd.prog) hA1 c1 Tryd.underlying22 Tryd.underlying5 Tryd.underlying9 h1
  have k2 := run_conv (P := Tryd.prog) hA2 c2 Tryd.underlying22 Tryd.underlying5 Tryd.underlying9 h2
  have k3 := run_eq w x y
  clear h1 h2 hA1 hA2
  go_enter Tryd.func26, Tryd.ntmps26
  go_wp2
  go_ret
  exact ⟨by first | rfl | simp [str_toList], rfl⟩

end Go.Proofs.YtbhncffeoolhfaaDoor
