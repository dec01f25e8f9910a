/- The contract of varint.Int. -/
import Derived.Test.YtfaplmpenlbajaaDoorVarFold
namespace Go.Proofs.YtfaplmpenlbajaaDoor
open Go.RowKit
theorem Int_any (A : Option Addr) (bs : List UInt8) (L c : Nat) (hL : L = bs.length) (m : Int) (h1 : -9223372036854775808 ≤ m) (h2 : m ≤ 9223372036854775807) (hlen : bs.length ≤ 1000000) (w : World) (hA : HasA w w.heap.size A bs) :
    Calls Tryd.prog 49 #[.slice A L c, .int .i64 m] w (Gives w (bs ++ vb (foldN m))) := by
  have hf := foldN_lt h1 h2
  have HL := Lib.hid hL
  clear hL
  go_enter Tryd.func49, Tryd.ntmps49
  go_wp2_with fail
  refine (fold_any m h1 h2 _).mono ?_
  rintro e w' ⟨rfl, rfl⟩
  go_wp2_with fail
  refine (Uint_any A bs L c _ HL.out hf hlen w hA).mono ?_
  rintro e W1 ⟨g, L1, c1, rfl, hown1, hb1⟩
  go_wp2
  go_ret
  exact ⟨g, L1, c1, rfl, hown1, hb1⟩
end Go.Proofs.YtfaplmpenlbajaaDoor
