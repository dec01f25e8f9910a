/- Proved: for every row of commands the law KeysetTells returns true, and the argument reads afterwards as it did. No condition beyond the statement's own. -/
import Derived.Test.YtooaobadnainkaaKtK
import Derived.Test.YtooaobadnainkaaKsLawT
namespace Go.Proofs.Ytooaobadnainkaa
/-- The law. -/
theorem keysetTells : Rows.KeysetTellsSaid := kstells_row (fun _ => trivial) lKs lKsG
end Go.Proofs.Ytooaobadnainkaa
