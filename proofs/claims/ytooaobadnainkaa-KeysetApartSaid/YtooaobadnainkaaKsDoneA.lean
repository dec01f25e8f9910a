/- Proved: for every row of commands the law KeysetApart returns true, and the argument reads afterwards as it did. No condition beyond the statement's own. -/
import Derived.Test.YtooaobadnainkaaKtK
import Derived.Test.YtooaobadnainkaaKsLawA
namespace Go.Proofs.Ytooaobadnainkaa
/-- The law. -/
theorem keysetApart : Rows.KeysetApartSaid := ksapart_row (fun _ => trivial) lKs
end Go.Proofs.Ytooaobadnainkaa
