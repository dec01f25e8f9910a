/- Proved: for all bytes b the law SessionTakes returns true, and the argument reads afterwards as it did. No condition beyond the statement's own. -/
import Derived.Test.YtelbgjnaceffeaaSqG
import Derived.Test.YtelbgjnaceffeaaSsLawT
namespace Go.Proofs.Ytelbgjnaceffeaa
/-- The law. -/
theorem sessionTakes : Rows.SessionTakesSaid := stakes_row lSess lSessP
end Go.Proofs.Ytelbgjnaceffeaa
