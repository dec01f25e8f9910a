/- Proved: for every row of acts, client, number and reply the law SessionRises returns true, and each argument reads afterwards as it did. No condition beyond the statement's own. -/
import Derived.Test.YtelbgjnaceffeaaSqL
import Derived.Test.YtelbgjnaceffeaaSsLawR
namespace Go.Proofs.Ytelbgjnaceffeaa
/-- The law. -/
theorem sessionRises : Rows.SessionRisesSaid := srises_row lSess
end Go.Proofs.Ytelbgjnaceffeaa
