/- VotesMeet returns true for every input, and leaves its arguments as they were; no condition but those of the statement itself. -/
import Derived.Test.YtnpkaljmncehhaaVoLawM
import Derived.Test.YtnpkaljmncehhaaVqVot
namespace Go.Proofs.Ytnpkaljmncehhaa

theorem votesMeet : Rows.VotesMeetSaid := voM_row (fun _ => trivial) lVot
end Go.Proofs.Ytnpkaljmncehhaa
