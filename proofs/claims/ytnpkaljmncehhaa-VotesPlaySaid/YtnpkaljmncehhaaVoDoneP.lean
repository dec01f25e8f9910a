/- VotesPlay returns true for every input, and leaves its arguments as they were; no condition but those of the statement itself. -/
import Derived.Test.YtnpkaljmncehhaaVoLawP
import Derived.Test.YtnpkaljmncehhaaVqVot
namespace Go.Proofs.Ytnpkaljmncehhaa

theorem votesPlay : Rows.VotesPlaySaid := voP_row (fun _ => trivial) lVot
end Go.Proofs.Ytnpkaljmncehhaa
