/- Proved: whether a command may be, a command's bytes behind given ones, whether two commands are alike, and a batch's bytes or error are what the document says, at the commit that this seat was turned at. The card is tied over a pruned copy and the table cmd.keysOf as its own start-up lays it; no other condition. -/
import Derived.Test.YtfaplmpenlbajaaDoorCmLawT
import Derived.Test.YtfaplmpenlbajaaDoorCqZ
namespace Go.Proofs.YtfaplmpenlbajaaDoor
theorem cmd_tells_card : Rows.CmdTellsCardSaid := cmdTells_tied lCmd
end Go.Proofs.YtfaplmpenlbajaaDoor
