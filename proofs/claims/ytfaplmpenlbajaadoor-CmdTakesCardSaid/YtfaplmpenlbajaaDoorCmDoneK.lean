/- Proved: a command that was put is read back off a reader, with what follows left, at the commit that this seat was turned at. The card is tied over a pruned copy and the table cmd.keysOf as its own start-up lays it; no other condition. -/
import Derived.Test.YtfaplmpenlbajaaDoorCmLawK
import Derived.Test.YtfaplmpenlbajaaDoorCqZ
namespace Go.Proofs.YtfaplmpenlbajaaDoor
theorem cmd_takes_card : Rows.CmdTakesCardSaid := cmdTakes_tied lCmd
end Go.Proofs.YtfaplmpenlbajaaDoor
