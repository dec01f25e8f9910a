/- Proved: a batch that was put together is read back, and bytes that are no batch are refused by the document's error, at the commit that this seat was turned at. The card is tied over a pruned copy and the table cmd.keysOf as its own start-up lays it; no other condition. -/
import Derived.Test.YtfaplmpenlbajaaDoorCmLawB
import Derived.Test.YtfaplmpenlbajaaDoorCqZ
namespace Go.Proofs.YtfaplmpenlbajaaDoor
theorem cmd_back_card : Rows.CmdBackCardSaid := cmdBack_tied lCmd
end Go.Proofs.YtfaplmpenlbajaaDoor
