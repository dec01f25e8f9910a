/- Proved: a record appended behind a log, or the error that says why not, is what the document says, at the commit that this seat was turned at. The card is tied over a pruned copy and the table crc.effect as its own start-up lays it; no other condition. -/
import Derived.Test.YtoplocnkpljofaaDoorRcLawA
import Derived.Test.YtoplocnkpljofaaDoorMRq
import Derived.Test.YtoplocnkpljofaaDoorMDq
namespace Go.Proofs.YtoplocnkpljofaaDoor
theorem record_appends_card : Rows.RecordAppendsCardSaid := recordAppends_tied lDisk lTurn (lRec lDisk)
end Go.Proofs.YtoplocnkpljofaaDoor
