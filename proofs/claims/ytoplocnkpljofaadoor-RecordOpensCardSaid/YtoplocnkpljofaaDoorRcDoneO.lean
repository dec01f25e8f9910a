/- Proved: a disk's log, opened behind any acts on the disk, tells what the document's log tells: nil, no power, a corrupt log, and otherwise its records in order, at the commit that this seat was turned at. The card is tied over a pruned copy and the table crc.effect as its own start-up lays it; no other condition. -/
import Derived.Test.YtoplocnkpljofaaDoorRcLawO
import Derived.Test.YtoplocnkpljofaaDoorMRq
import Derived.Test.YtoplocnkpljofaaDoorMDq
namespace Go.Proofs.YtoplocnkpljofaaDoor
theorem record_opens_card : Rows.RecordOpensCardSaid := recordOpens_tied lDisk lTurn (lRec lDisk)
end Go.Proofs.YtoplocnkpljofaaDoor
