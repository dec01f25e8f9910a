/- Proved: behind a failure of power, wherever it tore, all synced records are told and a beginning of those behind; a bit that turned in a synced inside or sum is told from then on, at the commit that this seat was turned at. The card is tied over a pruned copy and the table crc.effect as its own start-up lays it; no other condition. -/
import Derived.Test.YtoplocnkpljofaaDoorRcLawK
import Derived.Test.YtoplocnkpljofaaDoorMRq
import Derived.Test.YtoplocnkpljofaaDoorMDq
namespace Go.Proofs.YtoplocnkpljofaaDoor
theorem record_keeps_card : Rows.RecordKeepsCardSaid := recordKeeps_tied lDisk lTurn (lRec lDisk)
end Go.Proofs.YtoplocnkpljofaaDoor
