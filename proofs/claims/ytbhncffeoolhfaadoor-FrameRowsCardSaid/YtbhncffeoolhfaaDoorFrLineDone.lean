/- Proved: of a row of frames, cut anywhere, all are told that are whole, the cut one ends too soon; with a bit turned those ahead are told and the sum is refused, at the commit that this seat was turned at. The card is tied over a pruned copy and the table crc.effect as its own start-up lays it; no other condition. -/
import Derived.Test.YtbhncffeoolhfaaDoorFrLineLaw
import Derived.Test.YtbhncffeoolhfaaDoorFrPut
import Derived.Test.YtbhncffeoolhfaaDoorFrTake
import Derived.Test.YtbhncffeoolhfaaDoorFrAll
namespace Go.Proofs.YtbhncffeoolhfaaDoor
theorem frows_card : Rows.FrameRowsCardSaid := frows_tied put_any take_any all_any
end Go.Proofs.YtbhncffeoolhfaaDoor
