/- Proved: as many bytes as a frame may have are framed and taken again, and one more is refused, at the commit that this seat was turned at. The card is tied over a pruned copy and the table crc.effect as its own start-up lays it; no other condition. -/
import Derived.Test.YtbhncffeoolhfaaDoorFrLongLaw
import Derived.Test.YtbhncffeoolhfaaDoorFrPut
import Derived.Test.YtbhncffeoolhfaaDoorFrTake
namespace Go.Proofs.YtbhncffeoolhfaaDoor
theorem flong_card : Rows.FrameLongCardSaid := flong_tied put_any take_any
end Go.Proofs.YtbhncffeoolhfaaDoor
