/- Proved: a frame behind bytes, the first frame of bytes, all of them, and the errors, are what the document says, at the commit that this seat was turned at. The card is tied over a pruned copy and the table crc.effect as its own start-up lays it; no other condition. -/
import Derived.Test.YtbhncffeoolhfaaDoorFrTellsLaw
import Derived.Test.YtbhncffeoolhfaaDoorFrPut
import Derived.Test.YtbhncffeoolhfaaDoorFrTake
import Derived.Test.YtbhncffeoolhfaaDoorFrAll
namespace Go.Proofs.YtbhncffeoolhfaaDoor
theorem ftells_card : Rows.FrameTellsCardSaid := ftells_tied put_any take_any all_any
end Go.Proofs.YtbhncffeoolhfaaDoor
