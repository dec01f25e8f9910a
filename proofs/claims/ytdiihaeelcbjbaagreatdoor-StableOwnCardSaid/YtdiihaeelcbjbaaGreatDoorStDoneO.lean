/- Proved: what is handed in, and what is told, is nobody else's, at the commit that this seat was turned at. The card is tied over a pruned copy and the table crc.effect as its own start-up lays it; no other condition. -/
import Derived.Test.YtdiihaeelcbjbaaGreatDoorStLawO
import Derived.Test.YtdiihaeelcbjbaaGreatDoorSbZ
namespace Go.Proofs.YtdiihaeelcbjbaaGreatDoor
theorem stable_own_card : Rows.StableOwnCardSaid := stableOwn_tied (lStab lDisk)
end Go.Proofs.YtdiihaeelcbjbaaGreatDoor
