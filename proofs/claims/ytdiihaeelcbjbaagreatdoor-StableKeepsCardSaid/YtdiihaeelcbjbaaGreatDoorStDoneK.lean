/- Proved: behind an end of the power, wherever it tears, a store is what some first sets made, among them all that were ahead of the last sync, and it goes on as that one would, at the commit that this seat was turned at. The card is tied over a pruned copy and the table crc.effect as its own start-up lays it; no other condition. -/
import Derived.Test.YtdiihaeelcbjbaaGreatDoorStLawK
import Derived.Test.YtdiihaeelcbjbaaGreatDoorSbZ
namespace Go.Proofs.YtdiihaeelcbjbaaGreatDoor
theorem stable_keeps_card : Rows.StableKeepsCardSaid := stableKeeps_tied (lStab lDisk)
end Go.Proofs.YtdiihaeelcbjbaaGreatDoor
