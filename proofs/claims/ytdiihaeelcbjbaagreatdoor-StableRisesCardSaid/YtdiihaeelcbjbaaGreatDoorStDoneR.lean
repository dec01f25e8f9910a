/- Proved: a promise never falls, nor does a base; no vote is above the promise or up to the base; votes go by their slots or a snapshot alone, at the commit that this seat was turned at. The card is tied over a pruned copy and the table crc.effect as its own start-up lays it; no other condition. -/
import Derived.Test.YtdiihaeelcbjbaaGreatDoorStLawR
import Derived.Test.YtdiihaeelcbjbaaGreatDoorSbZ
namespace Go.Proofs.YtdiihaeelcbjbaaGreatDoor
theorem stable_rises_card : Rows.StableRisesCardSaid := stableRises_tied (lStab lDisk)
end Go.Proofs.YtdiihaeelcbjbaaGreatDoor
