/- Proved: for every row of commands and of numbers the law WavesRun returns true, and the arguments read afterwards as they did. No condition beyond the statement's own. -/
import Derived.Test.YtfjmdkhemnmkpaaGreatDoorR32
import Derived.Test.YtfjmdkhemnmkpaaGreatDoorR33
set_option maxRecDepth 100000
set_option maxHeartbeats 8000000
namespace Go.Proofs.YtfjmdkhemnmkpaaGreatDoor
theorem wavesRun:Rows.WavesRunCardSaid:=wavesRun_tied (wvK runW) (wvN runW)
end Go.Proofs.YtfjmdkhemnmkpaaGreatDoor
