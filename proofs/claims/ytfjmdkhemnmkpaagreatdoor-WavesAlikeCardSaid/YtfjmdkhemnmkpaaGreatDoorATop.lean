/- Proved: for every row of commands and of numbers the law WavesAlike returns true, and the arguments read afterwards as they did. No condition beyond the statement's own. -/
import Derived.Test.YtfjmdkhemnmkpaaGreatDoorA28
import Derived.Test.YtfjmdkhemnmkpaaGreatDoorA30
namespace Go.Proofs.YtfjmdkhemnmkpaaGreatDoor
theorem wavesAlike : Rows.WavesAlikeCardSaid := wavesAlike_tied (wvK runW) (wvO runW)
end Go.Proofs.YtfjmdkhemnmkpaaGreatDoor
