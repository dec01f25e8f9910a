/- Proved: for every room, base and steps the law RingSlides returns true, and each argument reads afterwards as it did. No condition beyond the statement's own. -/
import Derived.Test.YteeiiaahhoeohaaRqKS
import Derived.Test.YteeiiaahhoeohaaRqKU
import Derived.Test.YteeiiaahhoeohaaRgLaw
namespace Go.Proofs.Yteeiiaahhoeohaa
open Go.RowKit

theorem lBase : BaseS lRingS := fun _ _ _ _ ⟨_, _, _, h, _⟩ => (base_S h).mono fun _ _ ⟨he, hw⟩ => ⟨he, by subst hw; exact Below.refl _ _⟩
/-- The law. -/
theorem ringSlides : Rows.RingSlidesSaid := slides_row lRingU lRingS lBase
end Go.Proofs.Yteeiiaahhoeohaa
