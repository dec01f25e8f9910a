/- Proved: for every room and every row of acts the law RingPlays returns true, and each argument reads afterwards as it did. No condition beyond the statement's own. -/
import Derived.Test.YteeiiaahhoeohaaRqKS
import Derived.Test.YteeiiaahhoeohaaRqN
import Derived.Test.YteeiiaahhoeohaaRqW
import Derived.Test.YteeiiaahhoeohaaRgPlLaw
namespace Go.Proofs.Yteeiiaahhoeohaa
open Go.RowKit

theorem pBase : BaseS lRingS := fun _ _ _ _ ⟨_, _, _, h, _⟩ => (base_S h).mono fun _ _ ⟨he, hw⟩ => ⟨he, by subst hw; exact Below.refl _ _⟩
theorem lAll : AllS lRingS := fun _ _ _ _ ls ⟨_, _, _, h, hF⟩ hL f cs Y I J hen hY hI0 hI hJ hO hf =>
  (callsIn_wide (n := 4)).1 (all_in_S 4 (Nat.le_refl _) h ls hL f cs Y I J hen (fun k hk hf => hY k hk ((hF k).2 hf)) hI0 hI hJ hO hf)
/-- The law. -/
theorem ringPlays : Rows.RingPlaysSaid := rplays_row lRingS pBase lAll nil_S
end Go.Proofs.Yteeiiaahhoeohaa
