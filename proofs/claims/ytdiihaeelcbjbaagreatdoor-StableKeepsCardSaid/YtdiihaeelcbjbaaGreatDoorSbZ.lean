/- The landed package stable keeps what the laws' walks ask. -/
import Derived.Test.YtdiihaeelcbjbaaGreatDoorSbQ
import Derived.Test.YtdiihaeelcbjbaaGreatDoorMSb3
import Derived.Test.YtdiihaeelcbjbaaGreatDoorMDq
import Derived.Test.YtdiihaeelcbjbaaGreatDoorMRq
namespace Go.Proofs.YtdiihaeelcbjbaaGreatDoor
open Go.RowKit

theorem StQ.c {P : DiskK} {K : RecK P} {G : Nat → Prop} {w : World} {B R : Nat} {s : SM} (h : StQ K G w B R s) : ∃ m L, SkC w B m L s := by
  obtain ⟨L, m, Lg, h1, _⟩ := h
  exact ⟨m, L, h1⟩
/-- The landed package, over any disk of the program. -/
def lStab (P : DiskK) : StabK P where
  St := StQ (lRec P)
  keep := fun h o hd => h.keep o hd
  lt := fun h => h.lt
  openDead := fun hT hP hd hl => openDead_c (lRec P) hT hP hd hl
  opens := fun hT hP hd ho hs _ hl hc => opens_c hT hP hd ho hs hl hc
  setP := fun b hT hP hS hd hok hn hl hb hc => setP_c b hT hP hS hd hok hn hl hb hc
  setV := fun n b A L c x hT hP hS hd hok hn hl hs hb hL _ hx hA hc => setV_c n b A L c x hT hP hS hd hok hn hl hs hb hL hx hA hc
  setS := fun n A L c x hT hP hS hd hok hn hl hs hL _ hx hA hc => setS_c n A L c x hT hP hS hd hok hn hl hs hL hx hA hc
  sync := fun hP hS hd => sync_c hP hS hd
  promise := fun h _ => h.c.elim fun _ ⟨_, hc⟩ => promise_c hc
  base := fun h _ => h.c.elim fun _ ⟨_, hc⟩ => base_c hc
  snap := fun h _ => h.c.elim fun _ ⟨_, hc⟩ => snap_c hc
  vote := fun n h _ _ hn => h.c.elim fun _ ⟨_, hc⟩ => vote_c hc n hn
  votes := fun n h hok hl _ => h.c.elim fun _ ⟨_, hc⟩ => votes_c hc hok.sorted hl n
end Go.Proofs.YtdiihaeelcbjbaaGreatDoor
