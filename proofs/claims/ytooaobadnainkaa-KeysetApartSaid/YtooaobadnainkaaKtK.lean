/- The program's package keyset as the walks want it. -/
import Derived.Test.YtooaobadnainkaaKtI
namespace Go.Proofs.Ytooaobadnainkaa
open Go.RowKit

theorem few {v : CmdV} (h : ¬ v.great) : v.ks.length ≤ 10000 := by
  have : ¬ 100 < v.ks.length := fun hh => h (.inr (.inr (.inl hh)))
  omega
theorem lKs : KsK (fun _ => True) where
  grew := fun _ _ => trivial
  lone := fun v w _ hv hg => lone_anyK v w hv (few hg)
  way := fun a b w _ ha hb hga hgb => way_anyK a b w ha hb (few hga) (few hgb)
  waves := fun A L c l w _ hl hL hA hg => (waves_anyK A L c l w hl hL hA hg).mono fun e W' ⟨x, he, ho, hb⟩ => by
    obtain ⟨A', c', rfl, hc⟩ := ho.form
    have h1 : (wavesI (l.map (·.m))).length = L := by rw [wavesI_len, List.length_map, hl]
    rw [h1] at he hc ho
    exact ⟨A', c', he, hc, ho.has, hb⟩
theorem lKsG : KsG lKs where
  groups := fun A L c l w _ hl hL hA hg => groups_anyK A L c l w hl hL hA hg
end Go.Proofs.Ytooaobadnainkaa
