/- What the walks ask of the program's package cmd: it keeps it. -/
import Derived.Test.YtfaplmpenlbajaaDoorMCqR
import Derived.Test.YtfaplmpenlbajaaDoorMCqB
import Derived.Test.YtfaplmpenlbajaaDoorMCqS
namespace Go.Proofs.YtfaplmpenlbajaaDoor
open Go.RowKit

theorem May.fits {m : CM} (h : m.May) (hw : m.Wf) : Good (cmdR 64) m.one m :=
  cmdR_good hw (by decide) (fun k hk => by have := (h.each k hk).2; omega) h.old h.new (by have := h.len.2; have := mostK_le m.kd; omega)
theorem lCmd : CmdK TabQ where
  grew := fun h hb => h.grew hb
  check := fun a w hT ha hs => Check_any a w hT ha
  put := fun A L c bs a w hT hL hc hm hA ha hs => Put_any A L c bs a w hL hm hA ha hs
  same := fun a b w hT ha hb hs1 hs2 => Same_any a b w ha hb
  batch := fun A L c l w hT hL hc hm hA hs => Batch_any A L c l w hT hL hm hA hs
  parse := fun A L c bs w hT hL hc hm hA => Parse_any A L c bs w hT hL hm hA
  take := fun R m rest w hT hm hw hlen hr => by
    refine (Take_q hr (by decide) (by simp only [List.length_append]; omega)).mono ?_
    rintro e W' ⟨a, rfl, q⟩
    have hg := (May.fits hm hw).all rest
    have hrd := q.rd
    have hgood := q.good
    rw [hg] at hrd hgood
    exact ⟨a, rfl, (q.cmdO (Nat.le_refl _)).ok, hgood rfl hw, hrd, q.grown⟩
end Go.Proofs.YtfaplmpenlbajaaDoor
