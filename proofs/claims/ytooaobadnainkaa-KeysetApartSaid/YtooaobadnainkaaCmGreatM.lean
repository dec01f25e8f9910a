/- The law's measure of commands: Great. -/
import Derived.Test.YtooaobadnainkaaMCmP
import Derived.Deep.DeepCutAuto
namespace Go.Proofs.Ytooaobadnainkaa
open Go.RowKit
def CmdV.great (a : CmdV) : Prop := 500 < a.old.size ∨ 500 < a.new.size ∨ 100 < a.ks.length ∨ ∃ j, ∃ h : j < a.ks.length, 500 < (a.ks[j]).size
def GreatC (l : List CmdV) : Prop := 100 < l.length ∨ ∃ j, ∃ h : j < l.length, (l[j]).great
def CmdV.greatB (a : CmdV) : Bool := decide (500 < a.old.size) || decide (500 < a.new.size) || decide (100 < a.ks.length) || a.ks.any fun k => decide (500 < k.size)
def GreatB (l : List CmdV) : Bool := decide (100 < l.length) || l.any CmdV.greatB
theorem CmdV.greatB_iff {a : CmdV} : a.greatB = true ↔ a.great := by
  simp only [CmdV.greatB, CmdV.great, Bool.or_eq_true, decide_eq_true_eq, List.any_eq_true, or_assoc, List.mem_iff_getElem]
  constructor
  · rintro (h | h | h | ⟨k, ⟨j, hj, rfl⟩, h⟩)
    · exact .inl h
    · exact .inr (.inl h)
    · exact .inr (.inr (.inl h))
    · exact .inr (.inr (.inr ⟨j, hj, h⟩))
  · rintro (h | h | h | ⟨j, hj, h⟩)
    · exact .inl h
    · exact .inr (.inl h)
    · exact .inr (.inr (.inl h))
    · exact .inr (.inr (.inr ⟨_, ⟨j, hj, rfl⟩, h⟩))
theorem GreatB_iff {l : List CmdV} : GreatB l = true ↔ GreatC l := by
  simp only [GreatB, GreatC, Bool.or_eq_true, decide_eq_true_eq, List.any_eq_true, List.mem_iff_getElem]
  constructor
  · rintro (h | ⟨a, ⟨j, hj, rfl⟩, h⟩)
    · exact .inl h
    · exact .inr ⟨j, hj, CmdV.greatB_iff.1 h⟩
  · rintro (h | ⟨j, hj, h⟩)
    · exact .inl h
    · exact .inr ⟨_, ⟨j, hj, rfl⟩, CmdV.greatB_iff.2 h⟩
end Go.Proofs.Ytooaobadnainkaa
