/- What KeysetTells asks besides: groups, rows of rows of numbers. -/
import Derived.Test.YtooaobadnainkaaKsK
import Derived.Test.YtooaobadnainkaaKsGm
namespace Go.Proofs.Ytooaobadnainkaa
open Go.RowKit

/-- Rows of numbers that lie in a row. -/
def HasR (w : World) (A : Option Addr) (gs : List (List Nat)) : Prop := gs ≠ [] → ∃ b o, A = some ⟨b, o, none⟩ ∧ b < w.heap.size ∧ ∀ j (h : j < gs.length), ∃ A' c', w.cell? ⟨b, o + j, none⟩ = some (.slice A' gs[j].length c') ∧ gs[j].length ≤ c' ∧ HasI w A' gs[j]
theorem HasR.below {w W : World} {A : Option Addr} {gs : List (List Nat)} (h : HasR w A gs) (hb : Below w.heap.size w W) : HasR W A gs := fun hl => by
  obtain ⟨b, o, e, h1, h2⟩ := h hl
  refine ⟨b, o, e, Nat.lt_of_lt_of_le h1 hb.size, fun j hj => ?_⟩
  obtain ⟨A', c', k1, k2, k3⟩ := h2 j hj
  exact ⟨A', c', (hb.cell (p := ⟨b, o + j, none⟩) h1).trans k1, k2, k3.below hb⟩
/-- The program's Groups. -/
structure KsG {T : World → Prop} (K : KsK T) : Prop where
  groups : ∀ (A : Option Addr) (L c : Nat) (l : List CmdV) (w : World), T w → L = l.length → L ≤ 100 → HasC w A l → (∀ v ∈ l, ¬ v.great) → Calls Try.prog 13 #[.slice A L c] w fun e W' => ∃ A' N c', e = .returned (.slice A' N c') ∧ N = numW (l.map (·.m)) ∧ N ≤ c' ∧ HasR W' A' (groupsM (l.map (·.m))) ∧ Below w.heap.size w W'
end Go.Proofs.Ytooaobadnainkaa
