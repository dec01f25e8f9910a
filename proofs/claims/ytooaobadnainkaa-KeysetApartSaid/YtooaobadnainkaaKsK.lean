/- What the walks of the laws on waves ask of the program's package keyset. -/
import Derived.Test.YtooaobadnainkaaKsM
import Derived.Test.YtooaobadnainkaaCmGreat
import Derived.Test.YtooaobadnainkaaOwnI
namespace Go.Proofs.Ytooaobadnainkaa
open Go.RowKit

/-- The waves of a batch. -/
def wavesI (l : List CM) : List Nat := (wavesM l).map (·.2)
theorem wavesI_len (l : List CM) : (wavesI l).length = l.length := by rw [wavesI, List.length_map, wavesM_len]
theorem wavesI_at {l : List CM} {i : Nat} (h : i < (wavesI l).length) : (wavesI l)[i] = waveI l i := by
  have h' : i < l.length := by rw [wavesI_len] at h; exact h
  have h1 := wavesM_at h'
  have h2 : (wavesM l)[i]? = some ((wavesM l)[i]'(by rw [wavesM_len]; exact h')) := List.getElem?_eq_getElem _
  rw [waveI, h2]
  simp [wavesI]
/-- The program's package keyset; T tells what the program's own tables hold. -/
structure KsK (T : World → Prop) where
  grew : ∀ {w w' : World}, T w → Below w.heap.size w w' → T w'
  lone : ∀ (v : CmdV) (w : World), T w → v.ok w → ¬ v.great → Calls Try.prog 9 #[v.val] w fun e W' => e = .returned (.bool (loneM v.m)) ∧ Below w.heap.size w W'
  way : ∀ (a b : CmdV) (w : World), T w → a.ok w → b.ok w → ¬ a.great → ¬ b.great → Calls Try.prog 11 #[a.val, b.val] w fun e W' => e = .returned (.bool (wayM a.m b.m)) ∧ Below w.heap.size w W'
  waves : ∀ (A : Option Addr) (L c : Nat) (l : List CmdV) (w : World), T w → L = l.length → L ≤ 100 → HasC w A l → (∀ v ∈ l, ¬ v.great) → Calls Try.prog 7 #[.slice A L c] w fun e W' => ∃ A' c', e = .returned (.slice A' L c') ∧ L ≤ c' ∧ HasI W' A' (wavesI (l.map (·.m))) ∧ Below w.heap.size w W'
end Go.Proofs.Ytooaobadnainkaa
