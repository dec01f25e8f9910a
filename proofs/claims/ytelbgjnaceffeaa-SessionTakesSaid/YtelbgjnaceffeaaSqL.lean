/- The landed package session as the walks want it: New, Look, Keep, Len. -/
import Derived.Test.YtelbgjnaceffeaaSqC
namespace Go.Proofs.Ytelbgjnaceffeaa
open Go.RowKit Go.Maps

/-- A table of sorted entries; F: its blocks. -/
def PlQ (F : Nat → Prop) (w : World) (R : Nat) (l : List SE) : Prop := ∃ p, StQ w R p l ∧ SortedE l ∧ ∀ k, F k ↔ (k = R ∨ p = some k)
theorem PlQ.mk {w : World} {R : Nat} {p : Option Nat} {l : List SE} (h : StQ w R p l) (hs : SortedE l) : PlQ (fun k => k = R ∨ p = some k) w R l := ⟨p, h, hs, fun _ => Iff.rfl⟩
theorem only_of {w W : World} {F : Nat → Prop} {R : Nat} {p : Option Nat} (hF : ∀ k, F k ↔ (k = R ∨ p = some k)) (h : Only (fun x => x = R ∨ p = some x) w W) : Only F w W := h.mono fun x _ hx => (hF x).2 hx
theorem keepS_sorted {l : List SE} (h : SortedE l) (c s cd : Nat) (tx : ByteArray) : SortedE (keepS l c s cd tx) := by
  by_cases hk : c ≠ 0 ∧ (tellS l c s).2 = 0
  · rw [keepS_set hk.1 hk.2]; exact h.set _
  · rw [show keepS l c s cd tx = l from if_neg hk]; exact h
noncomputable def lSess : SessK (fun _ => True) where
  grew := fun _ _ => trivial
  Pl := PlQ
  keep := fun {F G w w' R l} ⟨p, h, hs, hF⟩ ho hd => ⟨p, h.keep (ho.block R h.lt (hd R ((hF R).2 (.inl rfl)))) (fun b e => ho.block b (h.blt b e) (hd b ((hF b).2 (.inr e)))), hs, hF⟩
  lt := fun {F w R l} ⟨p, h, _, hF⟩ k hk => by
    rcases (hF k).1 hk with e | e
    · rw [e]; exact h.lt
    · exact h.blt k e
  new := fun w _ => (new_any w).mono fun e W' ⟨he, hw⟩ => by
    subst hw
    refine ⟨_, w.heap.size, he, PlQ.mk (p := none) ⟨World.alloc_heap_new w _, rfl⟩ SortedE.nil, fun k hk => ?_, (Below.refl _ w).alloc (Nat.le_refl _) _⟩
    rcases hk with e | e
    · omega
    · cases e
  look := fun c s ⟨_, h, _, _⟩ _ _ hc hs => look_any h c s hc hs
  keeps := fun {F w R l} c s cd tx ⟨p, h, hs, hF⟩ _ hl hc hsq _ ht => (keep_any h hs (by have := hl.len; omega) c s cd tx hc hsq (by simp only [maxLen]; omega)).mono fun e W' ⟨he, hch⟩ => by
    obtain ⟨p', s', hp'⟩ := hch.ex
    refine ⟨he, _, PlQ.mk s' (keepS_sorted hs c s cd tx), only_of hF hch.only, fun k hk => ?_⟩
    rcases hk with e | e
    · exact .inl ((hF k).2 (.inl e))
    · rcases hp' k e with e' | e'
      · exact .inl ((hF k).2 (.inr e'))
      · exact .inr e'
  len := fun ⟨_, h, _, _⟩ => (len_any h).mono fun _ _ ⟨he, hw⟩ => ⟨he, by rw [hw]; exact Below.refl _ _⟩
end Go.Proofs.Ytelbgjnaceffeaa
