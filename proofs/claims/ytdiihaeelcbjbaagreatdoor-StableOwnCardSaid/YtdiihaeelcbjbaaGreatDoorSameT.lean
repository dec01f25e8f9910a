/- Blocks tell apart by the type of their cells: what stays where others change. -/
import Derived.Test.YtdiihaeelcbjbaaGreatDoorMBase
namespace Go.Proofs.YtdiihaeelcbjbaaGreatDoor
open Go.RowKit

/-- Blocks of cells stay, but for those of the types T. -/
def SameT (T : List TypeId) (W W' : World) : Prop := ∀ (k : Nat) (cs : Array Value) (t : TypeId), t ∉ T → W.heap[k]? = some (.cells cs t (0, 0)) → W'.heap[k]? = some (.cells cs t (0, 0))
theorem SameT.trans {T U : List TypeId} {a b c : World} (h : SameT T a b) (k : SameT U b c) : SameT (T ++ U) a c := fun i cs t ht hi => by
  rw [List.mem_append, not_or] at ht
  exact k i cs t ht.2 (h i cs t ht.1 hi)
theorem SameT.grew {T : List TypeId} {a b : World} (h : Below a.heap.size a b) : SameT T a b := fun i _ _ _ hi => (h.block i (Array.getElem?_eq_some_iff.1 hi).1).trans hi
theorem SameT.set {W : World} {r i : Nat} {cs : Array Value} {t0 : TypeId} (h : W.heap[r]? = some (.cells cs t0 (0, 0))) (u : Value) : SameT [t0] W (W.setCell ⟨r, i, none⟩ u) := fun k cs' t ht hk =>
  (Below.heap_setCell _ _ _ _ (fun e => by subst e; rw [h] at hk; cases hk; simp at ht)).trans hk
theorem SameT.grown {W W' : World} {row : Option Nat} {t0 : TypeId} (h : W.grownBy W' row) (hr : ∀ r, row = some r → ∃ cs, W.heap[r]? = some (.cells cs t0 (0, 0))) : SameT [t0] W W' := fun k cs' t ht hk =>
  (h.block k (Array.getElem?_eq_some_iff.1 hk).1 (fun e => by
    obtain ⟨cs, hc⟩ := hr k e.symm
    rw [hc] at hk; cases hk; simp at ht)).trans hk
theorem SameT.drew {T : List TypeId} (W : World) : SameT T W W.drew := fun _ _ _ _ h => h
theorem SameT.abides {B : Nat} {W W' : World} {row : Option Nat} {T : List TypeId} (hg : W.grownBy W' row) (hr : ∀ r, row = some r → B ≤ r ∧ ∃ o, W.heap[r]? = some o ∧ o.isCells = false) : SameT T W W' := fun _ _ _ _ h =>
  Abides.block (B := B) W W' row h hg hr
theorem SameT.data {T : List TypeId} {W W' : World} {A : Option Addr} {bs : List UInt8} (h : SameT T W W') (hd : Data W A bs) (ht : 5 ∉ T) : Data W' A bs := hd.kept fun b cur hb => h b cur _ ht hb
theorem SameT.own {T : List TypeId} {W W' : World} {base n : Nat} {e : TypeId} {v : Value} {vs : List Value} (h : SameT T W W') (ho : W.ownsRow base e 1 v n vs) (he : e ∉ T) : W'.ownsRow base e 1 v n vs := by
  refine ⟨ho.1, ?_⟩
  rcases ho.2 with h2 | ⟨g, cap, cur, rfl, b, r, s⟩
  · exact .inl h2
  · exact .inr ⟨g, cap, cur, rfl, b, h _ _ _ he r, s⟩
theorem own_typed {W : World} {base n : Nat} {e : TypeId} {v : Value} {vs : List Value} (ho : W.ownsRow base e 1 v n vs) : ∀ r, v.ownBlock = some r → ∃ cs, W.heap[r]? = some (.cells cs e (0, 0)) := by
  intro r hr
  rcases ho.2 with ⟨rfl, _⟩ | ⟨g, cap, cur, rfl, _, h, _⟩
  · cases hr
  · cases hr; exact ⟨_, h⟩
end Go.Proofs.YtdiihaeelcbjbaaGreatDoor
