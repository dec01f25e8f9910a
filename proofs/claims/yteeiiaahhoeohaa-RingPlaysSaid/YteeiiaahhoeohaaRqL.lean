/- A loop over a function that stands in a labelled block and may be left by going to its end. -/
import Derived.RangeFuncBox
import Derived.Shelf.Abstract
import Derived.Shelf.RegionOpen
import Derived.WalkKit
import Derived.OwnWalkIn
import Derived.TacticsInMore
import Derived.LoopNIn
import Derived.LoopIn
import Derived.WalkMore
import Derived.Test.YteeiiaahhoeohaaMBase
namespace Go.Proofs.Yteeiiaahhoeohaa
open Go.RowKit Go.Shelf

theorem wpIn_rangeFunc_blk {id : Nat} {F : Fence} {n : Nat} {P : Program} {γ : Type} {g : Operand} {ps : Array Tmp} {assign body : Code} {Q : Exit → Act → World → Prop} {a : Act} {w : World}
    (hro : F.round = none) (h1 : 1 ≤ n) {gf : Nat} {fb lb : Array Value} (hg : a.eval g = .func (.func gf) fb lb) (hFg : F.fn gf) (eg : ∀ args w, (callFunc gf args).run P w = .ok (.enter gf args) w)
    {encs : γ → Array Value} (hps : ∀ x, (encs x).size = ps.size)
    {I0 Id J : World → Prop} {Iy Io : γ → World → Prop}
    (hI0 : Abides w.heap.size I0) (hId : Abides w.heap.size Id) (hIy : ∀ x, Abides w.heap.size (Iy x)) (hIo : ∀ x, Abides w.heap.size (Io x)) (hJ : Abides w.heap.size J)
    (hseq : TiedSeq F (n - 1) P gf fb lb encs w.heap.size I0 Id Iy Io (fun c W => Hid (c = .exit id) ∧ J W) (fun c W => Hid (c = .exit id) ∧ J W)) (h0 : I0 w) (a₁ : γ → Act)
    (hassign : ∀ (l : Nat) (x : γ) (W : World) (K : Act → World → Prop), K (a₁ x) W →
      assign.wpIn (F.inRound l) (n - 1 - 1) P (Exit.then K (fun _ _ _ => False)) { tmps := (ps.zip (encs x)).foldl (fun t (p, v) => t.setIfInBounds p v) a.tmps, defers := [] } W)
    (hbody : ∀ (l : Nat) (x : γ) (W : World), Iy x W → w.heap.size ≤ W.heap.size → body.wpIn (F.inRound l) (n - 1 - 1) P (tiedPost w.heap.size (Io x) (fun c W => Hid (c = .exit id) ∧ J W) W) (a₁ x) W)
    (hend : ∀ (D : Nat) (W : World), w.heap.size ≤ D → Id W ∨ J W → W.heap[D]? = some (.deferred (some [])) → Q .normal { a with defers := { target := .collected D, args := #[] } :: a.defers } W) :
    (Code.rangeFunc g ps assign body).wpIn F n P (Exit.inBlock id Q) a w := by
  refine wpIn_rangeFunc_tied hro h1 hg hFg eg hps hI0 hId hIy hIo (Ix := fun c W => Hid (c = .exit id) ∧ J W) (Ixd := fun c W => Hid (c = .exit id) ∧ J W) (fun c => (Abides.pure _).and hJ) (fun c => (Abides.pure _).and hJ) hseq h0 a₁ hassign hbody ?_ ?_
  · intro D W hD hi hK
    exact hend D W hD (.inl hi) hK
  · rintro D c W hD ⟨hc, hj⟩ hK
    have hc' : c = .exit id := hc
    subst hc'
    refine wpIn_exit ?_
    show (if id = id then Q .normal _ W else _)
    rw [if_pos rfl]
    exact hend D W hD (.inr hj) hK
end Go.Proofs.Yteeiiaahhoeohaa
