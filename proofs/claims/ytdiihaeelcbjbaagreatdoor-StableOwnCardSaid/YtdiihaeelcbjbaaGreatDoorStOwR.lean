/- StableOwn: the statement that draws its order; bytes that change in their blocks. -/
import Derived.Test.YtdiihaeelcbjbaaGreatDoorMStS
namespace Go.Proofs.YtdiihaeelcbjbaaGreatDoor
open Go.RowKit

noncomputable def opsSo : List Oper := opsOf Tryz.f6 6
set_option maxRecDepth 100000 in
set_option maxHeartbeats 4000000 in
theorem own16_r (A0 A1 : Option Addr) (L0 c0 L1 c1 : Nat) (x y : List UInt8)  (a : Act) (w : World) (Q : Exit → Act → World → Prop) (hN : a.tmps.size = 191) (h0 : a.tmps.getD 0 undef = .slice A0 L0 c0) (h1 : a.tmps.getD 1 undef = .slice A1 L1 c1) (hx : HasA w w.heap.size A0 x) (hy : HasA w w.heap.size A1 y) (e0 : L0 = x.length) (e1 : L1 = y.length) (hQ : ∀ (w' : World), Grew w w' → Q .normal (puts [(43, .slice A0 L0 c0), (44, .string (str x)), (45, .slice A1 L1 c1), (46, .string (str y)), (9, .string (str x)), (10, .string (str y))] a) w')
    : (Code.region 6 opsSo.toArray true).wp Tryz.prog Q a w := by
  refine region_v 191 opsSo [(0, .slice A0 L0 c0), (1, .slice A1 L1 c1)] [] [.eq (.slice A0 L0 c0), .eq (.string (str x)), .eq (.slice A1 L1 c1), .eq (.string (str y)), .eq (.string (str x)), .eq (.string (str y))] Grew Grew.refl Grew.trans follows (by kernel_rfl) (by kernel_rfl) hN ⟨h0, h1, trivial⟩ rfl trivial ?_ ?_ ?_
  · intro _ w' hR _
    exact ⟨fun _ => rfl, fun _ => ob_cv (run_conv (HasA.below' hx hR.undraw) _ Tryz.underlying39 Tryz.underlying5 Tryz.underlying9 e0), fun _ => rfl, fun _ => ob_cv (run_conv (HasA.below' hy hR.undraw) _ Tryz.underlying39 Tryz.underlying5 Tryz.underlying9 e1), fun _ => rfl, fun _ => rfl, trivial⟩
  · exact trivial
  · intro _ w' hR _
    exact hQ  w'  hR.undraw
/-- Bytes in a block. -/
def BlkU (w : World) (g L : Nat) : Prop := ∃ (cur : Array Value) (fz : Nat × Nat), w.heap[g]? = some (.cells cur 5 fz) ∧ (∀ i, i < L → w.frozen? ⟨g, i, none⟩ = false) ∧ ∀ i, i < L → ∃ b : UInt8, cur[i]? = some (enc b)
def RowV (w : World) (base : Nat) (r : Option Addr × Nat) : Prop := 0 < r.2 → ∃ g, r.1 = some ⟨g, 0, none⟩ ∧ base ≤ g ∧ BlkU w g r.2
theorem cellU {w : World} {g : Nat} {cs : Array Value} {t : TypeId} {fr : Nat × Nat} (h : w.heap[g]? = some (.cells cs t fr)) (i : Nat) : w.cell? ⟨g, i, none⟩ = cs[i]? := cell_of_row w g i cs t fr h
theorem setU {w : World} {g i : Nat} {cs : Array Value} {t : TypeId} {fr : Nat × Nat} (h : w.heap[g]? = some (.cells cs t fr)) (v : Value) : (w.setCell ⟨g, i, none⟩ v).heap[g]? = some (.cells (cs.setIfInBounds i v) t fr) := by
  rw [setCell_eq_setRow w g i cs t fr v h]
  exact setRow_heap w g _ _ t _ h
theorem BlkU.cell {w : World} {g L i : Nat} (h : BlkU w g L) (hi : i < L) : ∃ b : UInt8, w.cell? ⟨g, i, none⟩ = some (.int .u8 (b.toNat : Int)) ∧ w.frozen? ⟨g, i, none⟩ = false := by
  obtain ⟨cur, fz, h1, h2, h3⟩ := h
  obtain ⟨b, hb⟩ := h3 i hi
  exact ⟨b, (cellU h1 i).trans hb, h2 i hi⟩
theorem BlkU.lt {w : World} {g L : Nat} (h : BlkU w g L) : g < w.heap.size := by
  obtain ⟨cur, fz, h1, _⟩ := h
  exact (Array.getElem?_eq_some_iff.1 h1).1
theorem BlkU.set {w : World} {g L g' i : Nat} (h : BlkU w g L) (b : UInt8) : BlkU (w.setCell ⟨g', i, none⟩ (.int .u8 (b.toNat : Int))) g L := by
  obtain ⟨cur, fz, h1, h2, h3⟩ := h
  by_cases e : g' = g
  · subst e
    refine ⟨_, fz, setU h1 _, fun j hj => by rw [World.frozen?_setCell]; exact h2 j hj, fun j hj => ?_⟩
    obtain ⟨b', hb'⟩ := h3 j hj
    by_cases e : i = j
    · subst e
      exact ⟨b, by simp [(Array.getElem?_eq_some_iff.1 hb').1, enc]⟩
    · exact ⟨b', by simp [e, hb']⟩
  · refine ⟨cur, fz, (Below.heap_setCell _ _ _ _ (Ne.symm e)).trans h1, fun j hj => by rw [World.frozen?_setCell]; exact h2 j hj, h3⟩
theorem RowV.set {w : World} {base g' i : Nat} {r : Option Addr × Nat} (h : RowV w base r) (b : UInt8) : RowV (w.setCell ⟨g', i, none⟩ (.int .u8 (b.toNat : Int))) base r := fun h0 => by
  obtain ⟨g, e, h1, h2⟩ := h h0
  exact ⟨g, e, h1, h2.set b⟩
theorem RowV.only {w w' : World} {base : Nat} {r : Option Addr × Nat} {Z : Nat → Prop} (h : RowV w base r) (hb : Only Z w w') (hZ : ∀ g, r.1 = some ⟨g, 0, none⟩ → ¬ Z g) : RowV w' base r := fun h0 => by
  obtain ⟨g, e, h1, cur, fz, h2, h3, h4⟩ := h h0
  have hl := (Array.getElem?_eq_some_iff.1 h2).1
  have hk := hb.block g hl (hZ g e)
  refine ⟨g, e, h1, cur, fz, hk.trans h2, fun i hi => ?_, h4⟩
  rw [← h3 i hi]
  unfold World.frozen?
  rw [hk]
theorem RowV.grew {w w' : World} {base : Nat} {r : Option Addr × Nat} (h : RowV w base r) (hb : Below w.heap.size w w') : RowV w' base r := h.only (Only.of_grew (F := fun _ => False) hb) fun _ _ => id
theorem RowV.ofB {w : World} {base L c : Nat} {A : Option Addr} {x : List UInt8} (h : OwnB base w (.slice A L c) L x) : RowV w base (A, L) := fun h0 => by
  obtain ⟨hl, A', c', e, h⟩ := h
  cases e
  have h1 : x ≠ [] := by
    intro e
    rw [e] at hl
    have : 0 < L := h0
    simp at hl
    omega
  obtain ⟨g, cur, mk, hA, hb, hg, hf, hc⟩ := h h1
  exact ⟨g, hA, hb, cur, mk, hg, fun i (hi : i < L) => hf i (by omega), fun i (hi : i < L) => ⟨x[i]'(by omega), hc i (by omega)⟩⟩
end Go.Proofs.YtdiihaeelcbjbaaGreatDoor
