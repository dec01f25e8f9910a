/- The program's pool beside the document's, with blocks of the law's own: what each call leaves. -/
import Derived.Test.YtmpaefndkobgnaaPoolSpec
namespace Go.Proofs.Ytmpaefndkobgnaa
open Go.RowKit

theorem own_keep {W W' : World} {base n sz : Nat} {e : TypeId} {v : Value} {vs : List Value} (ho : W.ownsRow base e sz v n vs) (hk : ∀ x, v.ownBlock = some x → W'.heap[x]? = W.heap[x]?) : W'.ownsRow base e sz v n vs := by
  refine ⟨ho.1, ?_⟩
  rcases ho.2 with h2 | ⟨g, cap, cur, rfl, b, r, s⟩
  · exact .inl h2
  · exact .inr ⟨g, cap, cur, rfl, b, (hk g rfl).trans r, s⟩
theorem RQ.same {w w' : World} {base R gB cB gG cG gL cL : Nat} {vN : Value} {s : QS} (h : RQ w base R gB cB gG cG gL cL vN s) (hk : ∀ k, FQ R gB gG gL vN k → w'.heap[k]? = w.heap[k]?) : RQ w' base R gB cB gG cG gL cL vN s :=
  ⟨(hk R (.inl rfl)).trans h.blk, own_keep h.hB (fun x e => by cases e; exact hk _ (.inr (.inl rfl))), own_keep h.hG (fun x e => by cases e; exact hk _ (.inr (.inr (.inl rfl)))), own_keep h.hL (fun x e => by cases e; exact hk _ (.inr (.inr (.inr (.inl rfl))))), own_keep h.hN (fun x e => hk _ (.inr (.inr (.inr (.inr e))))), h.hR, h.hn, h.hNl, h.hNn, h.hGl, h.hsz⟩
theorem RQ.lt {w : World} {base R gB cB gG cG gL cL : Nat} {vN : Value} {s : QS} (h : RQ w base R gB cB gG cG gL cL vN s) : ∀ k, FQ R gB gG gL vN k → base ≤ k ∧ k < w.heap.size := by
  rintro k (rfl | rfl | rfl | rfl | e)
  · exact ⟨h.hR, (Array.getElem?_eq_some_iff.1 h.blk).1⟩
  · exact h.hB.lt _ rfl
  · exact h.hG.lt _ rfl
  · exact h.hL.lt _ rfl
  · exact h.hN.lt _ e

/-- The cells of handles. -/
def hcs (hs : List (Int × Nat)) : List Value := hs.flatMap fun h => [.int .i64 h.1, .int .u32 (h.2 : Int)]
theorem hcs_snoc (hs : List (Int × Nat)) (h : Int × Nat) : hcs (hs ++ [h]) = hcs hs ++ [.int .i64 h.1, .int .u32 (h.2 : Int)] := by simp [hcs]
theorem hcs_length : ∀ hs : List (Int × Nat), (hcs hs).length = hs.length * 2
  | [] => rfl
  | h :: hs => by
    have := hcs_length hs
    simp only [hcs, List.flatMap_cons, List.length_append, List.length_cons, List.length_nil] at this ⊢
    omega
theorem hcs_get : ∀ (hs : List (Int × Nat)) (j : Nat) (h : j < hs.length), (hcs hs)[j * 2]? = some (.int .i64 hs[j].1) ∧ (hcs hs)[j * 2 + 1]? = some (.int .u32 (hs[j].2 : Int))
  | [], j, h => by simp at h
  | x :: hs, 0, _ => by simp [hcs]
  | x :: hs, j + 1, h => by
    have := hcs_get hs j (by simpa using h)
    simp only [hcs, List.flatMap_cons, List.getElem_cons_succ] at this ⊢
    rw [List.getElem?_append_right (by simp; omega), List.getElem?_append_right (by simp; omega)]
    simpa [show (j + 1) * 2 - 2 = j * 2 by omega, show (j + 1) * 2 + 1 - 2 = j * 2 + 1 by omega] using this

/-- The program's pool at sp, the document's at sq, the handles that were told, blocks X of the round. -/
structure PS (P : PoolK) (w : World) (R Rq : Nat) (sp sq : QS) (v : Value) (hs : List (Int × Nat)) (X : Nat → Prop) (gB cB gG cG gL cL : Nat) (vN : Value) (W : World) : Prop where
  live : Live P w R sp (fun k => FQ Rq gB gG gL vN k ∨ v.ownBlock = some k ∨ X k) W
  rq : RQ W w.heap.size Rq gB cB gG cG gL cL vN sq
  row : W.ownsRow w.heap.size 29 2 v hs.length (hcs hs)
  apart : ∀ k, FQ Rq gB gG gL vN k → v.ownBlock ≠ some k ∧ ¬ X k
  apart2 : ∀ k, X k → v.ownBlock ≠ some k
  ok : ∀ h ∈ hs, InI h.1 ∧ h.2 < 4294967296
/-- Blocks X stay. -/
structure Kp (X : Nat → Prop) (W W' : World) : Prop where
  size : W.heap.size ≤ W'.heap.size
  same : ∀ k, X k → W'.heap[k]? = W.heap[k]?
section
variable {P : PoolK} {w W W' : World} {R Rq gB cB gG cG gL cL : Nat} {sp sq sp' sq' : QS} {v vN vN' : Value} {hs : List (Int × Nat)} {X X' : Nat → Prop}
theorem PS.pool (h : PS P w R Rq sp sq v hs X gB cB gG cG gL cL vN W) (hl : Live P w R sp' (fun k => FQ Rq gB gG gL vN k ∨ v.ownBlock = some k ∨ X k) W') (hm : Mv (fun k => FQ Rq gB gG gL vN k ∨ v.ownBlock = some k ∨ X k) W W') : PS P w R Rq sp' sq v hs X gB cB gG cG gL cL vN W' ∧ Kp X W W' :=
  ⟨⟨hl, h.rq.same (fun k hk => hm.same k (.inl hk)), own_keep h.row (fun x hx => hm.same x (.inr (.inl hx))), h.apart, h.apart2, h.ok⟩, hm.size, fun k hk => hm.same k (.inr (.inr hk))⟩
theorem PS.ref (h : PS P w R Rq sp sq v hs X gB cB gG cG gL cL vN W) (hq : RQ W' w.heap.size Rq gB cB gG cG gL cL vN' sq') (ho : Only (FQ Rq gB gG gL vN) W W') (hv : ∀ k, vN'.ownBlock = some k → vN.ownBlock = some k ∨ W.heap.size ≤ k) : PS P w R Rq sp sq' v hs X gB cB gG cG gL cL vN' W' ∧ Kp X W W' := by
  have hX : ∀ k, X k → k < W.heap.size := fun k hk => (h.live.mine k (.inr (.inr hk))).2
  have hV : ∀ k, v.ownBlock = some k → k < W.heap.size := fun k hk => (h.live.mine k (.inr (.inl hk))).2
  have hF : ∀ k, FQ Rq gB gG gL vN' k → FQ Rq gB gG gL vN k ∨ W.heap.size ≤ k := by
    rintro k (e | e | e | e | e)
    · exact .inl (.inl e)
    · exact .inl (.inr (.inl e))
    · exact .inl (.inr (.inr (.inl e)))
    · exact .inl (.inr (.inr (.inr (.inl e))))
    · exact (hv k e).elim (fun e => .inl (.inr (.inr (.inr (.inr e))))) .inr
  refine ⟨⟨h.live.own (ho.mono (fun _ _ hk => .inl hk)) (fun k hk => ?_), hq, own_keep h.row (fun x hx => ho.block x (hV x hx) (fun hf => (h.apart x hf).1 hx)), fun k hk => ?_, h.apart2, h.ok⟩, ho.size, fun k hk => ho.block k (hX k hk) (fun hf => (h.apart k hf).2 hk)⟩
  · rcases hk with hk | hk | hk
    · exact ⟨(hF k hk).elim (fun h => .inl (.inl h)) .inr, (hq.lt k hk).2⟩
    · exact ⟨.inl (.inr (.inl hk)), Nat.lt_of_lt_of_le (hV k hk) ho.size⟩
    · exact ⟨.inl (.inr (.inr hk)), Nat.lt_of_lt_of_le (hX k hk) ho.size⟩
  · rcases hF k hk with hf | hf
    · exact h.apart k hf
    · exact ⟨fun e => absurd (hV k e) (Nat.not_lt.2 hf), fun e => absurd (hX k e) (Nat.not_lt.2 hf)⟩
/-- The law's own steps on blocks X. -/
theorem PS.own (h : PS P w R Rq sp sq v hs X gB cB gG cG gL cL vN W) (ho : Only X W W') (hX : ∀ k, X' k → (X k ∨ W.heap.size ≤ k) ∧ k < W'.heap.size) : PS P w R Rq sp sq v hs X' gB cB gG cG gL cL vN W' := by
  have hm := h.live.mine
  refine ⟨h.live.own (ho.mono (fun _ _ hk => .inr (.inr hk))) (fun k hk => ?_), h.rq.same (fun k hk => ho.block k (hm k (.inl hk)).2 (h.apart k hk).2), own_keep h.row (fun x hx => ho.block x (hm x (.inr (.inl hx))).2 (fun hx' => h.apart2 x hx' hx)), fun k hk => ⟨(h.apart k hk).1, fun hx => ?_⟩, fun k hk e => ?_, h.ok⟩
  · rcases hk with hk | hk | hk
    · exact ⟨.inl (.inl hk), Nat.lt_of_lt_of_le (hm k (.inl hk)).2 ho.size⟩
    · exact ⟨.inl (.inr (.inl hk)), Nat.lt_of_lt_of_le (hm k (.inr (.inl hk))).2 ho.size⟩
    · exact ⟨(hX k hk).1.elim (fun h => .inl (.inr (.inr h))) .inr, (hX k hk).2⟩
  · exact (hX k hx).1.elim (h.apart k hk).2 (fun hl => absurd (hm k (.inl hk)).2 (Nat.not_lt.2 hl))
  · exact (hX k hk).1.elim (fun hx => h.apart2 k hx e) (fun hl => absurd (hm k (.inr (.inl e))).2 (Nat.not_lt.2 hl))
theorem PS.alloc (h : PS P w R Rq sp sq v hs X gB cB gG cG gL cL vN W) (o : Obj) : PS P w R Rq sp sq v hs (fun k => X k ∨ k = W.heap.size) gB cB gG cG gL cL vN (W.alloc o) :=
  h.own ((Only.refl _ _).alloc o) (fun k hk => hk.elim (fun hx => ⟨.inl hx, by have := (h.live.mine k (.inr (.inr hx))).2; simp; omega⟩) (fun e => ⟨.inr (by omega), by simp; omega⟩))
theorem PS.less (h : PS P w R Rq sp sq v hs X gB cB gG cG gL cL vN W) (hX : ∀ k, X' k → X k) : PS P w R Rq sp sq v hs X' gB cB gG cG gL cL vN W :=
  h.own (Only.refl _ _) (fun k hk => ⟨.inl (hX k hk), (h.live.mine k (.inr (.inr (hX k hk)))).2⟩)
theorem PS.drew (h : PS P w R Rq sp sq v hs X gB cB gG cG gL cL vN W) : PS P w R Rq sp sq v hs X gB cB gG cG gL cL vN W.drew :=
  h.own (Only.refl _ _).drew (fun k hk => ⟨.inl hk, (h.live.mine k (.inr (.inr hk))).2⟩)
theorem PS.xlt (h : PS P w R Rq sp sq v hs X gB cB gG cG gL cL vN W) {k : Nat} (hk : X k) : k < W.heap.size := (h.live.mine k (.inr (.inr hk))).2
theorem Kp.blk {o : Obj} {k : Nat} (h : Kp X W W') (hk : W.heap[k]? = some o) (hx : X k) : W'.heap[k]? = some o := (h.same k hx).trans hk
theorem Kp.trans {W'' : World} (h : Kp X W W') (k : Kp X W' W'') : Kp X W W'' := ⟨Nat.le_trans h.size k.size, fun i hi => (k.same i hi).trans (h.same i hi)⟩
/-- A handle is put to those that were told. -/
theorem PS.put {h0 : Int × Nat} {v' : Value} (h : PS P w R Rq sp sq v hs X gB cB gG cG gL cL vN W) (ho : W'.ownsRow w.heap.size 29 2 v' (hs.length + 1) (hcs hs ++ [.int .i64 h0.1, .int .u32 (h0.2 : Int)])) (hg : Only (fun k => v.ownBlock = some k) W W') (hv : ∀ k, v'.ownBlock = some k → (v.ownBlock = some k ∨ W.heap.size ≤ k) ∧ k < W'.heap.size) (h0ok : InI h0.1 ∧ h0.2 < 4294967296) :
    PS P w R Rq sp sq v' (hs ++ [h0]) (fun _ => False) gB cB gG cG gL cL vN W' := by
  have hm := h.live.mine
  refine ⟨h.live.own (hg.mono (fun _ _ hk => .inr (.inl hk))) (fun k hk => ?_), h.rq.same (fun k hk => hg.block k (hm k (.inl hk)).2 (fun e => (h.apart k hk).1 e)), by rw [hcs_snoc, List.length_append]; exact ho, fun k hk => ⟨fun e => ?_, fun hx => hx⟩, fun _ hk => hk.elim, fun x hx => ?_⟩
  · rcases hk with hk | hk | hk
    · exact ⟨.inl (.inl hk), Nat.lt_of_lt_of_le (hm k (.inl hk)).2 hg.size⟩
    · exact ⟨(hv k hk).1.elim (fun h => .inl (.inr (.inl h))) .inr, (hv k hk).2⟩
    · exact hk.elim
  · exact (hv k e).1.elim (fun e => (h.apart k hk).1 e) (fun hl => absurd (hm k (.inl hk)).2 (Nat.not_lt.2 hl))
  · rcases List.mem_append.1 hx with hx | hx
    · exact h.ok x hx
    · rw [List.mem_singleton.1 hx]; exact h0ok
end
end Go.Proofs.Ytmpaefndkobgnaa
