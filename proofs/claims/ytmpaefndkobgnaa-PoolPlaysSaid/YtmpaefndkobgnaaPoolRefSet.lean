/- The document's pool behind stores; Set, Back and Get. -/
import Derived.Test.YtmpaefndkobgnaaPoolRef
import Derived.Deep.DeepCutAuto
namespace Go.Proofs.Ytmpaefndkobgnaa
open Go.RowKit

section
variable {w : World} {base R gB cB gG cG gL cL : Nat} {vN : Value} {s : QS}
theorem row_blk {w : World} {base g n c : Nat} {e : TypeId} {xs : List Value} (h : w.ownsRow base e 1 (.slice (some ⟨g, 0, none⟩) n c) n xs) : ∃ cur, w.heap[g]? = some (.cells cur e (0, 0)) := by
  rcases h.2 with ⟨hv, _⟩ | ⟨g', cap, cur, hv, _, hg, _⟩
  · cases hv
  · cases hv; exact ⟨cur, hg⟩
theorem blk_ne {w : World} {g g' : Nat} {c c' : Array Value} {t t' : TypeId} (h : w.heap[g]? = some (.cells c t (0, 0))) (h' : w.heap[g']? = some (.cells c' t' (0, 0))) (ht : t ≠ t') : g ≠ g' := by
  rintro rfl
  rw [h] at h'
  simp only [Option.some.injEq, Obj.cells.injEq] at h'
  exact ht h'.2.1
theorem RQ.neB (h : RQ w base R gB cB gG cG gL cL vN s) : gB ≠ R ∧ gB ≠ gG ∧ gB ≠ gL ∧ vN.ownBlock ≠ some gB := by
  obtain ⟨c1, h1⟩ := row_blk h.hB
  obtain ⟨c2, h2⟩ := row_blk h.hG
  obtain ⟨c3, h3⟩ := row_blk h.hL
  refine ⟨blk_ne h1 h.blk (by decide), blk_ne h1 h2 (by decide), blk_ne h1 h3 (by decide), fun e => ?_⟩
  rcases own_apart h.hB h.hN (by decide) with h' | h'
  · cases h'
  · exact h' e.symm
theorem RQ.neG (h : RQ w base R gB cB gG cG gL cL vN s) : gG ≠ R ∧ gG ≠ gB ∧ gG ≠ gL ∧ vN.ownBlock ≠ some gG := by
  obtain ⟨c1, h1⟩ := row_blk h.hB
  obtain ⟨c2, h2⟩ := row_blk h.hG
  obtain ⟨c3, h3⟩ := row_blk h.hL
  refine ⟨blk_ne h2 h.blk (by decide), blk_ne h2 h1 (by decide), blk_ne h2 h3 (by decide), fun e => ?_⟩
  rcases own_apart h.hG h.hN (by decide) with h' | h'
  · cases h'
  · exact h' e.symm
theorem RQ.neL (h : RQ w base R gB cB gG cG gL cL vN s) : gL ≠ R ∧ gL ≠ gB ∧ gL ≠ gG ∧ vN.ownBlock ≠ some gL := by
  obtain ⟨c1, h1⟩ := row_blk h.hB
  obtain ⟨c2, h2⟩ := row_blk h.hG
  obtain ⟨c3, h3⟩ := row_blk h.hL
  refine ⟨blk_ne h3 h.blk (by decide), blk_ne h3 h1 (by decide), blk_ne h3 h2 (by decide), fun e => ?_⟩
  rcases own_apart h.hL h.hN (by decide) with h' | h'
  · cases h'
  · exact h' e.symm
theorem RQ.neN (h : RQ w base R gB cB gG cG gL cL vN s) : vN.ownBlock ≠ some R := by
  intro e
  rcases h.hN.2 with ⟨hv, _⟩ | ⟨g, cap, cur, hv, _, hg, _⟩
  · subst hv; cases e
  · subst hv
    cases e
    exact blk_ne hg h.blk (by decide) rfl
/-- A store into block g leaves rows of other blocks. -/
theorem own_set {w : World} {base n g j : Nat} {e : TypeId} {v u : Value} {xs : List Value} (h : w.ownsRow base e 1 v n xs) (hn : v.ownBlock ≠ some g) : (w.setCell ⟨g, j, none⟩ u).ownsRow base e 1 v n xs :=
  h.kept (grownBy_set w g j u) (.inr hn)
theorem blk_keep {w : World} {g g' j : Nat} {o : Obj} {u : Value} (h : w.heap[g]? = some o) (hn : g ≠ g') : (w.setCell ⟨g', j, none⟩ u).heap[g]? = some o := (Below.heap_setCell _ _ _ _ hn).trans h

theorem RQ.setB (h : RQ w base R gB cB gG cG gL cL vN s) (i : Nat) (x : List UInt8) : RQ (w.setCell ⟨gB, i, none⟩ (sV x)) base R gB cB gG cG gL cL vN { s with B := s.B.set i x } := by
  have hne := h.neB
  refine ⟨blk_keep h.blk (Ne.symm hne.1), ?_, own_set h.hG (by simp [Value.ownBlock]; exact Ne.symm hne.2.1), own_set h.hL (by simp [Value.ownBlock]; exact Ne.symm hne.2.2.1), own_set h.hN hne.2.2.2, h.hR, h.hn, h.hNl, h.hNn, h.hGl, h.hsz⟩
  have := (h.hB.stored i (sV x)).1
  show World.ownsRow _ _ _ _ _ _ ((s.B.set i x).map sV)
  rw [List.map_set]; exact this
theorem RQ.setG (h : RQ w base R gB cB gG cG gL cL vN s) (i g : Nat) (hg : g < 4294967296) : RQ (w.setCell ⟨gG, i, none⟩ (.int .u32 (g : Int))) base R gB cB gG cG gL cL vN { s with G := s.G.set i g } := by
  have hne := h.neG
  refine ⟨blk_keep h.blk (Ne.symm hne.1), own_set h.hB (by simp [Value.ownBlock]; exact Ne.symm hne.2.1), ?_, own_set h.hL (by simp [Value.ownBlock]; exact Ne.symm hne.2.2.1), own_set h.hN hne.2.2.2, h.hR, h.hn, h.hNl, h.hNn, ?_, h.hsz⟩
  · have := (h.hG.stored i (gV g)).1
    show World.ownsRow _ _ _ _ _ _ ((s.G.set i g).map gV)
    rw [List.map_set]; exact this
  · intro x hx
    rcases List.mem_or_eq_of_mem_set hx with h' | h'
    · exact h.hGl x h'
    · rw [h']; exact hg
theorem RQ.setL (h : RQ w base R gB cB gG cG gL cL vN s) (i : Nat) (b : Bool) : RQ (w.setCell ⟨gL, i, none⟩ (.bool b)) base R gB cB gG cG gL cL vN { s with L := s.L.set i b } := by
  have hne := h.neL
  refine ⟨blk_keep h.blk (Ne.symm hne.1), own_set h.hB (by simp [Value.ownBlock]; exact Ne.symm hne.2.1), own_set h.hG (by simp [Value.ownBlock]; exact Ne.symm hne.2.2.1), ?_, own_set h.hN hne.2.2.2, h.hR, h.hn, h.hNl, h.hNn, h.hGl, h.hsz⟩
  have := (h.hL.stored i (bV b)).1
  show World.ownsRow _ _ _ _ _ _ ((s.L.set i b).map bV)
  rw [List.map_set]; exact this
theorem RQ.setN (h : RQ w base R gB cB gG cG gL cL vN s) (vN' : Value) (N' : List Nat) (hN' : w.ownsRow base 3 1 vN' N'.length (N'.map iV)) (hl : N'.length ≤ s.n) (hn : ∀ i ∈ N', i < s.n) :
    RQ (w.setCell ⟨R, 4, none⟩ vN') base R gB cB gG cG gL cL vN' { s with N := N' } := by
  have hb := h.neB; have hg := h.neG; have hl' := h.neL
  have hnr : vN'.ownBlock ≠ some R := by
    intro e
    rcases hN'.2 with ⟨hv, _⟩ | ⟨g, cap, cur, hv, _, hgg, _⟩
    · subst hv; cases e
    · subst hv
      cases e
      exact blk_ne hgg h.blk (by decide) rfl
  refine ⟨?_, own_set h.hB (by simp [Value.ownBlock]; exact hb.1), own_set h.hG (by simp [Value.ownBlock]; exact hg.1), own_set h.hL (by simp [Value.ownBlock]; exact hl'.1), own_set hN' hnr, h.hR, h.hn, hl, hn, h.hGl, h.hsz⟩
  have := blk_set h.blk 4 vN'
  rw [this]; rfl
theorem RQ.only {F : Nat → Prop} {w' : World} (h : RQ w base R gB cB gG cG gL cL vN s) (ho : Only F w w') (hF : ∀ k, FQ R gB gG gL vN k → ¬ F k) : RQ w' base R gB cB gG cG gL cL vN s :=
  ⟨ho.blk h.blk (hF R (.inl rfl)), ho.own h.hB (fun k e => by cases e; exact hF _ (.inr (.inl rfl))), ho.own h.hG (fun k e => by cases e; exact hF _ (.inr (.inr (.inl rfl)))), ho.own h.hL (fun k e => by cases e; exact hF _ (.inr (.inr (.inr (.inl rfl))))), ho.own h.hN (fun k e => hF k (.inr (.inr (.inr (.inr e))))), h.hR, h.hn, h.hNl, h.hNn, h.hGl, h.hsz⟩
theorem RQ.grew {w' : World} (h : RQ w base R gB cB gG cG gL cL vN s) (hb : Below w.heap.size w w') : RQ w' base R gB cB gG cG gL cL vN s := h.only (Only.of_grew (F := fun _ => False) hb) (fun _ _ => id)
end
end Go.Proofs.Ytmpaefndkobgnaa
