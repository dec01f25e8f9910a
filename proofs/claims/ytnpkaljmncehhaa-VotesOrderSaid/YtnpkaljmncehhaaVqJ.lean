/- A tally whose set becomes another one. -/
import Derived.Test.YtnpkaljmncehhaaVqT
namespace Go.Proofs.Ytnpkaljmncehhaa
open Go.RowKit

theorem TM.add_set {t : TM} {r a b q s : Nat} (hr : r < t.n) : (t.add r a b).set q s = (if q = r then (t.set r s || decide (max a (t.F + 1) ≤ s ∧ s ≤ b)) else t.set q s) := by
  unfold TM.set TM.add
  simp only []
  by_cases e : q = r
  · subst e
    rw [if_pos rfl, decide_eq_true hr, Bool.true_and, Bool.true_and]
    by_cases h : a ≤ s ∧ s ≤ b ∧ t.F < s
    · rw [if_pos ⟨rfl, h⟩, decide_eq_true (show max a (t.F + 1) ≤ s ∧ s ≤ b by omega), Bool.or_true]
    · rw [if_neg (fun h' => h h'.2), decide_eq_false (show ¬ (max a (t.F + 1) ≤ s ∧ s ≤ b) by omega), Bool.or_false]
  · rw [if_neg e, if_neg (fun h => e h.1)]
/-- A tally has become another one, in its own blocks and new ones. -/
def TurnQ (w : World) (R : Nat) (vs : Nat → Value) (t' : TM) (w' : World) : Prop := ∃ vs' ls', TlQ w' R t' vs' ls' ∧ Only (TlF R vs) w w' ∧ ∀ k, TlF R vs' k → TlF R vs k ∨ w.heap.size ≤ k
section
variable {w w' : World} {R : Nat} {t : TM} {vs : Nat → Value} {ls : Nat → List (Nat × Nat)}
/-- Nothing is added. -/
theorem TlQ.addNone (h : TlQ w R t vs ls) {r a b : Nat} (hr : r < t.n) (hb : b ≤ t.F) (hg : Below w.heap.size w w') : TlQ w' R (t.add r a b) vs ls := by
  have h' := h.grew hg
  refine ⟨h'.blk, h'.own, fun q hq => ?_, fun q hq => Nat.le_succ_of_le (h.len q hq), h.apart⟩
  have e : (t.add r a b).set q = t.set q := funext fun s => by
    rw [TM.add_set hr]
    split
    · rename_i e
      rw [e, decide_eq_false (by omega), Bool.or_false]
    · rfl
  rw [e]
  exact h.spans q hq
/-- A set has become another one. -/
theorem TlQ.turnE (h : TlQ w R t vs ls) {r : Nat} (hr : r < 7) {v' : Value} {l' : List (Nat × Nat)} {t' : TM} (hb : w'.heap[R]? = some (.cells ((tcells t.n t.F vs).setIfInBounds (2 + r) v') 60 (0, 0))) (ho : OwnR w' v' l')
    (hv : v'.ownBlock = (vs r).ownBlock ∨ ∃ x, v'.ownBlock = some x ∧ w.heap.size ≤ x) (hon : Only (fun x => x = R ∨ (vs r).ownBlock = some x) w w') (hn : t'.n = t.n) (hF : t'.F = t.F) (hs : SpansOf l' (t'.set r)) (hs2 : ∀ q, q < 7 → q ≠ r → t'.set q = t.set q) (hl : l'.length ≤ t'.c) (hc : t.c ≤ t'.c) :
    TlQ w' R t' (updV vs r v') (fun q => if q = r then l' else ls q) ∧ Only (TlF R vs) w w' ∧ ∀ k, TlF R (updV vs r v') k → TlF R vs k ∨ w.heap.size ≤ k := by
  refine ⟨⟨?_, fun q hq => ?_, fun q hq => ?_, fun q hq => ?_, fun p q hp hq hpq k hk => ?_⟩, hon.mono (fun x _ hx => hx.elim .inl fun hx => .inr ⟨r, hr, hx⟩), ?_⟩
  · rw [hb, tcells_set _ hr, hn, hF]
  · by_cases e : q = r
    · subst e
      simp only [updV, if_true]
      exact ho
    · simp only [updV, if_neg e]
      exact (h.own q hq).only hon fun k hk hx => by
        rcases hx with rfl | hx
        · exact h.off hq hk
        · exact h.apart q r hq hr e k hk hx
  · by_cases e : q = r
    · subst e
      simp only [if_true]
      exact hs
    · simp only [if_neg e]
      rw [hs2 q hq e]
      exact h.spans q hq
  · by_cases e : q = r
    · subst e
      simp only [if_true]
      exact hl
    · simp only [if_neg e]
      exact Nat.le_trans (h.len q hq) hc
  · by_cases ep : p = r
    · subst ep
      have eq' : q ≠ p := fun e => hpq e.symm
      simp only [updV, if_true] at hk
      simp only [updV, if_neg eq']
      rcases hv with e | ⟨x, e, hx⟩
      · exact h.apart p q hp hq hpq k (by rw [← e]; exact hk)
      · intro hqk
        have := (h.own q hq).lt k hqk
        rw [e] at hk
        cases hk
        omega
    · by_cases eq' : q = r
      · subst eq'
        simp only [updV, if_neg ep] at hk
        simp only [updV, if_true]
        rcases hv with e | ⟨x, e, hx⟩
        · rw [e]
          exact h.apart p q hp hq hpq k hk
        · rw [e]
          intro hxk
          cases hxk
          have := (h.own p hp).lt _ hk
          omega
      · simp only [updV, if_neg ep] at hk
        simp only [updV, if_neg eq']
        exact h.apart p q hp hq hpq k hk
  · rintro k (rfl | ⟨q, hq, e⟩)
    · exact .inl (.inl rfl)
    · by_cases eq' : q = r
      · subst eq'
        simp only [updV, if_true] at e
        rcases hv with e2 | ⟨x, e2, hx⟩
        · exact .inl (.inr ⟨q, hq, by rw [← e2]; exact e⟩)
        · rw [e2] at e
          cases e
          exact .inr hx
      · simp only [updV, if_neg eq'] at e
        exact .inl (.inr ⟨q, hq, e⟩)
theorem TlQ.turn (h : TlQ w R t vs ls) {r : Nat} (hr : r < 7) {v' : Value} {l' : List (Nat × Nat)} {t' : TM} (hb : w'.heap[R]? = some (.cells ((tcells t.n t.F vs).setIfInBounds (2 + r) v') 60 (0, 0))) (ho : OwnR w' v' l')
    (hv : v'.ownBlock = (vs r).ownBlock ∨ ∃ x, v'.ownBlock = some x ∧ w.heap.size ≤ x) (hon : Only (fun x => x = R ∨ (vs r).ownBlock = some x) w w') (hn : t'.n = t.n) (hF : t'.F = t.F) (hs : SpansOf l' (t'.set r)) (hs2 : ∀ q, q < 7 → q ≠ r → t'.set q = t.set q) (hl : l'.length ≤ t'.c) (hc : t.c ≤ t'.c) :
    TurnQ w R vs t' w' := ⟨_, _, h.turnE hr hb ho hv hon hn hF hs hs2 hl hc⟩
end
end Go.Proofs.Ytnpkaljmncehhaa
