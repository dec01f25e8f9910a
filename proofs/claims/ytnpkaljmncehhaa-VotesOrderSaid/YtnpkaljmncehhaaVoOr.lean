/- VotesOrder's walk. -/
import Derived.Test.YtnpkaljmncehhaaVoOrR
namespace Go.Proofs.Ytnpkaljmncehhaa
open Go.RowKit

/-- Numbers that lie in a row. -/
def HasU6 (w : World) (A : Option Addr) (l : List Nat) : Prop := l ≠ [] → ∃ b o, A = some ⟨b, o, none⟩ ∧ b < w.heap.size ∧ ∀ j (h : j < l.length), w.cell? ⟨b, o + j, none⟩ = some (.int .u64 (l[j] : Int))
def okSp (p : Nat × Nat) : Prop := p.1 ≤ p.2 ∧ p.2 < 1099511627776
instance (p : Nat × Nat) : Decidable (okSp p) := inferInstanceAs (Decidable (_ ∧ _))
/-- The slots of those spans from one to another one that are a replica's. -/
def inR (l : List (Nat × Nat)) (lo hi q s : Nat) : Prop := ∃ j, ∃ h : j < l.length, lo ≤ j ∧ j < hi ∧ okSp l[j] ∧ j % 3 = q ∧ l[j].1 ≤ s ∧ s ≤ l[j].2 ∧ 0 < s
structure OrS (t : TM) (l : List (Nat × Nat)) (lo hi : Nat) : Prop where
  n : t.n = 3
  F : t.F = 0
  c : t.c ≤ 2 * (hi - lo)
  S : ∀ q s, t.S q s = true ↔ inR l lo hi q s
theorem OrS.new (l : List (Nat × Nat)) (i : Nat) : OrS (TM.new 3) l i i := ⟨rfl, rfl, Nat.zero_le _, fun q s => ⟨(fun h => by cases h), fun ⟨j, _, h1, h2, _⟩ => by omega⟩⟩
theorem add_mem (t : TM) (r a b q s : Nat) : (t.add r a b).S q s = true ↔ (q = r ∧ a ≤ s ∧ s ≤ b ∧ t.F < s) ∨ t.S q s = true := by
  show (if q = r ∧ a ≤ s ∧ s ≤ b ∧ t.F < s then true else t.S q s) = true ↔ _
  split
  · rename_i h
    exact ⟨fun _ => .inl h, fun _ => rfl⟩
  · rename_i h
    exact ⟨.inr, fun h' => h'.resolve_left h⟩
theorem addX_pos {t : TM} {r a b : Nat} (hn : t.n = 3) (hr : r < 3) (hab : a ≤ b) : t.addX (r : Int) a b = t.add r a b := by
  unfold TM.addX
  rw [if_pos (by unfold TM.may; rw [hn, decide_eq_true_eq]; omega), Int.toNat_natCast]
theorem inR_up {l : List (Nat × Nat)} {i q s : Nat} (h : i < l.length) : inR l 0 (i + 1) q s ↔ (okSp l[i] ∧ i % 3 = q ∧ l[i].1 ≤ s ∧ s ≤ l[i].2 ∧ 0 < s) ∨ inR l 0 i q s := by
  constructor
  · rintro ⟨j, hj, h0, h1, h2⟩
    by_cases e : j = i
    · subst e; exact .inl h2
    · exact .inr ⟨j, hj, h0, by omega, h2⟩
  · rintro (h2 | ⟨j, hj, h0, h1, h2⟩)
    · exact ⟨i, h, Nat.zero_le _, by omega, h2⟩
    · exact ⟨j, hj, h0, by omega, h2⟩
theorem inR_down {l : List (Nat × Nat)} {i q s : Nat} (h : i < l.length) : inR l i l.length q s ↔ (okSp l[i] ∧ i % 3 = q ∧ l[i].1 ≤ s ∧ s ≤ l[i].2 ∧ 0 < s) ∨ inR l (i + 1) l.length q s := by
  constructor
  · rintro ⟨j, hj, h0, h1, h2⟩
    by_cases e : j = i
    · subst e; exact .inl h2
    · exact .inr ⟨j, hj, by omega, h1, h2⟩
  · rintro (h2 | ⟨j, hj, h0, h1, h2⟩)
    · exact ⟨i, h, Nat.le_refl _, h, h2⟩
    · exact ⟨j, hj, by omega, h1, h2⟩
theorem OrS.up {t : TM} {l : List (Nat × Nat)} {i : Nat} (h : OrS t l 0 i) (hi : i < l.length) (hok : okSp l[i]) : OrS (t.addX ((i % 3 : Nat) : Int) l[i].1 l[i].2) l 0 (i + 1) := by
  rw [addX_pos h.n (Nat.mod_lt _ (by decide)) hok.1]
  refine ⟨h.n, h.F, by have := h.c; show t.c + 1 ≤ _; omega, fun q s => ?_⟩
  rw [add_mem, inR_up hi, h.S, h.F]
  constructor
  · rintro (⟨h1, h2, h3, h4⟩ | h1)
    · exact .inl ⟨hok, h1.symm, h2, h3, h4⟩
    · exact .inr h1
  · rintro (⟨_, h1, h2, h3, h4⟩ | h1)
    · exact .inl ⟨h1.symm, h2, h3, h4⟩
    · exact .inr h1
theorem OrS.upNo {t : TM} {l : List (Nat × Nat)} {i : Nat} (h : OrS t l 0 i) (hi : i < l.length) (hok : ¬ okSp l[i]) : OrS t l 0 (i + 1) :=
  ⟨h.n, h.F, by have := h.c; omega, fun q s => by
    rw [inR_up hi, h.S]
    exact ⟨.inr, fun h' => h'.resolve_left fun h2 => hok h2.1⟩⟩
theorem OrS.downNo {t : TM} {l : List (Nat × Nat)} {i : Nat} (h : OrS t l (i + 1) l.length) (hi : i < l.length) (hok : ¬ okSp l[i]) : OrS t l i l.length :=
  ⟨h.n, h.F, by have := h.c; omega, fun q s => by
    rw [inR_down hi, h.S]
    exact ⟨.inr, fun h' => h'.resolve_left fun h2 => hok h2.1⟩⟩
theorem OrS.down {t : TM} {l : List (Nat × Nat)} {i : Nat} (h : OrS t l (i + 1) l.length) (hi : i < l.length) (hok : okSp l[i]) : OrS (t.addX ((i % 3 : Nat) : Int) l[i].1 l[i].2) l i l.length := by
  rw [addX_pos h.n (Nat.mod_lt _ (by decide)) hok.1]
  refine ⟨h.n, h.F, by have := h.c; show t.c + 1 ≤ _; omega, fun q s => ?_⟩
  rw [add_mem, inR_down hi, h.S, h.F]
  constructor
  · rintro (⟨h1, h2, h3, h4⟩ | h1)
    · exact .inl ⟨hok, h1.symm, h2, h3, h4⟩
    · exact .inr h1
  · rintro (⟨_, h1, h2, h3, h4⟩ | h1)
    · exact .inl ⟨h1.symm, h2, h3, h4⟩
    · exact .inr h1
theorem OrS.down2 {t : TM} {l : List (Nat × Nat)} {i m : Nat} (h : OrS t l (i + 1) l.length) (hi : i < l.length) (hok : okSp l[i]) (h1 : l[i].1 ≤ m) (h2 : m < l[i].2) : OrS ((t.addX ((i % 3 : Nat) : Int) (m + 1) l[i].2).addX ((i % 3 : Nat) : Int) l[i].1 m) l i l.length := by
  have hr : i % 3 < 3 := Nat.mod_lt _ (by decide)
  rw [addX_pos (t := t) h.n hr (by omega), addX_pos (t := t.add (i % 3) (m + 1) l[i].2) h.n hr h1]
  refine ⟨h.n, h.F, by have := h.c; show t.c + 1 + 1 ≤ _; omega, fun q s => ?_⟩
  rw [add_mem, add_mem, inR_down hi, h.S]
  show (_ ∧ _ ∧ _ ∧ t.F < s) ∨ _ ↔ _
  rw [h.F]
  constructor
  · rintro (⟨g1, g2, g3, g4⟩ | ⟨g1, g2, g3, g4⟩ | g)
    · exact .inl ⟨hok, g1.symm, g2, by omega, g4⟩
    · exact .inl ⟨hok, g1.symm, by omega, g3, g4⟩
    · exact .inr g
  · rintro (⟨_, g1, g2, g3, g4⟩ | g)
    · by_cases hs : s ≤ m
      · exact .inl ⟨g1.symm, g2, hs, g4⟩
      · exact .inr (.inl ⟨g1.symm, by omega, g3, g4⟩)
    · exact .inr (.inr g)
theorem OrS.same {ta tb : TM} {l : List (Nat × Nat)} {lo hi : Nat} (h : OrS ta l lo hi) (g : OrS tb l lo hi) : ta.S = tb.S := by
  funext q s
  have := (h.S q s).trans (g.S q s).symm
  cases h1 : ta.S q s <;> cases h2 : tb.S q s <;> simp_all
theorem OrS.chosen {ta tb : TM} {l : List (Nat × Nat)} {lo hi : Nat} (h : OrS ta l lo hi) (g : OrS tb l lo hi) (s : Nat) : ta.chosen s = tb.chosen s := by
  unfold TM.chosen TM.count TM.has
  rw [h.n, g.n, h.F, g.F, h.same g]
/-- The two tallies. -/
structure OrV {T : World → Prop} (K : VotK T) (w : World) (Ra Rb : Nat) (l : List (Nat × Nat)) (ha la hb : Nat) (W : World) : Prop where
  ex : ∃ ta tb, TwoV K w Ra Rb ta tb W ∧ OrS ta l 0 ha ∧ OrS tb l la hb
theorem OrV.grew {T : World → Prop} {K : VotK T} {w W W' : World} {Ra Rb ha la hb : Nat} {l : List (Nat × Nat)} (h : OrV K w Ra Rb l ha la hb W) (hg : Below W.heap.size W W') : OrV K w Ra Rb l ha la hb W' := by
  obtain ⟨ta, tb, h1, h2⟩ := h.ex
  exact ⟨ta, tb, h1.grew hg, h2⟩
theorem OrV.below {T : World → Prop} {K : VotK T} {w W : World} {Ra Rb ha la hb : Nat} {l : List (Nat × Nat)} (h : OrV K w Ra Rb l ha la hb W) : Below w.heap.size w W := by
  obtain ⟨ta, tb, h1, h2⟩ := h.ex
  exact h1.below
end Go.Proofs.Ytnpkaljmncehhaa
