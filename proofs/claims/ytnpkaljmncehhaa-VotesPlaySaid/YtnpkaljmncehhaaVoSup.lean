/- Spans that are merged in order, cut at a floor; where a run of chosen slots goes on. -/
import Derived.Test.YtnpkaljmncehhaaVoM
namespace Go.Proofs.Ytnpkaljmncehhaa

theorem canonB_snoc : ∀ {l : List (Nat × Nat)} {p : Nat × Nat}, Canon l → p.1 ≤ p.2 → (∀ q ∈ l, q.2 + 1 < p.1) → Canon (l ++ [p])
  | [], p, _, h, _ => ⟨h, (fun _ h => by cases h), trivial⟩
  | a :: l, p, hl, h, hq => ⟨hl.1, fun x hx => by
    rcases List.mem_append.1 hx with hx | hx
    · exact hl.2.1 x hx
    · simp only [List.mem_cons, List.not_mem_nil, or_false] at hx
      subst hx
      exact hq a List.mem_cons_self, canonB_snoc hl.2.2 h fun x hx => hq x (List.mem_cons_of_mem _ hx)⟩
theorem canonB_init : ∀ {l : List (Nat × Nat)} {p : Nat × Nat}, Canon (l ++ [p]) → Canon l ∧ p.1 ≤ p.2 ∧ ∀ q ∈ l, q.2 + 1 < p.1
  | [], p, h => ⟨trivial, h.1, fun _ h => by cases h⟩
  | a :: l, p, h => by
    obtain ⟨h1, h2, h3⟩ := canonB_init (l := l) (p := p) h.2.2
    refine ⟨⟨h.1, fun x hx => h.2.1 x (List.mem_append_left _ hx), h1⟩, h2, fun x hx => ?_⟩
    rcases List.mem_cons.1 hx with rfl | hx
    · exact h.2.1 p (List.mem_append_right _ List.mem_cons_self)
    · exact h3 x hx
theorem inSpB_append {l k : List (Nat × Nat)} {s : Nat} : inSp (l ++ k) s ↔ inSp l s ∨ inSp k s := by
  constructor
  · rintro ⟨x, hx, h⟩
    rcases List.mem_append.1 hx with hx | hx
    · exact .inl ⟨x, hx, h⟩
    · exact .inr ⟨x, hx, h⟩
  · rintro (⟨x, hx, h⟩ | ⟨x, hx, h⟩)
    · exact ⟨x, List.mem_append_left _ hx, h⟩
    · exact ⟨x, List.mem_append_right _ hx, h⟩
theorem inSpB_one {p : Nat × Nat} {s : Nat} : inSp [p] s ↔ p.1 ≤ s ∧ s ≤ p.2 := by
  constructor
  · rintro ⟨x, hx, h⟩
    simp only [List.mem_cons, List.not_mem_nil, or_false] at hx
    rw [← hx]
    exact h
  · exact fun h => ⟨p, List.mem_cons_self, h⟩
/-- A canonical list's parts. -/
theorem canon_append : ∀ {l k : List (Nat × Nat)}, Canon (l ++ k) ↔ Canon l ∧ Canon k ∧ ∀ p ∈ l, ∀ q ∈ k, p.2 + 1 < q.1
  | [], k => ⟨fun h => ⟨trivial, h, fun p hp => by cases hp⟩, fun h => h.2.1⟩
  | a :: l, k => by
    show (a.1 ≤ a.2 ∧ (∀ q ∈ l ++ k, a.2 + 1 < q.1) ∧ Canon (l ++ k)) ↔ (a.1 ≤ a.2 ∧ (∀ q ∈ l, a.2 + 1 < q.1) ∧ Canon l) ∧ _
    rw [canon_append]
    constructor
    · rintro ⟨h1, h2, h3, h4, h5⟩
      refine ⟨⟨h1, fun q hq => h2 q (List.mem_append_left _ hq), h3⟩, h4, fun p hp q hq => ?_⟩
      rcases List.mem_cons.1 hp with rfl | hp
      · exact h2 q (List.mem_append_right _ hq)
      · exact h5 p hp q hq
    · rintro ⟨⟨h1, h2, h3⟩, h4, h5⟩
      refine ⟨h1, fun q hq => ?_, h3, h4, fun p hp q hq => h5 p (List.mem_cons_of_mem _ hp) q hq⟩
      rcases List.mem_append.1 hq with hq | hq
      · exact h2 q hq
      · exact h5 a List.mem_cons_self q hq
/-- A span comes behind the others, in the order of their first slots: it joins the last one, or stands for itself. -/
theorem merge_join {l : List (Nat × Nat)} {q p : Nat × Nat} (h : Canon (l ++ [q])) (h1 : q.1 ≤ p.1) (h2 : p.1 ≤ q.2 + 1) (_ : p.1 ≤ p.2) : Canon (l ++ [(q.1, max q.2 p.2)]) ∧ ∀ s, inSp (l ++ [(q.1, max q.2 p.2)]) s ↔ inSp (l ++ [q]) s ∨ (p.1 ≤ s ∧ s ≤ p.2) := by
  obtain ⟨c1, c2, c3⟩ := canonB_init h
  refine ⟨canonB_snoc c1 (show q.1 ≤ max q.2 p.2 by omega) c3, fun s => ?_⟩
  rw [inSpB_append, inSpB_append, inSpB_one, inSpB_one]
  dsimp only
  by_cases hl : inSp l s
  · simp [hl]
  · simp only [hl, false_or]
    omega
theorem merge_new {l : List (Nat × Nat)} {p : Nat × Nat} (h : Canon l) (h1 : ∀ q ∈ l, q.2 + 1 < p.1) (hp : p.1 ≤ p.2) : Canon (l ++ [p]) ∧ ∀ s, inSp (l ++ [p]) s ↔ inSp l s ∨ (p.1 ≤ s ∧ s ≤ p.2) :=
  ⟨canonB_snoc h hp h1, fun s => by rw [inSpB_append, inSpB_one]⟩
/-- It is enough that it stands behind the last one. -/
theorem last_far {l : List (Nat × Nat)} {q p : Nat × Nat} (h : Canon (l ++ [q])) (h1 : q.2 + 1 < p.1) : ∀ x ∈ l ++ [q], x.2 + 1 < p.1 := fun x hx => by
  obtain ⟨_, c2, c3⟩ := canonB_init h
  rcases List.mem_append.1 hx with hx | hx
  · have := c3 x hx
    omega
  · simp only [List.mem_cons, List.not_mem_nil, or_false] at hx
    rw [hx]
    exact h1
/-- A span is laid among others: those far below, those it touches (which it swallows), those far above. -/
theorem merge_mid {l m k : List (Nat × Nat)} {p z : Nat × Nat} (h : Canon (l ++ m ++ k)) (hl : ∀ q ∈ l, q.2 + 1 < p.1) (hk : ∀ q ∈ k, p.2 + 1 < q.1) (hp : p.1 ≤ p.2)
    (z1 : z.1 ≤ p.1) (z2 : p.2 ≤ z.2) (hm : ∀ q ∈ m, q.1 ≤ p.2 + 1 ∧ p.1 ≤ q.2 + 1 ∧ z.1 ≤ q.1 ∧ q.2 ≤ z.2) (z3 : z.1 = p.1 ∨ ∃ q ∈ m, z.1 = q.1) (z4 : z.2 = p.2 ∨ ∃ q ∈ m, z.2 = q.2) :
    Canon (l ++ [z] ++ k) ∧ ∀ s, inSp (l ++ [z] ++ k) s ↔ inSp (l ++ m ++ k) s ∨ (p.1 ≤ s ∧ s ≤ p.2) := by
  obtain ⟨hlm, ck, hlk⟩ := canon_append.1 h
  obtain ⟨cl, cm, hlm⟩ := canon_append.1 hlm
  constructor
  · refine canon_append.2 ⟨canonB_snoc cl (by omega) fun q hq => ?_, ck, fun x hx q hq => ?_⟩
    · rcases z3 with e | ⟨y, hy, e⟩
      · rw [e]; exact hl q hq
      · rw [e]; exact hlm q hq y hy
    · rcases List.mem_append.1 hx with hx | hx
      · exact hlk x (List.mem_append_left _ hx) q hq
      · simp only [List.mem_cons, List.not_mem_nil, or_false] at hx
        rw [hx]
        rcases z4 with e | ⟨y, hy, e⟩
        · rw [e]; exact hk q hq
        · rw [e]; exact hlk y (List.mem_append_right _ hy) q hq
  · intro s
    rw [inSpB_append, inSpB_append, inSpB_append, inSpB_append, inSpB_one]
    have e : (z.1 ≤ s ∧ s ≤ z.2) ↔ inSp m s ∨ (p.1 ≤ s ∧ s ≤ p.2) := by
      constructor
      · rintro ⟨h1, h2⟩
        by_cases h3 : p.1 ≤ s
        · by_cases h4 : s ≤ p.2
          · exact .inr ⟨h3, h4⟩
          · rcases z4 with e | ⟨y, hy, e⟩
            · omega
            · have := hm y hy
              exact .inl ⟨y, hy, by omega, by omega⟩
        · rcases z3 with e | ⟨y, hy, e⟩
          · omega
          · have := hm y hy
            exact .inl ⟨y, hy, by omega, by omega⟩
      · rintro (⟨y, hy, h1, h2⟩ | ⟨h1, h2⟩)
        · have := hm y hy
          omega
        · omega
    rw [e]
    constructor
    · rintro ((h1 | h1 | h1) | h1)
      · exact .inl (.inl (.inl h1))
      · exact .inl (.inl (.inr h1))
      · exact .inr h1
      · exact .inl (.inr h1)
    · rintro (((h1 | h1) | h1) | h1)
      · exact .inl (.inl h1)
      · exact .inl (.inr (.inl h1))
      · exact .inr h1
      · exact .inl (.inr (.inr h1))
/-- What is left above a floor. -/
def cutSp (x : Nat) (l : List (Nat × Nat)) : List (Nat × Nat) := (l.filter fun p => decide (x < p.2)).map fun p => (max p.1 (x + 1), p.2)
theorem cutSp_mem {x : Nat} {l : List (Nat × Nat)} {s : Nat} : inSp (cutSp x l) s ↔ inSp l s ∧ x < s := by
  constructor
  · rintro ⟨y, hy, h1, h2⟩
    obtain ⟨p, hp, rfl⟩ := List.mem_map.1 hy
    obtain ⟨hp1, hp2⟩ := List.mem_filter.1 hp
    dsimp only at h1 h2
    exact ⟨⟨p, hp1, by omega, h2⟩, by omega⟩
  · rintro ⟨⟨p, hp, h1, h2⟩, h3⟩
    exact ⟨_, List.mem_map.2 ⟨p, List.mem_filter.2 ⟨hp, decide_eq_true (by omega)⟩, rfl⟩, (show max p.1 (x + 1) ≤ s by omega), h2⟩
theorem cutSp_canon {x : Nat} : ∀ {l : List (Nat × Nat)}, Canon l → Canon (cutSp x l)
  | [], _ => trivial
  | p :: l, h => by
    have ih := cutSp_canon (x := x) h.2.2
    unfold cutSp at ih ⊢
    rw [List.filter_cons]
    split
    · rename_i hx
      have hx' : x < p.2 := of_decide_eq_true hx
      refine ⟨show max p.1 (x + 1) ≤ p.2 by have := h.1; omega, fun q hq => ?_, ih⟩
      obtain ⟨y, hy, rfl⟩ := List.mem_map.1 hq
      have := h.2.1 y (List.mem_filter.1 hy).1
      show p.2 + 1 < max y.1 (x + 1)
      omega
    · exact ih
theorem SpansOf.cut {l : List (Nat × Nat)} {P : Nat → Bool} (h : SpansOf l P) (x : Nat) : SpansOf (cutSp x l) fun s => P s && decide (x < s) := ⟨cutSp_canon h.canon, fun s => by
  rw [cutSp_mem, h.mem, Bool.and_eq_true, decide_eq_true_eq]⟩
theorem cntF_mono {f g : Nat → Bool} : ∀ {n : Nat}, (∀ r, r < n → f r = true → g r = true) → cntF f n ≤ cntF g n
  | 0, _ => Nat.le_refl _
  | n + 1, h => by
    have ih := cntF_mono (n := n) fun r hr => h r (by omega)
    unfold cntF
    have := h n (by omega)
    cases hf : f n with
    | false => rw [if_neg (by decide)]; omega
    | true => rw [if_pos rfl, this hf, if_pos rfl]; omega
/-- A chosen slot's run: as far as none that has it ends. -/
theorem TM.chosen_run {t : TM} {s x : Nat} (h : t.chosen s = true) (hF : t.F < s) (hs : ∀ r, r < t.n → t.S r s = true → t.S r x = true) : t.chosen x = true := by
  unfold TM.chosen TM.count at h ⊢
  rw [decide_eq_true_eq] at h ⊢
  have := cntF_mono (n := t.n) (f := fun r => t.has r s) (g := fun r => t.has r x) fun r hr hf => by
    unfold TM.has at hf ⊢
    have hns : ¬ s ≤ t.F := by omega
    simp only [hns, decide_false, Bool.false_or] at hf
    rw [hs r hr hf, Bool.or_true]
  omega
end Go.Proofs.Ytnpkaljmncehhaa
