/- Where a run belongs among others, and what it becomes with those that it touches. -/
import Derived.Test.YtnpkaljmncehhaaVqU
import Derived.Test.YtnpkaljmncehhaaVqP
namespace Go.Proofs.Ytnpkaljmncehhaa

def atP (p : Nat × Nat → Bool) (l : List (Nat × Nat)) (j : Nat) : Bool := match l[j]? with
  | some x => p x
  | none => false
theorem atP_at {p : Nat × Nat → Bool} {l : List (Nat × Nat)} {j : Nat} (h : j < l.length) : atP p l j = p l[j] := by
  unfold atP
  rw [List.getElem?_eq_getElem h]
/-- Whether a run ends ahead of a place or behind it; whether it begins far behind one. -/
def nearP (a : Nat) (x : Nat × Nat) : Bool := decide (a ≤ x.2 + 1)
def farP (b : Nat) (x : Nat × Nat) : Bool := decide (b + 1 < x.1)
theorem nearP_mono {l : List (Nat × Nat)} (h : Canon l) {a : Nat} : ∀ i j, i ≤ j → j < l.length → atP (nearP a) l i = true → atP (nearP a) l j = true := fun i j hij hj hi => by
  rw [atP_at (by omega)] at hi
  rw [atP_at hj]
  rcases Nat.lt_or_ge i j with h1 | h1
  · have := canon_mono h h1 hj
    have := (canon_get h j hj).1
    have := of_decide_eq_true hi
    exact decide_eq_true (by omega)
  · obtain rfl : i = j := by omega
    exact hi
theorem farP_mono {l : List (Nat × Nat)} (h : Canon l) {b : Nat} : ∀ i j, i ≤ j → j < l.length → atP (farP b) l i = true → atP (farP b) l j = true := fun i j hij hj hi => by
  rw [atP_at (by omega)] at hi
  rw [atP_at hj]
  rcases Nat.lt_or_ge i j with h1 | h1
  · have := canon_mono h h1 hj
    have := (canon_get h i (by omega)).1
    have := of_decide_eq_true hi
    exact decide_eq_true (by omega)
  · obtain rfl : i = j := by omega
    exact hi
/-- What a run becomes with the first ones behind a place. -/
def mrgR (l : List (Nat × Nat)) (i : Nat) (p : Nat × Nat) : Nat → Nat × Nat
  | 0 => p
  | m + 1 => match l[i + m]? with
    | some q => (min (mrgR l i p m).1 q.1, max (mrgR l i p m).2 q.2)
    | none => mrgR l i p m
theorem mrgR_succ {l : List (Nat × Nat)} {i m : Nat} {p : Nat × Nat} (h : i + m < l.length) : mrgR l i p (m + 1) = (min (mrgR l i p m).1 l[i + m].1, max (mrgR l i p m).2 l[i + m].2) := by
  show (match l[i + m]? with
    | some q => (min (mrgR l i p m).1 q.1, max (mrgR l i p m).2 q.2)
    | none => mrgR l i p m) = _
  rw [List.getElem?_eq_getElem h]
structure MrgIs (l : List (Nat × Nat)) (i : Nat) (p z : Nat × Nat) (m : Nat) : Prop where
  lo : z.1 ≤ p.1
  hi : p.2 ≤ z.2
  all : ∀ k (_ : k < m) (h : i + k < l.length), z.1 ≤ l[i + k].1 ∧ l[i + k].2 ≤ z.2
  one : z.1 = p.1 ∨ ∃ k, k < m ∧ ∃ h : i + k < l.length, z.1 = l[i + k].1
  two : z.2 = p.2 ∨ ∃ k, k < m ∧ ∃ h : i + k < l.length, z.2 = l[i + k].2
theorem mrgR_is (l : List (Nat × Nat)) (i : Nat) (p : Nat × Nat) : ∀ m, i + m ≤ l.length → MrgIs l i p (mrgR l i p m) m
  | 0, _ => ⟨Nat.le_refl _, Nat.le_refl _, fun k hk => by omega, .inl rfl, .inl rfl⟩
  | m + 1, h => by
    have ih := mrgR_is l i p m (by omega)
    rw [mrgR_succ (by omega)]
    generalize mrgR l i p m = y at ih ⊢
    refine ⟨?_, ?_, fun k hk hl => ?_, ?_, ?_⟩
    · have := ih.lo
      show min y.1 _ ≤ _
      omega
    · have := ih.hi
      show _ ≤ max y.2 _
      omega
    · show min y.1 _ ≤ _ ∧ _ ≤ max y.2 _
      rcases Nat.lt_or_ge k m with h1 | h1
      · have := ih.all k h1 hl
        omega
      · obtain rfl : k = m := by omega
        omega
    · show min y.1 _ = _ ∨ ∃ k, k < m + 1 ∧ ∃ h : i + k < l.length, min y.1 _ = _
      by_cases hc : y.1 ≤ (l[i + m]'(by omega)).1
      · rw [Nat.min_eq_left hc]
        rcases ih.one with e | ⟨k, h1, h2, e⟩
        · exact .inl e
        · exact .inr ⟨k, by omega, h2, e⟩
      · rw [Nat.min_eq_right (by omega)]
        exact .inr ⟨m, by omega, by omega, rfl⟩
    · show max y.2 _ = _ ∨ ∃ k, k < m + 1 ∧ ∃ h : i + k < l.length, max y.2 _ = _
      by_cases hc : (l[i + m]'(by omega)).2 ≤ y.2
      · rw [Nat.max_eq_left hc]
        rcases ih.two with e | ⟨k, h1, h2, e⟩
        · exact .inl e
        · exact .inr ⟨k, by omega, h2, e⟩
      · rw [Nat.max_eq_right (by omega)]
        exact .inr ⟨m, by omega, by omega, rfl⟩
theorem add_order {l : List (Nat × Nat)} {a b i j : Nat} (hc : Canon l) (hab : a ≤ b) (hi : FirstP (atP (nearP a) l) l.length i) (hj : FirstP (atP (farP b) l) l.length j) : i ≤ j := by
  refine Nat.le_of_not_lt fun hlt => ?_
  have hjl : j < l.length := by have := hi.le; omega
  have h1 := hi.below (nearP_mono hc) j hlt
  have h2 := hj.yes hjl
  rw [atP_at hjl] at h1 h2
  have h1 := of_decide_eq_false h1
  have h2 := of_decide_eq_true h2
  have := (canon_get hc j hjl).1
  omega
/-- The spans with one more. -/
theorem add_spans {l : List (Nat × Nat)} {P : Nat → Bool} {a b i j : Nat} (h : SpansOf l P) (hab : a ≤ b) (hi : FirstP (atP (nearP a) l) l.length i) (hj : FirstP (atP (farP b) l) l.length j) :
    SpansOf (repR l i j (mrgR l i (a, b) (j - i))) (fun s => P s || decide (a ≤ s ∧ s ≤ b)) := by
  have hij := add_order h.canon hab hi hj
  have hjl := hj.le
  have hz := mrgR_is l i (a, b) (j - i) (by omega)
  generalize mrgR l i (a, b) (j - i) = z at hz ⊢
  have hsplit : l.take i ++ (l.take j).drop i ++ l.drop j = l := by
    have e : l.take i = (l.take j).take i := by rw [List.take_take, Nat.min_eq_left hij]
    rw [e, List.take_append_drop, List.take_append_drop]
  have hmid : ∀ q ∈ (l.take j).drop i, ∃ k, k < j - i ∧ ∃ hk : i + k < l.length, q = l[i + k] := by
    intro q hq
    obtain ⟨k, hk, rfl⟩ := List.getElem_of_mem hq
    simp only [List.length_drop, List.length_take] at hk
    refine ⟨k, by omega, by omega, ?_⟩
    rw [List.getElem_drop, List.getElem_take]
  have hmid2 : ∀ k, k < j - i → ∀ hk : i + k < l.length, l[i + k] ∈ (l.take j).drop i := by
    intro k hk hl
    have : ((l.take j).drop i)[k]'(by simp only [List.length_drop, List.length_take]; omega) = l[i + k] := by rw [List.getElem_drop, List.getElem_take]
    rw [← this]
    exact List.getElem_mem _
  have hcan : Canon (l.take i ++ (l.take j).drop i ++ l.drop j) := by rw [hsplit]; exact h.canon
  have hm := merge_mid (p := (a, b)) (z := z) hcan (fun q hq => by
      obtain ⟨k, hk, rfl⟩ := List.getElem_of_mem hq
      simp only [List.length_take] at hk
      have h1 := hi.below (nearP_mono h.canon) k (by omega)
      rw [atP_at (by omega)] at h1
      have h1 := of_decide_eq_false h1
      rw [List.getElem_take]
      show _ < a
      omega) (fun q hq => by
      obtain ⟨k, hk, rfl⟩ := List.getElem_of_mem hq
      simp only [List.length_drop] at hk
      have h1 := hj.above (farP_mono h.canon) (j + k) (by omega) (by omega)
      rw [atP_at (by omega)] at h1
      have h1 := of_decide_eq_true h1
      rw [List.getElem_drop]
      exact h1) hab hz.lo hz.hi (fun q hq => by
      obtain ⟨k, hk, hkl, rfl⟩ := hmid q hq
      obtain ⟨h1, h2⟩ := hz.all k hk hkl
      have h3 := hi.above (nearP_mono h.canon) (i + k) (by omega) hkl
      have h4 := hj.below (farP_mono h.canon) (i + k) (by omega)
      rw [atP_at hkl] at h3 h4
      have h3 := of_decide_eq_true h3
      have h4 := of_decide_eq_false h4
      exact ⟨by show _ ≤ b + 1; omega, h3, h1, h2⟩) (hz.one.imp id fun ⟨k, hk, hkl, e⟩ => ⟨_, hmid2 k hk hkl, e⟩) (hz.two.imp id fun ⟨k, hk, hkl, e⟩ => ⟨_, hmid2 k hk hkl, e⟩)
  rw [hsplit] at hm
  refine ⟨hm.1, fun s => ?_⟩
  rw [show repR l i j z = l.take i ++ [z] ++ l.drop j from rfl, hm.2 s, h.mem s, Bool.or_eq_true, decide_eq_true_eq]
theorem add_len {l : List (Nat × Nat)} {i j : Nat} {z : Nat × Nat} (hij : i ≤ j) (hj : j ≤ l.length) : (repR l i j z).length ≤ l.length + 1 := by
  rw [repR_len (by omega)]
  omega
end Go.Proofs.Ytnpkaljmncehhaa
