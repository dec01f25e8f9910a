/- Wave by wave the places of a batch's commands. -/
import Derived.Test.YtooaobadnainkaaKsM
namespace Go.Proofs.Ytooaobadnainkaa

/-- How many waves there are. -/
def numW (l : List CM) : Nat := (topW l l.length + 1).toNat
/-- Wave by wave the places of its commands. -/
def groupsM (l : List CM) : List (List Nat) := (List.range (numW l)).map fun w => (List.range l.length).filter fun i => decide (waveI l i = w)
theorem filter_or_perm (p q : Nat → Bool) (hpq : ∀ x, ¬ (p x = true ∧ q x = true)) : ∀ l : List Nat, (l.filter p ++ l.filter q).Perm (l.filter fun x => p x || q x)
  | [] => List.Perm.refl _
  | x :: l => by
    have ih := filter_or_perm p q hpq l
    cases hp : p x with
    | true =>
      have hq : q x = false := by cases hq : q x with | false => rfl | true => exact absurd ⟨hp, hq⟩ (hpq x)
      simp only [List.filter_cons, hp, hq, if_true, Bool.or_false, List.cons_append]
      exact ih.cons x
    | false =>
      cases hq : q x with
      | true =>
        simp only [List.filter_cons, hp, hq, if_true, Bool.false_or]
        exact List.perm_middle.trans (ih.cons x)
      | false => simpa [List.filter_cons, hp, hq] using ih
theorem groups_below (l : List CM) : ∀ n, (((List.range n).map fun w => (List.range l.length).filter fun i => decide (waveI l i = w)).flatten).Perm ((List.range l.length).filter fun i => decide (waveI l i < n))
  | 0 => by simp
  | n + 1 => by
    rw [List.range_succ, List.map_append, List.flatten_append]
    have ih := groups_below l n
    have h2 := filter_or_perm (fun i => decide (waveI l i < n)) (fun i => decide (waveI l i = n)) (fun x h => by simp at h; omega) (List.range l.length)
    have e : (fun i => decide (waveI l i < n) || decide (waveI l i = n)) = fun i => decide (waveI l i < n + 1) := by
      funext i
      by_cases h : waveI l i < n
      · have h' : waveI l i < n + 1 := by omega
        simp [h, h']
      · by_cases h' : waveI l i = n
        · simp [h']
        · have h3 : ¬ waveI l i < n + 1 := by omega
          simp [h, h', h3]
    rw [e] at h2
    refine List.Perm.trans ?_ h2
    refine ih.append ?_
    simp
theorem wave_num {l : List CM} {i : Nat} (h : i < l.length) : waveI l i < numW l := by
  have := topW_ge l l.length i h
  unfold numW
  omega
theorem groups_perm (l : List CM) : (groupsM l).flatten.Perm (List.range l.length) := by
  have h := groups_below l (numW l)
  rwa [List.filter_eq_self.2 (fun i hi => by simpa using wave_num (List.mem_range.1 hi))] at h
theorem groups_wave (l : List CM) (k : Nat) (g : List Nat) (h : (groupsM l)[k]? = some g) : ∀ i ∈ g, waveI l i = 0 + k := by
  unfold groupsM at h
  rw [List.getElem?_map] at h
  cases hk : (List.range (numW l))[k]? with
  | none => rw [hk] at h; cases h
  | some w =>
    rw [hk] at h
    have hw : w = k := by
      have h1 := (List.getElem?_eq_some_iff.1 hk)
      obtain ⟨h1, h2⟩ := h1
      rw [List.getElem_range] at h2
      exact h2.symm
    cases h
    intro i hi
    have := (List.mem_filter.1 hi).2
    simp at this
    omega
theorem groups_len (l : List CM) : (groupsM l).length = numW l := by rw [groupsM, List.length_map, List.length_range]
theorem groups_get (l : List CM) {w : Nat} (h : w < (groupsM l).length) : (groupsM l)[w] = (List.range l.length).filter fun i => decide (waveI l i = w) := by
  simp [groupsM]
theorem filt_split (p : Nat → Bool) {i L : Nat} (h : i < L) : ∃ r, (List.range L).filter p = (List.range i).filter p ++ (if p i then [i] else []) ++ r := by
  obtain ⟨d, rfl⟩ : ∃ d, L = i + 1 + d := ⟨L - (i + 1), by omega⟩
  rw [List.range_add, List.range_succ, List.filter_append, List.filter_append]
  refine ⟨List.filter p (List.map (fun x => i + 1 + x) (List.range d)), ?_⟩
  simp only [List.filter_cons, List.filter_nil]
/-- The next place of a group. -/
theorem filt_at (p : Nat → Bool) {i L : Nat} (h : i < L) (hp : p i = true) : ((List.range L).filter p)[((List.range i).filter p).length]? = some i := by
  obtain ⟨r, hr⟩ := filt_split p h
  rw [hr, if_pos hp, List.append_assoc, List.getElem?_append_right (Nat.le_refl _), Nat.sub_self]
  rfl
theorem filt_succ (p : Nat → Bool) (i : Nat) : ((List.range (i + 1)).filter p).length = ((List.range i).filter p).length + if p i then 1 else 0 := by
  rw [List.range_succ, List.filter_append, List.length_append]
  simp only [List.filter_cons, List.filter_nil]
  split <;> rfl
theorem wayM_symm (a b : CM) : wayM a b = wayM b a := by
  unfold wayM
  have e1 : decide (a.cl = b.cl) = decide (b.cl = a.cl) := by by_cases h : a.cl = b.cl <;> simp [h, eq_comm]
  have e2 : (a.ks.any fun k => b.ks.any fun j => decide (k = j)) = (b.ks.any fun k => a.ks.any fun j => decide (k = j)) := by
    rw [Bool.eq_iff_iff]
    simp only [List.any_eq_true, decide_eq_true_eq]
    constructor
    · rintro ⟨x, hx, y, hy, e⟩; exact ⟨y, hy, x, hx, e.symm⟩
    · rintro ⟨x, hx, y, hy, e⟩; exact ⟨y, hy, x, hx, e.symm⟩
  rw [e1, e2, Bool.or_comm (loneM a) (loneM b)]
end Go.Proofs.Ytooaobadnainkaa
