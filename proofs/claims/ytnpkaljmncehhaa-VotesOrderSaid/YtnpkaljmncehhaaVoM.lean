/- Tallies as mathematics: sets of slots above a floor, their spans, which slots are chosen. -/
import Derived.Test.YtnpkaljmncehhaaMBaseO
namespace Go.Proofs.Ytnpkaljmncehhaa

/-- A tally of n replicas: the floor, what each has above it, how many spans were added. -/
structure TM where
  n : Nat
  F : Nat
  S : Nat → Nat → Bool
  c : Nat
def TM.new (n : Nat) : TM := ⟨n, 0, fun _ _ => false, 0⟩
def TM.add (t : TM) (r a b : Nat) : TM := ⟨t.n, t.F, fun q s => if q = r ∧ a ≤ s ∧ s ≤ b ∧ t.F < s then true else t.S q s, t.c + 1⟩
def TM.release (t : TM) (x : Nat) : TM := ⟨t.n, max t.F x, fun q s => t.S q s && decide (max t.F x < s), t.c⟩
def TM.has (t : TM) (r s : Nat) : Bool := decide (s ≤ t.F) || t.S r s
def cntF (f : Nat → Bool) : Nat → Nat
  | 0 => 0
  | n + 1 => cntF f n + (if f n then 1 else 0)
def TM.count (t : TM) (s : Nat) : Nat := cntF (fun r => t.has r s) t.n
def TM.chosen (t : TM) (s : Nat) : Bool := decide (t.n < 2 * t.count s)
/-- What there is of it: replicas, and slots of 64 bits above the floor. -/
structure TM.ok (t : TM) : Prop where
  n0 : 1 ≤ t.n
  n7 : t.n ≤ 7
  F : t.F < 18446744073709551616
  S : ∀ q s, t.S q s = true → t.F < s ∧ s < 18446744073709551616
theorem TM.ok_new {n : Nat} (h0 : 1 ≤ n) (h7 : n ≤ 7) : (TM.new n).ok := ⟨h0, h7, show (0 : Nat) < _ by decide, fun _ _ h => by cases h⟩
theorem TM.ok.add {t : TM} (h : t.ok) {r a b : Nat} (hb : b < 18446744073709551616) : (t.add r a b).ok := ⟨h.n0, h.n7, h.F, fun q s hs => by
  have e : (t.add r a b).S q s = if q = r ∧ a ≤ s ∧ s ≤ b ∧ t.F < s then true else t.S q s := rfl
  rw [e] at hs
  split at hs
  · rename_i hc
    exact ⟨hc.2.2.2, by omega⟩
  · exact h.S q s hs⟩
theorem TM.ok.release {t : TM} (h : t.ok) {x : Nat} (hx : x < 18446744073709551616) : (t.release x).ok := ⟨h.n0, h.n7, by have := h.F; show max t.F x < _; omega, fun q s hs => by
  have e : (t.release x).S q s = (t.S q s && decide (max t.F x < s)) := rfl
  rw [e, Bool.and_eq_true, decide_eq_true_eq] at hs
  exact ⟨hs.2, (h.S q s hs.1).2⟩⟩
theorem cntF_le (f : Nat → Bool) : ∀ n, cntF f n ≤ n
  | 0 => Nat.le_refl _
  | n + 1 => by
    have := cntF_le f n
    unfold cntF
    split <;> omega
theorem cntF_all {f : Nat → Bool} : ∀ {n : Nat}, (∀ r, r < n → f r = true) → cntF f n = n
  | 0, _ => rfl
  | n + 1, h => by
    unfold cntF
    rw [cntF_all (n := n) fun r hr => h r (by omega), if_pos (h n (by omega))]
theorem cntF_none {f : Nat → Bool} : ∀ {n : Nat}, (∀ r, r < n → f r = false) → cntF f n = 0
  | 0, _ => rfl
  | n + 1, h => by
    unfold cntF
    rw [cntF_none (n := n) fun r hr => h r (by omega), if_neg (by rw [h n (by omega)]; decide)]
theorem cntF_congr {f g : Nat → Bool} : ∀ {n : Nat}, (∀ r, r < n → f r = g r) → cntF f n = cntF g n
  | 0, _ => rfl
  | n + 1, h => by
    unfold cntF
    rw [cntF_congr (n := n) fun r hr => h r (by omega), h n (by omega)]
theorem cntF_not (f : Nat → Bool) : ∀ n, cntF f n + cntF (fun r => !f r) n = n
  | 0 => rfl
  | n + 1 => by
    have := cntF_not f n
    unfold cntF
    cases f n <;> simp <;> omega
theorem TM.chosen_floor {t : TM} (h : t.ok) {s : Nat} (hs : s ≤ t.F) : t.chosen s = true := by
  unfold TM.chosen TM.count
  rw [cntF_all fun r _ => by simp [TM.has, hs], decide_eq_true_eq]
  have := h.n0
  omega
/-- Where the consecutive chosen slots behind a slot end. -/
structure UptoIs (t : TM) (s m : Nat) : Prop where
  le : s ≤ m
  lt : m < 18446744073709551616
  all : ∀ x, s < x → x ≤ m → t.chosen x = true
  stop : m + 1 < 18446744073709551616 → t.chosen (m + 1) = false
theorem UptoIs.unique {t : TM} {s m k : Nat} (h : UptoIs t s m) (g : UptoIs t s k) : m = k := by
  have h1 : ¬ m < k := fun hlt => by
    have := h.stop (by have := g.lt; omega)
    rw [g.all (m + 1) (by have := h.le; omega) (by omega)] at this
    cases this
  have h2 : ¬ k < m := fun hlt => by
    have := g.stop (by have := h.lt; omega)
    rw [h.all (k + 1) (by have := g.le; omega) (by omega)] at this
    cases this
  omega
theorem UptoIs.floor {t : TM} (ht : t.ok) {s m : Nat} (h : UptoIs t (max s t.F) m) : UptoIs t s m := ⟨by have := h.le; omega, h.lt, fun x hx hm => by
  by_cases hf : x ≤ t.F
  · exact TM.chosen_floor ht hf
  · exact h.all x (by omega) hm, h.stop⟩
/-- Spans in order, as few as may be. -/
def Canon : List (Nat × Nat) → Prop
  | [] => True
  | p :: l => p.1 ≤ p.2 ∧ (∀ q ∈ l, p.2 + 1 < q.1) ∧ Canon l
def inSp (l : List (Nat × Nat)) (s : Nat) : Prop := ∃ p ∈ l, p.1 ≤ s ∧ s ≤ p.2
/-- The spans of a set. -/
structure SpansOf (l : List (Nat × Nat)) (P : Nat → Bool) : Prop where
  canon : Canon l
  mem : ∀ s, inSp l s ↔ P s = true
theorem canon_unique : ∀ {l k : List (Nat × Nat)}, Canon l → Canon k → (∀ s, inSp l s ↔ inSp k s) → l = k
  | [], [], _, _, _ => rfl
  | [], p :: k, _, hk, h => by
    have := (h p.1).2 ⟨p, List.mem_cons_self, Nat.le_refl _, hk.1⟩
    obtain ⟨q, hq, _⟩ := this
    cases hq
  | p :: l, [], hl, _, h => by
    have := (h p.1).1 ⟨p, List.mem_cons_self, Nat.le_refl _, hl.1⟩
    obtain ⟨q, hq, _⟩ := this
    cases hq
  | p :: l, q :: k, hl, hk, h => by
    have first : ∀ {p q : Nat × Nat} {l k : List (Nat × Nat)}, Canon (p :: l) → Canon (q :: k) → (∀ s, inSp (p :: l) s ↔ inSp (q :: k) s) → q.1 ≤ p.1 := by
      intro p q l k hl hk h
      obtain ⟨x, hx, h1, h2⟩ := (h p.1).1 ⟨p, List.mem_cons_self, Nat.le_refl _, hl.1⟩
      rcases List.mem_cons.1 hx with rfl | hx
      · exact h1
      · have := hk.2.1 x hx
        have := hk.1
        omega
    have e1 : p.1 = q.1 := Nat.le_antisymm (first hk hl fun s => (h s).symm) (first hl hk h)
    have last : ∀ {p q : Nat × Nat} {l k : List (Nat × Nat)}, Canon (p :: l) → Canon (q :: k) → (∀ s, inSp (p :: l) s ↔ inSp (q :: k) s) → p.1 = q.1 → p.2 ≤ q.2 := by
      intro p q l k hl hk h e
      refine Nat.le_of_not_lt fun hlt => ?_
      have hq1 := hk.1
      obtain ⟨x, hx, h1, h2⟩ := (h (q.2 + 1)).1 ⟨p, List.mem_cons_self, by omega, by omega⟩
      rcases List.mem_cons.1 hx with rfl | hx
      · omega
      · have := hk.2.1 x hx
        omega
    have e2 : p.2 = q.2 := Nat.le_antisymm (last hl hk h e1) (last hk hl (fun s => (h s).symm) e1.symm)
    have e : p = q := Prod.ext e1 e2
    subst e
    have hrest : ∀ {l k : List (Nat × Nat)}, Canon (p :: l) → (∀ s, inSp (p :: l) s ↔ inSp (p :: k) s) → ∀ s, inSp l s → inSp k s := by
      intro l k hl h s ⟨x, hx, h1, h2⟩
      have hgt := hl.2.1 x hx
      obtain ⟨y, hy, g1, g2⟩ := (h s).1 ⟨x, List.mem_cons_of_mem _ hx, h1, h2⟩
      rcases List.mem_cons.1 hy with rfl | hy
      · omega
      · exact ⟨y, hy, g1, g2⟩
    rw [canon_unique hl.2.2 hk.2.2 fun s => ⟨hrest hl h s, hrest hk (fun s => (h s).symm) s⟩]
theorem SpansOf.unique {l k : List (Nat × Nat)} {P : Nat → Bool} (h : SpansOf l P) (g : SpansOf k P) : l = k := canon_unique h.canon g.canon fun s => (h.mem s).trans (g.mem s).symm
theorem canon_get : ∀ {l : List (Nat × Nat)}, Canon l → ∀ i (h : i < l.length), l[i].1 ≤ l[i].2 ∧ ∀ j (hj : j < l.length), i < j → l[i].2 + 1 < l[j].1
  | p :: l, hl, 0, _ => ⟨hl.1, fun j hj hij => by
    cases j with
    | zero => omega
    | succ j => exact hl.2.1 _ (List.getElem_mem _)⟩
  | p :: l, hl, i + 1, h => by
    obtain ⟨h1, h2⟩ := canon_get hl.2.2 i (by simpa using h)
    refine ⟨h1, fun j hj hij => ?_⟩
    cases j with
    | zero => omega
    | succ j => exact h2 j (by simpa using hj) (by omega)
theorem SpansOf.lt {l : List (Nat × Nat)} {P : Nat → Bool} {M : Nat} (h : SpansOf l P) (hP : ∀ s, P s = true → s < M) : ∀ p ∈ l, p.1 < M ∧ p.2 < M := fun p hp => by
  have hc : p.1 ≤ p.2 := by
    obtain ⟨i, hi, rfl⟩ := List.getElem_of_mem hp
    exact (canon_get h.canon i hi).1
  have := hP p.2 ((h.mem p.2).1 ⟨p, hp, hc, Nat.le_refl _⟩)
  omega
end Go.Proofs.Ytnpkaljmncehhaa
