/- Ballots as mathematics: one order, the greatest one, a replica's next one, their bytes. -/
import Derived.Test.YtdiihaeelcbjbaaGreatDoorMRdA
namespace Go.Proofs.YtdiihaeelcbjbaaGreatDoor

/-- A ballot. -/
structure BA where
  n : Nat
  r : Int
deriving DecidableEq
structure BA.ok (a : BA) : Prop where
  n : a.n < 18446744073709551616
  lo : -9223372036854775808 ≤ a.r
  hi : a.r ≤ 9223372036854775807
def B0 : BA := ⟨0, 0⟩
theorem B0_ok : B0.ok := ⟨by decide, by decide, by decide⟩
theorem BA.ext2 {a b : BA} (h1 : a.n = b.n) (h2 : a.r = b.r) : a = b := by
  cases a; cases b; simp_all
def ltB (a b : BA) : Prop := a.n < b.n ∨ (a.n = b.n ∧ a.r < b.r)
instance (a b : BA) : Decidable (ltB a b) := inferInstanceAs (Decidable (_ ∨ _))
theorem ltB_irr (a : BA) : ¬ ltB a a := by unfold ltB; omega
theorem ltB_asymm {a b : BA} (h : ltB a b) : ¬ ltB b a := by unfold ltB at *; omega
theorem ltB_trans {a b c : BA} (h : ltB a b) (k : ltB b c) : ltB a c := by unfold ltB at *; omega
theorem ltB_tri (a b : BA) (h1 : ¬ ltB a b) (h2 : ¬ ltB b a) : a = b := by
  unfold ltB at *
  exact BA.ext2 (by omega) (by omega)
theorem ltB_le {a b c : BA} (h : ¬ ltB a b) (k : ¬ ltB b c) : ¬ ltB a c := by unfold ltB at *; omega
def stepB (g b : BA) : BA := if ltB g b then b else g
/-- The greatest one, none of no ballots. -/
def maxB : List BA → BA
  | [] => B0
  | a :: l => l.foldl stepB a
theorem foldB_top : ∀ (l : List BA) (g : BA), (l.foldl stepB g = g ∨ l.foldl stepB g ∈ l) ∧ ¬ ltB (l.foldl stepB g) g ∧ ∀ x ∈ l, ¬ ltB (l.foldl stepB g) x
  | [], g => ⟨.inl rfl, ltB_irr g, fun _ h => by cases h⟩
  | a :: l, g => by
    obtain ⟨h1, h2, h3⟩ := foldB_top l (stepB g a)
    have e : (a :: l).foldl stepB g = l.foldl stepB (stepB g a) := rfl
    rw [e]
    have hs : (stepB g a = g ∨ stepB g a = a) ∧ ¬ ltB (stepB g a) g ∧ ¬ ltB (stepB g a) a := by
      unfold stepB
      split
      · rename_i h
        exact ⟨.inr rfl, ltB_asymm h, ltB_irr a⟩
      · rename_i h
        exact ⟨.inl rfl, ltB_irr g, h⟩
    refine ⟨?_, ltB_le h2 hs.2.1, fun x hx => ?_⟩
    · rcases h1 with h | h
      · rw [h]
        rcases hs.1 with k | k
        · exact .inl k
        · rw [k]; exact .inr List.mem_cons_self
      · exact .inr (List.mem_cons_of_mem _ h)
    · rcases List.mem_cons.1 hx with rfl | hx
      · exact ltB_le h2 hs.2.2
      · exact h3 x hx
theorem maxB_mem {l : List BA} (h : l ≠ []) : maxB l ∈ l := by
  cases l with
  | nil => exact absurd rfl h
  | cons a l =>
    rcases (foldB_top l a).1 with h | h
    · show l.foldl stepB a ∈ _
      rw [h]; exact List.mem_cons_self
    · exact List.mem_cons_of_mem _ h
theorem maxB_top {l : List BA} {x : BA} (h : x ∈ l) : ¬ ltB (maxB l) x := by
  cases l with
  | nil => cases h
  | cons a l =>
    rcases List.mem_cons.1 h with rfl | h
    · exact (foldB_top l x).2.1
    · exact (foldB_top l a).2.2 x h
theorem maxB_of {l : List BA} {m : BA} (hm : m ∈ l) (h : ∀ x ∈ l, ¬ ltB m x) : m = maxB l :=
  ltB_tri _ _ (h _ (maxB_mem (List.ne_nil_of_mem hm))) (maxB_top hm)
theorem maxB_ok {l : List BA} (h : ∀ x ∈ l, x.ok) : (maxB l).ok := by
  by_cases hl : l = []
  · subst hl; exact B0_ok
  · exact h _ (maxB_mem hl)
theorem maxB_zero (l : List BA) : maxB (l.take 0) = B0 := by simp [maxB]
theorem maxB_one {l : List BA} (h : 0 < l.length) : maxB (l.take 1) = l[0] := by
  cases l with
  | nil => simp at h
  | cons a l => simp [maxB]
theorem maxB_succ {l : List BA} {j : Nat} (h0 : j ≠ 0) (h : j < l.length) : maxB (l.take (j + 1)) = stepB (maxB (l.take j)) l[j] := by
  cases l with
  | nil => simp at h
  | cons a l =>
    cases j with
    | zero => exact absurd rfl h0
    | succ j =>
      have hj : j < l.length := by simpa using h
      show (l.take (j + 1)).foldl stepB a = stepB ((l.take j).foldl stepB a) l[j]
      rw [List.take_succ_eq_append_getElem hj, List.foldl_append]
      rfl
theorem maxB_two (a b : BA) : maxB [a, b] = stepB a b := rfl
theorem less_two (a b : BA) : ltB a b ↔ a ≠ b ∧ maxB [a, b] = b := by
  rw [maxB_two]
  unfold stepB
  constructor
  · intro h
    rw [if_pos h]
    exact ⟨fun e => ltB_irr b (e ▸ h), rfl⟩
  · rintro ⟨h1, h2⟩
    by_cases h : ltB a b
    · exact h
    · rw [if_neg h] at h2; exact absurd h2 h1
/-- A replica's next one, and the error. -/
def nextB (b : BA) (r : Int) : BA × Nat :=
  if r < 0 ∨ 6 < r then (B0, 1)
  else if b.n ≠ 0 ∧ ltB b ⟨b.n, r⟩ then (⟨b.n, r⟩, 0)
  else if b.n = 18446744073709551615 then (B0, 30)
  else (⟨b.n + 1, r⟩, 0)
theorem nextB_ok {b : BA} {r : Int} (h : b.ok) : (nextB b r).1.ok ∧ (nextB b r).2 ≤ 30 := by
  have h1 := h.n
  unfold nextB
  split
  · exact ⟨B0_ok, by decide⟩
  · split
    · exact ⟨⟨h1, by show -9223372036854775808 ≤ r; omega, by show r ≤ 9223372036854775807; omega⟩, Nat.zero_le _⟩
    · split
      · exact ⟨B0_ok, by decide⟩
      · exact ⟨⟨by show b.n + 1 < 18446744073709551616; omega, by show -9223372036854775808 ≤ r; omega, by show r ≤ 9223372036854775807; omega⟩, Nat.zero_le _⟩
theorem nextB_err {b : BA} {r : Int} (h0 : 0 ≤ r) (h6 : r ≤ 6) (h : (nextB b r).2 ≠ 0) : b.n = 18446744073709551615 := by
  unfold nextB at h
  rw [if_neg (by omega)] at h
  split at h
  · exact absurd rfl h
  · split at h
    · assumption
    · exact absurd rfl h
theorem nextB_is {b : BA} {r : Int} (h0 : 0 ≤ r) (h6 : r ≤ 6) (h : (nextB b r).2 = 0) : (nextB b r).1.r = r ∧ (nextB b r).1.n ≠ 0 ∧ ltB b (nextB b r).1 ∧ ∀ n : Nat, n = 0 ∨ ¬ ltB b ⟨n, r⟩ ∨ ¬ ltB ⟨n, r⟩ (nextB b r).1 := by
  unfold nextB at h ⊢
  rw [if_neg (by omega)] at h ⊢
  split at h
  · rename_i hc
    rw [if_pos hc]
    refine ⟨rfl, hc.1, hc.2, fun n => ?_⟩
    have h1 := hc.1
    have h2 := hc.2
    unfold ltB at h2 ⊢
    simp only at h2 ⊢
    omega
  · rename_i hc
    rw [if_neg hc]
    split at h
    · cases h
    · rename_i hm
      rw [if_neg hm]
      refine ⟨rfl, by simp, .inl (by simp), fun n => ?_⟩
      have hc2 : ¬ (b.n ≠ 0 ∧ b.r < r) := fun h => hc ⟨h.1, .inr ⟨rfl, h.2⟩⟩
      unfold ltB
      simp only
      omega
/-- Its bytes. -/
def bytesBA (a : BA) : List UInt8 := vb a.n ++ vb a.r.toNat
/-- There is such a replica. -/
def BA.fit (a : BA) : Prop := 0 ≤ a.r ∧ a.r < 7
instance (a : BA) : Decidable a.fit := inferInstanceAs (Decidable (_ ∧ _))
/-- The next one that is read, or the error. -/
def takeBA (s : RdS) : (BA × Nat) × RdS :=
  if s.u.2.u.2.e ≠ 0 then ((B0, s.u.2.u.2.e), s.u.2.u.2)
  else if 7 ≤ s.u.2.u.1 then ((B0, 11), s.u.2.u.2)
  else ((⟨s.u.1, (s.u.2.u.1 : Int)⟩, 0), s.u.2.u.2)
theorem bytesBA_len {a : BA} (h : a.ok) (hf : a.fit) : (bytesBA a).length ≤ 20 := by
  unfold bytesBA
  have h1 := vb_len10 h.n
  have h2 := vb_len10 (show a.r.toNat < 18446744073709551616 by have := hf.2; omega)
  simp only [List.length_append]
  omega
theorem take_put {a : BA} (h : a.ok) (hf : a.fit) (rest : List UInt8) : takeBA ⟨0, bytesBA a ++ rest⟩ = ((a, 0), ⟨0, rest⟩) := by
  have g1 := (Good.u h.n).all (vb a.r.toNat ++ rest)
  have g2 := (Good.u (n := a.r.toNat) (by have := hf.2; omega)).all rest
  have e1 : (⟨0, bytesBA a ++ rest⟩ : RdS).u = (a.n, ⟨0, vb a.r.toNat ++ rest⟩) := by
    unfold bytesBA
    rw [List.append_assoc]
    exact g1
  have e2 : (⟨0, vb a.r.toNat ++ rest⟩ : RdS).u = (a.r.toNat, ⟨0, rest⟩) := g2
  unfold takeBA
  rw [e1]
  simp only
  rw [e2]
  have h1 := hf.1
  have h2 := hf.2
  have h3 : ¬ 7 ≤ a.r.toNat := by omega
  have h4 : ((a.r.toNat : Nat) : Int) = a.r := by omega
  simp only [h3, ne_eq, not_true_eq_false, if_false, h4]
theorem take_fit {s : RdS} (h : (takeBA s).1.2 = 0) : s.e = 0 ∧ (takeBA s).1.1.ok ∧ (takeBA s).1.1.fit ∧ s.bs = bytesBA (takeBA s).1.1 ++ (takeBA s).2.bs ∧ (takeBA s).2.e = 0 := by
  have hn := RdS.u_lt s
  have p1 := Puts.u s
  have p2 := Puts.u s.u.2
  simp only [uR] at p1 p2
  unfold takeBA at h ⊢
  split at h
  · rename_i he
    exact absurd h he
  · rename_i he
    rw [if_neg he]
    split at h
    · cases h
    · rename_i h7
      rw [if_neg h7]
      have he' : s.u.2.u.2.e = 0 := by simpa using he
      obtain ⟨q1, q2⟩ := p2 he'
      obtain ⟨r1, r2⟩ := p1 q1
      refine ⟨r1, ⟨hn, by simp only; omega, by simp only; omega⟩, ⟨by simp only; omega, by simp only; omega⟩, ?_, he'⟩
      show s.bs = (vb _ ++ vb (Int.toNat (s.u.2.u.1 : Int))) ++ _
      rw [Int.toNat_natCast, List.append_assoc, ← q2, ← r2]
theorem take_err {s : RdS} (hs : s.e = 0) (h : (takeBA s).1.2 ≠ 0) : (takeBA s).1.1 = B0 ∧ ((takeBA s).1.2 = 10 ∨ (takeBA s).1.2 = 11) := by
  have p1 := Errs.u s (.inl hs)
  have p2 := Errs.u s.u.2 p1
  simp only [uR] at p1 p2
  unfold takeBA at h ⊢
  split at h
  · rename_i he
    rw [if_pos he]
    refine ⟨rfl, ?_⟩
    rcases p2 with p | p | p
    · exact absurd p he
    · exact .inl p
    · exact .inr p
  · rename_i he
    rw [if_neg he]
    split at h
    · rename_i h7
      rw [if_pos h7]
      exact ⟨rfl, .inr rfl⟩
    · exact absurd rfl h
theorem take_e_lt {s : RdS} (hs : s.e < 1000) : (takeBA s).1.2 < 1000 ∧ (takeBA s).2.e < 1000 := by
  have k : ∀ t : RdS, t.e < 1000 → t.u.2.e < 1000 := fun t ht => by
    unfold RdS.u
    split
    · split <;> simp
    · exact ht
  have h2 := k _ (k s hs)
  unfold takeBA
  split
  · exact ⟨h2, h2⟩
  · split
    · exact ⟨show (11 : Nat) < 1000 from by decide, h2⟩
    · exact ⟨show (0 : Nat) < 1000 from by decide, h2⟩
end Go.Proofs.YtdiihaeelcbjbaaGreatDoor
