/- Plain mathematics of a number's shortest form in bytes of seven bits: what is written is read, what is read wholly is written as itself. No conditions beyond those that each lemma states. -/
namespace Go.Proofs.YtbhncffeoolhfaaDoor

/-- The shortest form. -/
def vb (n : Nat) : List UInt8 := if n < 128 then [UInt8.ofNat n] else UInt8.ofNat (n % 128 + 128) :: vb (n / 128)
termination_by n
decreasing_by omega

theorem vb_lt {n : Nat} (h : n < 128) : vb n = [UInt8.ofNat n] := by rw [vb, if_pos h]
theorem vb_ge {n : Nat} (h : 128 ≤ n) : vb n = UInt8.ofNat (n % 128 + 128) :: vb (n / 128) := by rw [vb, if_neg (by omega)]
theorem vb_ne (n : Nat) : vb n ≠ [] := by rw [vb]; split <;> simp

theorem vb_len : ∀ (k n : Nat), n < 128 ^ (k + 1) → (vb n).length ≤ k + 1
  | 0, n, h => by rw [vb_lt (by simpa using h)]; simp
  | k + 1, n, h => by
    by_cases hn : n < 128
    · rw [vb_lt hn]; simp
    · rw [vb_ge (by omega)]
      have h' : n / 128 < 128 ^ (k + 1) := Nat.div_lt_of_lt_mul (by rw [Nat.pow_succ] at h; omega)
      have := vb_len k _ h'
      simp; omega
theorem vb_len10 {n : Nat} (h : n < 18446744073709551616) : (vb n).length ≤ 10 := vb_len 9 n (by omega)

/-- What a reading of a number comes to. -/
inductive Res where
  | ok (n : Nat) (rest : List UInt8)
  | short
  | form (rest : List UInt8)
deriving DecidableEq

/-- Reading from place i on, acc being what came before. -/
def rd : Nat → Nat → Nat → List UInt8 → Res
  | 0, _, acc, bs => .ok acc bs
  | _ + 1, _, _, [] => .short
  | f + 1, i, acc, c :: bs =>
    if (0 < i ∧ c.toNat = 0) ∨ (i = 9 ∧ 1 < c.toNat) then .form bs
    else if c.toNat < 128 then .ok (acc + c.toNat * 128 ^ i) bs
    else rd f (i + 1) (acc + (c.toNat - 128) * 128 ^ i) bs

def rdU (bs : List UInt8) : Res := rd 10 0 0 bs

theorem toNat_ofNat_lt {n : Nat} (h : n < 256) : (UInt8.ofNat n).toNat = n := by
  simp [Nat.mod_eq_of_lt h]

/-- What was written is read: from place i on. -/
theorem rd_vb : ∀ (f i acc n : Nat) (rest : List UInt8), f + i = 10 → n * 128 ^ i < 18446744073709551616 → (i = 0 ∨ 0 < n) → 0 < f →
    rd f i acc (vb n ++ rest) = .ok (acc + n * 128 ^ i) rest
  | 0, _, _, _, _, _, _, _, h => by omega
  | f + 1, i, acc, n, rest, hf, hn, h0, _ => by
    by_cases hlt : n < 128
    · rw [vb_lt hlt]
      have e := toNat_ofNat_lt (n := n) (by omega)
      simp only [List.cons_append, List.nil_append, rd, e]
      have h9 : ¬ ((0 < i ∧ n = 0) ∨ (i = 9 ∧ 1 < n)) := by
        rintro (⟨a, b⟩ | ⟨rfl, b⟩)
        · omega
        · have : (128 : Nat) ^ 9 = 9223372036854775808 := by decide
          rw [this] at hn; omega
      rw [if_neg h9, if_pos hlt]
    · rw [vb_ge (by omega)]
      have e := toNat_ofNat_lt (n := n % 128 + 128) (by omega)
      simp only [List.cons_append, rd, e]
      have hi : i < 9 := by
        rcases Nat.lt_or_ge i 9 with h | h
        · exact h
        · exfalso
          have h1 : (128 : Nat) ^ 9 ≤ 128 ^ i := Nat.pow_le_pow_right (by omega) h
          have h2 : (128 : Nat) ^ 9 = 9223372036854775808 := by decide
          have h3 : 128 * 128 ^ i ≤ n * 128 ^ i := Nat.mul_le_mul_right _ (by omega)
          omega
      have h9 : ¬ ((0 < i ∧ n % 128 + 128 = 0) ∨ (i = 9 ∧ 1 < n % 128 + 128)) := by omega
      rw [if_neg h9, if_neg (by omega)]
      have hs : n / 128 * 128 ^ (i + 1) + n % 128 * 128 ^ i = n * 128 ^ i := by
        rw [Nat.pow_succ, Nat.mul_comm (128 ^ i) 128, ← Nat.mul_assoc, ← Nat.add_mul]
        congr 1; omega
      have hlt' : n / 128 * 128 ^ (i + 1) < 18446744073709551616 := by omega
      rw [rd_vb f (i + 1) _ (n / 128) rest (by omega) hlt' (.inr (by omega)) (by omega)]
      congr 1
      rw [Nat.add_sub_cancel]; omega

theorem rdU_vb {n : Nat} (h : n < 18446744073709551616) (rest : List UInt8) : rdU (vb n ++ rest) = .ok n rest := by
  have := rd_vb 10 0 0 n rest rfl (by simpa using h) (.inl rfl) (by omega)
  simpa [rdU] using this

/-- What is read is the form of what it is read as. -/
theorem rd_ok : ∀ (f i acc : Nat) (bs : List UInt8) (n : Nat) (rest : List UInt8), f + i = 10 → 0 < f → acc < 128 ^ i → rd f i acc bs = .ok n rest →
    ∃ m, bs = vb m ++ rest ∧ n = acc + m * 128 ^ i ∧ n < 18446744073709551616 ∧ (i = 0 ∨ 0 < m)
  | 0, _, _, _, _, _, _, h, _, _ => by omega
  | f + 1, i, acc, [], n, rest, _, _, _, h => by simp [rd] at h
  | f + 1, i, acc, c :: bs, n, rest, hf, _, hacc, h => by
    rw [rd] at h
    split at h
    · cases h
    · rename_i hno
      split at h
      · rename_i hlt
        injection h with h1 h2
        subst h2
        refine ⟨c.toNat, ?_, h1.symm, ?_, ?_⟩
        · rw [vb_lt hlt]; simp
        · subst h1
          by_cases h9 : i = 9
          · subst h9
            have : (128 : Nat) ^ 9 = 9223372036854775808 := by decide
            rw [this] at hacc ⊢
            have : c.toNat ≤ 1 := by omega
            have : c.toNat * 9223372036854775808 ≤ 1 * 9223372036854775808 := Nat.mul_le_mul_right _ this
            omega
          · have h1 : (128 : Nat) ^ (i + 1) ≤ 128 ^ 9 := Nat.pow_le_pow_right (by omega) (by omega)
            have h2 : (128 : Nat) ^ 9 = 9223372036854775808 := by decide
            have h3 : c.toNat * 128 ^ i ≤ 127 * 128 ^ i := Nat.mul_le_mul_right _ (by omega)
            rw [Nat.pow_succ] at h1
            omega
        · omega
      · rename_i hge
        have hi : i < 9 := by
          rcases Nat.lt_or_ge i 9 with h' | h'
          · exact h'
          · exfalso; apply hno; right; omega
        have hc : c.toNat < 256 := c.toNat_lt
        have hacc' : acc + (c.toNat - 128) * 128 ^ i < 128 ^ (i + 1) := by
          have h3 : (c.toNat - 128) * 128 ^ i ≤ 127 * 128 ^ i := Nat.mul_le_mul_right _ (by omega)
          rw [Nat.pow_succ]; omega
        obtain ⟨m, hb, hn, hlt, hm⟩ := rd_ok f (i + 1) _ bs n rest (by omega) (by omega) hacc' h
        have hm' : 0 < m := by omega
        refine ⟨c.toNat - 128 + 128 * m, ?_, ?_, hlt, .inr (by omega)⟩
        · rw [vb_ge (by omega)]
          have e1 : (c.toNat - 128 + 128 * m) % 128 + 128 = c.toNat := by omega
          have e2 : (c.toNat - 128 + 128 * m) / 128 = m := by omega
          rw [e1, e2, hb]; simp
        · rw [hn, Nat.add_mul, Nat.pow_succ, Nat.mul_assoc 128 m, Nat.mul_comm 128, Nat.mul_assoc m]; omega

theorem rdU_ok {bs : List UInt8} {n : Nat} {rest : List UInt8} (h : rdU bs = .ok n rest) : bs = vb n ++ rest ∧ n < 18446744073709551616 := by
  obtain ⟨m, hb, hn, hlt, _⟩ := rd_ok 10 0 0 bs n rest rfl (by omega) (by simp) h
  have : n = m := by simpa using hn
  subst this
  exact ⟨hb, hlt⟩

theorem vb_inj {n m : Nat} (hn : n < 18446744073709551616) (hm : m < 18446744073709551616) (h : vb n = vb m) : n = m := by
  have h1 := rdU_vb hn []
  have h2 := rdU_vb hm []
  rw [h, h2] at h1
  injection h1 with h1
  exact h1.symm

/-- A form without its last byte ends too soon. -/
theorem rd_short : ∀ (f i acc n : Nat), f + i = 10 → n * 128 ^ i < 18446744073709551616 → 0 < f → rd f i acc (vb n).dropLast = .short
  | 0, _, _, _, _, _, h => by omega
  | f + 1, i, acc, n, hf, hn, _ => by
    by_cases hlt : n < 128
    · rw [vb_lt hlt]; simp [rd]
    · rw [vb_ge (by omega), List.dropLast_cons_of_ne_nil (vb_ne _)]
      have e := toNat_ofNat_lt (n := n % 128 + 128) (by omega)
      simp only [rd, e]
      have hi : i < 9 := by
        rcases Nat.lt_or_ge i 9 with h | h
        · exact h
        · exfalso
          have h1 : (128 : Nat) ^ 9 ≤ 128 ^ i := Nat.pow_le_pow_right (by omega) h
          have h2 : (128 : Nat) ^ 9 = 9223372036854775808 := by decide
          have h3 : 128 * 128 ^ i ≤ n * 128 ^ i := Nat.mul_le_mul_right _ (by omega)
          omega
      have h9 : ¬ ((0 < i ∧ n % 128 + 128 = 0) ∨ (i = 9 ∧ 1 < n % 128 + 128)) := by omega
      rw [if_neg h9, if_neg (by omega)]
      have hs : n / 128 * 128 ^ (i + 1) ≤ n * 128 ^ i := by
        rw [Nat.pow_succ, Nat.mul_comm (128 ^ i) 128, ← Nat.mul_assoc]
        exact Nat.mul_le_mul_right _ (by omega)
      exact rd_short f (i + 1) _ (n / 128) (by omega) (by omega) (by omega)

end Go.Proofs.YtbhncffeoolhfaaDoor
