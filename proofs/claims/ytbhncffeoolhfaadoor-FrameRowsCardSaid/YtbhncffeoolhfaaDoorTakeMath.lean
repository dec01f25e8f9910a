/- Plain mathematics of the document's own reading of a number: leading bytes, then the number's form again. -/
import Derived.Test.YtbhncffeoolhfaaDoorMath
namespace Go.Proofs.YtbhncffeoolhfaaDoor

/-- Seven bits a byte, the lowest first. -/
def valL : List UInt8 → Nat
  | [] => 0
  | c :: bs => c.toNat % 128 + 128 * valL bs
theorem valL_lt : ∀ bs : List UInt8, valL bs < 128 ^ bs.length
  | [] => by simp [valL]
  | c :: bs => by
    have := valL_lt bs
    have := Nat.mod_lt c.toNat (show 128 > 0 by omega)
    simp only [valL, List.length_cons, Nat.pow_succ]
    omega
theorem valL_append : ∀ as bs : List UInt8, valL (as ++ bs) = valL as + 128 ^ as.length * valL bs
  | [], bs => by simp [valL]
  | a :: as, bs => by
    simp only [List.cons_append, valL, valL_append as bs, List.length_cons, Nat.pow_succ]
    rw [Nat.mul_add, ← Nat.mul_assoc, Nat.mul_comm 128 (128 ^ as.length)]
    omega
theorem valL_drop_le (bs : List UInt8) (j : Nat) : valL (bs.drop j) ≤ valL bs := by
  have h := valL_append (bs.take j) (bs.drop j)
  rw [List.take_append_drop] at h
  have : 1 * valL (bs.drop j) ≤ 128 ^ (bs.take j).length * valL (bs.drop j) := Nat.mul_le_mul_right _ (Nat.pow_pos (by omega))
  omega

/-- Bytes with a following one. -/
def Hi (p : List UInt8) : Prop := ∀ c ∈ p, 128 ≤ c.toNat
theorem Hi.nil : Hi [] := fun _ h => by cases h
theorem Hi.snoc {b : List UInt8} {k : Nat} (h : Hi (b.take k)) (hk : k < b.length) (hc : 128 ≤ (b[k]).toNat) : Hi (b.take (k + 1)) := by
  rw [List.take_succ_eq_append_getElem hk]
  intro c hm
  rcases List.mem_append.1 hm with h' | h'
  · exact h c h'
  · rw [List.mem_singleton.1 h']; exact hc

theorem rd_hi : ∀ (p : List UInt8) (f i acc : Nat) (t : List UInt8), Hi p → f + i = 10 → i + p.length ≤ 9 → rd f i acc (p ++ t) = rd (f - p.length) (i + p.length) (acc + valL p * 128 ^ i) t
  | [], f, i, acc, t, _, _, _ => by simp [valL]
  | c :: p, 0, i, acc, t, _, hf, hl => by simp at hl; omega
  | c :: p, f + 1, i, acc, t, h, hf, hl => by
    have hc := h c (by simp)
    have hcl := c.toNat_lt
    simp only [List.length_cons] at hl
    rw [List.cons_append, rd, if_neg (by omega), if_neg (by omega), rd_hi p f (i + 1) _ t (fun d hd => h d (by simp [hd])) (by omega) (by omega)]
    rw [List.length_cons, show f + 1 - (p.length + 1) = f - p.length by omega, show i + 1 + p.length = i + (p.length + 1) by omega]
    congr 1
    have e : c.toNat % 128 = c.toNat - 128 := by omega
    rw [valL, e, Nat.add_mul, Nat.pow_succ, Nat.mul_assoc 128, Nat.mul_comm 128, Nat.mul_assoc]
    omega

theorem split_at (b : List UInt8) (k : Nat) (hk : k < b.length) : b = b.take k ++ b[k] :: b.drop (k + 1) := by
  rw [← List.drop_eq_getElem_cons hk, List.take_append_drop]

theorem take_short (b : List UInt8) (k : Nat) (h : Hi (b.take k)) (hk : k = b.length) (h9 : k ≤ 9) : rdU b = .short := by
  have e : b = b.take k ++ [] := by rw [List.append_nil, List.take_of_length_le (by omega)]
  have hl : (b.take k).length = k := by rw [List.length_take]; omega
  rw [rdU, e, rd_hi _ 10 0 0 [] h rfl (by omega), hl, show 10 - k = (9 - k) + 1 by omega, rd]
theorem take_ten (b : List UInt8) (h : Hi (b.take 9)) (hk : 9 < b.length) (hc : 1 < (b[9]).toNat) : rdU b = .form (b.drop 10) := by
  have hl : (b.take 9).length = 9 := by rw [List.length_take]; omega
  conv => lhs; rw [rdU, split_at b 9 hk]
  rw [rd_hi _ 10 0 0 _ h rfl (by omega), hl, show 10 - 9 = 0 + 1 from rfl, rd, if_pos (by omega)]
theorem take_end (b : List UInt8) (k : Nat) (h : Hi (b.take k)) (hk : k < b.length) (h9 : k ≤ 9) (hc : (b[k]).toNat < 128) (hc9 : k = 9 → (b[k]).toNat ≤ 1) :
    rdU b = (if vb (valL (b.take (k + 1))) = b.take (k + 1) then .ok (valL (b.take (k + 1))) (b.drop (k + 1)) else .form (b.drop (k + 1))) ∧ valL (b.take (k + 1)) < 18446744073709551616 := by
  have hl : (b.take k).length = k := by rw [List.length_take]; omega
  have hv : valL (b.take (k + 1)) = valL (b.take k) + (b[k]).toNat * 128 ^ k := by
    rw [List.take_succ_eq_append_getElem hk, valL_append, hl]
    simp only [valL, Nat.mul_zero, Nat.add_zero, Nat.mod_eq_of_lt hc]
    rw [Nat.mul_comm]
  have hlt : valL (b.take (k + 1)) < 18446744073709551616 := by
    have h1 := valL_lt (b.take k)
    rw [hl] at h1
    have e9 : (128 : Nat) ^ 9 = 9223372036854775808 := by decide
    rw [hv]
    by_cases hk9 : k = 9
    · have := hc9 hk9
      have h2 : (b[k]).toNat * 128 ^ k ≤ 1 * 128 ^ k := Nat.mul_le_mul_right _ this
      have hp : (128 : Nat) ^ k = 9223372036854775808 := by rw [hk9]
      rw [hp] at h1 h2 ⊢
      omega
    · have h2 : (b[k]).toNat * 128 ^ k ≤ 127 * 128 ^ k := Nat.mul_le_mul_right _ (by omega)
      have h3 : (128 : Nat) ^ (k + 1) ≤ 128 ^ 9 := Nat.pow_le_pow_right (by omega) (by omega)
      rw [Nat.pow_succ] at h3
      omega
  refine ⟨?_, hlt⟩
  have hr : rdU b = rd (10 - k) k (valL (b.take k)) (b[k] :: b.drop (k + 1)) := by
    conv => lhs; rw [rdU, split_at b k hk]
    rw [rd_hi _ 10 0 0 _ h rfl (by omega), hl]; simp
  rw [show 10 - k = (9 - k) + 1 by omega, rd] at hr
  by_cases hz : 0 < k ∧ (b[k]).toNat = 0
  · rw [if_pos (.inl hz)] at hr
    rw [if_neg, hr]
    intro e
    have h1 := rdU_vb hlt (b.drop (k + 1))
    rw [e, List.take_append_drop, hr] at h1
    cases h1
  · rw [if_neg (by rintro (h' | h'); exact hz h'; have := hc9 h'.1; omega), if_pos hc, ← hv] at hr
    have h1 := (rdU_ok hr).1
    rw [if_pos, hr]
    have h2 : b.take (k + 1) ++ b.drop (k + 1) = vb (valL (b.take (k + 1))) ++ b.drop (k + 1) := by rw [List.take_append_drop]; exact h1
    exact (List.append_cancel_right h2).symm
end Go.Proofs.YtbhncffeoolhfaaDoor
