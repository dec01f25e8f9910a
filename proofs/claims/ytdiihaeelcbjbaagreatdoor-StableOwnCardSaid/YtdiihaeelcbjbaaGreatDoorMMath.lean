/- Plain mathematics of a number's shortest form in bytes of seven bits: what is written is read, what is read wholly is written as itself. No conditions beyond those that each lemma states. Plain mathematics of CRC-32C: a step is additive and takes no two states to one; so faults within 32 bits side by side are found, and sums of three rows over one another are the sum of these over one another. Plain mathematics of the document's own reading of a number: leading bytes, then the number's form again. Plain mathematics of frames: what is put is taken, a frame that is cut ends too soon, a frame with a bit turned in its contents or its sum has another checksum; rows of frames. Plain mathematics of a log: what opening bytes comes to. -/

-- Math
namespace Go.Proofs.YtdiihaeelcbjbaaGreatDoor

/-- The shortest form. -/
def vb (n : Nat) : List UInt8 := if n < 128 then [UInt8.ofNat n] else UInt8.ofNat (n % 128 + 128) :: vb (n / 128)
termination_by n
decreasing_by omega
theorem vb_lt {n : Nat} (h : n < 128) : vb n = [UInt8.ofNat n] := by rw [vb, if_pos h]
theorem vb_ge {n : Nat} (h : 128 ≤ n) : vb n = UInt8.ofNat (n % 128 + 128) :: vb (n / 128) := by rw [vb, if_neg (by omega)]
theorem vb_ne (n : Nat) : vb n ≠ [] := by rw [vb]; split <;> simp
theorem vb_len : ∀ (k n : Nat), n < 128 ^ (k + 1) → (vb n).length ≤ k + 1
  | 0, n, h => by rw [vb_lt (by simpa using h)]; simp
  | k + 1, n, h => by
    by_cases hn : n < 128
    · rw [vb_lt hn]; simp
    · rw [vb_ge (by omega)]
      have h' : n / 128 < 128 ^ (k + 1) := Nat.div_lt_of_lt_mul (by rw [Nat.pow_succ] at h; omega)
      have := vb_len k _ h'
      simp; omega
theorem vb_len10 {n : Nat} (h : n < 18446744073709551616) : (vb n).length ≤ 10 := vb_len 9 n (by omega)
/-- What a reading of a number comes to. -/
inductive Res where
  | ok (n : Nat) (rest : List UInt8)
  | short
  | form (rest : List UInt8)
deriving DecidableEq
/-- Reading from place i on, acc being what came before. -/
def rd : Nat → Nat → Nat → List UInt8 → Res
  | 0, _, acc, bs => .ok acc bs
  | _ + 1, _, _, [] => .short
  | f + 1, i, acc, c :: bs =>
    if (0 < i ∧ c.toNat = 0) ∨ (i = 9 ∧ 1 < c.toNat) then .form bs
    else if c.toNat < 128 then .ok (acc + c.toNat * 128 ^ i) bs
    else rd f (i + 1) (acc + (c.toNat - 128) * 128 ^ i) bs
def rdU (bs : List UInt8) : Res := rd 10 0 0 bs
theorem toNat_ofNat_lt {n : Nat} (h : n < 256) : (UInt8.ofNat n).toNat = n := by
  simp [Nat.mod_eq_of_lt h]
/-- What was written is read: from place i on. -/
theorem rd_vb : ∀ (f i acc n : Nat) (rest : List UInt8), f + i = 10 → n * 128 ^ i < 18446744073709551616 → (i = 0 ∨ 0 < n) → 0 < f →
    rd f i acc (vb n ++ rest) = .ok (acc + n * 128 ^ i) rest
  | 0, _, _, _, _, _, _, _, h => by omega
  | f + 1, i, acc, n, rest, hf, hn, h0, _ => by
    by_cases hlt : n < 128
    · rw [vb_lt hlt]
      have e := toNat_ofNat_lt (n := n) (by omega)
      simp only [List.cons_append, List.nil_append, rd, e]
      have h9 : ¬ ((0 < i ∧ n = 0) ∨ (i = 9 ∧ 1 < n)) := by
        rintro (⟨a, b⟩ | ⟨rfl, b⟩)
        · omega
        · have : (128 : Nat) ^ 9 = 9223372036854775808 := by decide
          rw [this] at hn; omega
      rw [if_neg h9, if_pos hlt]
    · rw [vb_ge (by omega)]
      have e := toNat_ofNat_lt (n := n % 128 + 128) (by omega)
      simp only [List.cons_append, rd, e]
      have hi : i < 9 := by
        rcases Nat.lt_or_ge i 9 with h | h
        · exact h
        · exfalso
          have h1 : (128 : Nat) ^ 9 ≤ 128 ^ i := Nat.pow_le_pow_right (by omega) h
          have h2 : (128 : Nat) ^ 9 = 9223372036854775808 := by decide
          have h3 : 128 * 128 ^ i ≤ n * 128 ^ i := Nat.mul_le_mul_right _ (by omega)
          omega
      have h9 : ¬ ((0 < i ∧ n % 128 + 128 = 0) ∨ (i = 9 ∧ 1 < n % 128 + 128)) := by omega
      rw [if_neg h9, if_neg (by omega)]
      have hs : n / 128 * 128 ^ (i + 1) + n % 128 * 128 ^ i = n * 128 ^ i := by
        rw [Nat.pow_succ, Nat.mul_comm (128 ^ i) 128, ← Nat.mul_assoc, ← Nat.add_mul]
        congr 1; omega
      have hlt' : n / 128 * 128 ^ (i + 1) < 18446744073709551616 := by omega
      rw [rd_vb f (i + 1) _ (n / 128) rest (by omega) hlt' (.inr (by omega)) (by omega)]
      congr 1
      rw [Nat.add_sub_cancel]; omega
theorem rdU_vb {n : Nat} (h : n < 18446744073709551616) (rest : List UInt8) : rdU (vb n ++ rest) = .ok n rest := by
  have := rd_vb 10 0 0 n rest rfl (by simpa using h) (.inl rfl) (by omega)
  simpa [rdU] using this
/-- What is read is the form of what it is read as. -/
theorem rd_ok : ∀ (f i acc : Nat) (bs : List UInt8) (n : Nat) (rest : List UInt8), f + i = 10 → 0 < f → acc < 128 ^ i → rd f i acc bs = .ok n rest →
    ∃ m, bs = vb m ++ rest ∧ n = acc + m * 128 ^ i ∧ n < 18446744073709551616 ∧ (i = 0 ∨ 0 < m)
  | 0, _, _, _, _, _, _, h, _, _ => by omega
  | f + 1, i, acc, [], n, rest, _, _, _, h => by simp [rd] at h
  | f + 1, i, acc, c :: bs, n, rest, hf, _, hacc, h => by
    rw [rd] at h
    split at h
    · cases h
    · rename_i hno
      split at h
      · rename_i hlt
        injection h with h1 h2
        subst h2
        refine ⟨c.toNat, ?_, h1.symm, ?_, ?_⟩
        · rw [vb_lt hlt]; simp
        · subst h1
          by_cases h9 : i = 9
          · subst h9
            have : (128 : Nat) ^ 9 = 9223372036854775808 := by decide
            rw [this] at hacc ⊢
            have : c.toNat ≤ 1 := by omega
            have : c.toNat * 9223372036854775808 ≤ 1 * 9223372036854775808 := Nat.mul_le_mul_right _ this
            omega
          · have h1 : (128 : Nat) ^ (i + 1) ≤ 128 ^ 9 := Nat.pow_le_pow_right (by omega) (by omega)
            have h2 : (128 : Nat) ^ 9 = 9223372036854775808 := by decide
            have h3 : c.toNat * 128 ^ i ≤ 127 * 128 ^ i := Nat.mul_le_mul_right _ (by omega)
            rw [Nat.pow_succ] at h1
            omega
        · omega
      · rename_i hge
        have hi : i < 9 := by
          rcases Nat.lt_or_ge i 9 with h' | h'
          · exact h'
          · exfalso; apply hno; right; omega
        have hc : c.toNat < 256 := c.toNat_lt
        have hacc' : acc + (c.toNat - 128) * 128 ^ i < 128 ^ (i + 1) := by
          have h3 : (c.toNat - 128) * 128 ^ i ≤ 127 * 128 ^ i := Nat.mul_le_mul_right _ (by omega)
          rw [Nat.pow_succ]; omega
        obtain ⟨m, hb, hn, hlt, hm⟩ := rd_ok f (i + 1) _ bs n rest (by omega) (by omega) hacc' h
        have hm' : 0 < m := by omega
        refine ⟨c.toNat - 128 + 128 * m, ?_, ?_, hlt, .inr (by omega)⟩
        · rw [vb_ge (by omega)]
          have e1 : (c.toNat - 128 + 128 * m) % 128 + 128 = c.toNat := by omega
          have e2 : (c.toNat - 128 + 128 * m) / 128 = m := by omega
          rw [e1, e2, hb]; simp
        · rw [hn, Nat.add_mul, Nat.pow_succ, Nat.mul_assoc 128 m, Nat.mul_comm 128, Nat.mul_assoc m]; omega
theorem rdU_ok {bs : List UInt8} {n : Nat} {rest : List UInt8} (h : rdU bs = .ok n rest) : bs = vb n ++ rest ∧ n < 18446744073709551616 := by
  obtain ⟨m, hb, hn, hlt, _⟩ := rd_ok 10 0 0 bs n rest rfl (by omega) (by simp) h
  have : n = m := by simpa using hn
  subst this
  exact ⟨hb, hlt⟩
theorem vb_inj {n m : Nat} (hn : n < 18446744073709551616) (hm : m < 18446744073709551616) (h : vb n = vb m) : n = m := by
  have h1 := rdU_vb hn []
  have h2 := rdU_vb hm []
  rw [h, h2] at h1
  injection h1 with h1
  exact h1.symm
/-- A form without its last byte ends too soon. -/
theorem rd_short : ∀ (f i acc n : Nat), f + i = 10 → n * 128 ^ i < 18446744073709551616 → 0 < f → rd f i acc (vb n).dropLast = .short
  | 0, _, _, _, _, _, h => by omega
  | f + 1, i, acc, n, hf, hn, _ => by
    by_cases hlt : n < 128
    · rw [vb_lt hlt]; simp [rd]
    · rw [vb_ge (by omega), List.dropLast_cons_of_ne_nil (vb_ne _)]
      have e := toNat_ofNat_lt (n := n % 128 + 128) (by omega)
      simp only [rd, e]
      have hi : i < 9 := by
        rcases Nat.lt_or_ge i 9 with h | h
        · exact h
        · exfalso
          have h1 : (128 : Nat) ^ 9 ≤ 128 ^ i := Nat.pow_le_pow_right (by omega) h
          have h2 : (128 : Nat) ^ 9 = 9223372036854775808 := by decide
          have h3 : 128 * 128 ^ i ≤ n * 128 ^ i := Nat.mul_le_mul_right _ (by omega)
          omega
      have h9 : ¬ ((0 < i ∧ n % 128 + 128 = 0) ∨ (i = 9 ∧ 1 < n % 128 + 128)) := by omega
      rw [if_neg h9, if_neg (by omega)]
      have hs : n / 128 * 128 ^ (i + 1) ≤ n * 128 ^ i := by
        rw [Nat.pow_succ, Nat.mul_comm (128 ^ i) 128, ← Nat.mul_assoc]
        exact Nat.mul_le_mul_right _ (by omega)
      exact rd_short f (i + 1) _ (n / 128) (by omega) (by omega) (by omega)

end Go.Proofs.YtdiihaeelcbjbaaGreatDoor

-- CrcMath
namespace Go.Proofs.YtdiihaeelcbjbaaGreatDoor
/-- One step: shifted right by one, and combined with the polynomial if a one fell out. -/
def stp (c : Nat) : Nat := c / 2 ^^^ (if c % 2 = 1 then 2197175160 else 0)
theorem xor_mod2 (a b : Nat) : (a ^^^ b) % 2 = (a % 2 + b % 2) % 2 := by
  have ha := Nat.mod_two_eq_zero_or_one a
  have hb := Nat.mod_two_eq_zero_or_one b
  have hx := Nat.mod_two_eq_zero_or_one (a ^^^ b)
  have h := Nat.xor_mod_two_eq_one (a := a) (b := b)
  omega
theorem eq_of_xor {a b : Nat} (h : a ^^^ b = 0) : a = b := by
  have : (a ^^^ b) ^^^ b = b := by rw [h, Nat.zero_xor]
  rwa [Nat.xor_assoc, Nat.xor_self, Nat.xor_zero] at this
theorem stp_xor (a b : Nat) : stp (a ^^^ b) = stp a ^^^ stp b := by
  unfold stp
  have hd : (a ^^^ b) / 2 = a / 2 ^^^ b / 2 := by
    have := Nat.shiftRight_xor_distrib (a := a) (b := b) (i := 1)
    simpa [Nat.shiftRight_eq_div_pow] using this
  rw [hd, xor_mod2]
  rcases Nat.mod_two_eq_zero_or_one a with ha | ha <;> rcases Nat.mod_two_eq_zero_or_one b with hb | hb <;> rw [ha, hb] <;> simp
  · ac_rfl
  · ac_rfl
  · rw [show a / 2 ^^^ 2197175160 ^^^ (b / 2 ^^^ 2197175160) = (a / 2 ^^^ b / 2) ^^^ (2197175160 ^^^ 2197175160) by ac_rfl]; simp
theorem stp_zero : stp 0 = 0 := by decide
theorem stp_lt {c : Nat} (h : c < 4294967296) : stp c < 4294967296 := by
  unfold stp
  have h1 : c / 2 < 2 ^ 32 := by omega
  have h2 : (if c % 2 = 1 then 2197175160 else 0) < 2 ^ 32 := by split <;> omega
  exact Nat.xor_lt_two_pow h1 h2
/-- A step takes only nothing to nothing. -/
theorem stp_eq_zero {c : Nat} (h : c < 4294967296) (h0 : stp c = 0) : c = 0 := by
  unfold stp at h0
  rcases Nat.mod_two_eq_zero_or_one c with hc | hc
  · rw [hc] at h0; simp at h0; omega
  · rw [hc] at h0
    simp only [if_true] at h0
    have : c / 2 = 2197175160 := eq_of_xor h0
    omega
/-- n steps. -/
def stps : Nat → Nat → Nat
  | 0, c => c
  | n + 1, c => stps n (stp c)
theorem stps_add : ∀ (m n c : Nat), stps (m + n) c = stps n (stps m c)
  | 0, n, c => by rw [Nat.zero_add]; rfl
  | m + 1, n, c => by rw [Nat.add_right_comm]; exact stps_add m n (stp c)
theorem stps_succ (n c : Nat) : stps (n + 1) c = stp (stps n c) := stps_add n 1 c
theorem stps_xor : ∀ (n a b : Nat), stps n (a ^^^ b) = stps n a ^^^ stps n b
  | 0, _, _ => rfl
  | n + 1, a, b => by rw [stps, stp_xor, stps_xor n]; rfl
theorem stps_zero : ∀ n, stps n 0 = 0
  | 0 => rfl
  | n + 1 => by rw [stps, stp_zero, stps_zero n]
theorem stps_lt : ∀ (n : Nat) {c : Nat}, c < 4294967296 → stps n c < 4294967296
  | 0, _, h => h
  | n + 1, _, h => stps_lt n (stp_lt h)
theorem stps_eq_zero : ∀ (n : Nat) {c : Nat}, c < 4294967296 → stps n c = 0 → c = 0
  | 0, _, _, h0 => h0
  | n + 1, _, h, h0 => stp_eq_zero h (stps_eq_zero n (stp_lt h) h0)
/-- The state behind bytes. -/
def crcS (c : Nat) (bs : List UInt8) : Nat := bs.foldl (fun c b => stps 8 (c ^^^ b.toNat)) c
def crcSum (bs : List UInt8) : Nat := crcS 4294967295 bs ^^^ 4294967295
theorem crcS_nil (c : Nat) : crcS c [] = c := rfl
theorem crcS_cons (c : Nat) (b : UInt8) (bs : List UInt8) : crcS c (b :: bs) = crcS (stps 8 (c ^^^ b.toNat)) bs := rfl
theorem crcS_append (c : Nat) (as bs : List UInt8) : crcS c (as ++ bs) = crcS (crcS c as) bs := by simp [crcS]
theorem crcS_lt : ∀ (bs : List UInt8) {c : Nat}, c < 4294967296 → crcS c bs < 4294967296
  | [], _, h => h
  | b :: bs, c, h => crcS_lt bs (stps_lt 8 (by
      have : b.toNat < 2 ^ 32 := by have := b.toNat_lt; omega
      exact Nat.xor_lt_two_pow (n := 32) h this))
theorem crcSum_lt (bs : List UInt8) : crcSum bs < 4294967296 := Nat.xor_lt_two_pow (n := 32) (crcS_lt bs (by omega)) (by omega)
theorem crcSum_more (as bs : List UInt8) : crcS (crcSum as ^^^ 4294967295) bs ^^^ 4294967295 = crcSum (as ++ bs) := by
  unfold crcSum
  rw [crcS_append, Nat.xor_assoc, Nat.xor_self, Nat.xor_zero]
/-- Bytes over bytes. -/
def xorB (as bs : List UInt8) : List UInt8 := List.zipWith (· ^^^ ·) as bs
theorem xorB_length {as bs : List UInt8} (h : as.length = bs.length) : (xorB as bs).length = as.length := by simp [xorB, h]
/-- The state is additive in state and bytes. -/
theorem crcS_xor : ∀ (as bs : List UInt8) (c d : Nat), as.length = bs.length → crcS (c ^^^ d) (xorB as bs) = crcS c as ^^^ crcS d bs
  | [], [], _, _, _ => rfl
  | a :: as, b :: bs, c, d, h => by
    have ih := crcS_xor as bs (stps 8 (c ^^^ a.toNat)) (stps 8 (d ^^^ b.toNat)) (by simpa using h)
    rw [crcS_cons, crcS_cons]
    show crcS (stps 8 ((c ^^^ d) ^^^ (a ^^^ b).toNat)) (xorB as bs) = _
    rw [← ih, ← stps_xor, UInt8.toNat_xor]
    congr 2
    ac_rfl
  | [], _ :: _, _, _, h => by simp at h
  | _ :: _, [], _, _, h => by simp at h
theorem xorB_zeros : ∀ (as : List UInt8), xorB as (List.replicate as.length 0) = as
  | [] => rfl
  | a :: as => by
    show (a ^^^ 0) :: xorB as (List.replicate as.length 0) = _
    rw [xorB_zeros as]; simp
/-- Sums of three rows over one another. -/
theorem crcSum_three (as bs : List UInt8) (h : as.length = bs.length) :
    crcSum as ^^^ crcSum bs ^^^ crcSum (List.replicate as.length 0) = crcSum (xorB as bs) := by
  unfold crcSum
  have h1 := crcS_xor as bs 4294967295 0 h
  have h2 := crcS_xor (List.replicate as.length 0) bs 4294967295 4294967295 (by simp [h])
  rw [Nat.xor_self] at h2
  have hz : xorB (List.replicate as.length 0) bs = bs := by
    have hc : ∀ (xs ys : List UInt8), xorB xs ys = xorB ys xs := by
      intro xs ys
      unfold xorB
      rw [List.zipWith_comm]
      congr 1
      funext x y
      exact UInt8.xor_comm _ _
    rw [hc, h]
    exact xorB_zeros bs
  rw [hz] at h2
  rw [Nat.xor_zero] at h1
  rw [h1, h2]
  ac_rfl
/-- A fault: the bytes over the fault. A state that differs ends in one that differs. -/
theorem crcS_fault (as es : List UInt8) (c : Nat) (h : as.length = es.length) : crcS c (xorB as es) = crcS c as ^^^ crcS 0 es := by
  have := crcS_xor as es c 0 h
  rwa [Nat.xor_zero] at this
theorem crcS_zeros : ∀ (n c : Nat), crcS c (List.replicate n 0) = stps (8 * n) c
  | 0, _ => rfl
  | n + 1, c => by
    rw [List.replicate_succ, crcS_cons, crcS_zeros n]
    simp only [UInt8.toNat_zero, Nat.xor_zero]
    rw [← stps_add]
    congr 1
    omega
/-- Low bits that are zero fall out without a fault. -/
theorem stps_shift : ∀ (k m : Nat), stps k (m * 2 ^ k) = m
  | 0, m => by simp [stps]
  | k + 1, m => by
    rw [stps]
    have h : stp (m * 2 ^ (k + 1)) = m * 2 ^ k := by
      unfold stp
      have e1 : m * 2 ^ (k + 1) = 2 * (m * 2 ^ k) := by rw [Nat.pow_succ]; ac_rfl
      rw [e1, Nat.mul_div_cancel_left _ (by omega), Nat.mul_mod_right]
      simp
    rw [h]; exact stps_shift k m
/-- The bytes of a number, n of them, the lowest first. -/
def leB : Nat → Nat → List UInt8
  | 0, _ => []
  | n + 1, x => UInt8.ofNat (x % 256) :: leB n (x / 256)
theorem leB_length : ∀ (n x : Nat), (leB n x).length = n
  | 0, _ => rfl
  | n + 1, x => by simp [leB, leB_length n]
/-- A number is its low bits over its high ones. -/
theorem xor_split (k x : Nat) : x = (x % 2 ^ k) ^^^ (x / 2 ^ k * 2 ^ k) := by
  have hp : 0 < 2 ^ k := Nat.two_pow_pos k
  have hlt : x % 2 ^ k < 2 ^ k := Nat.mod_lt _ hp
  have h := Nat.two_pow_add_eq_or_of_lt hlt (x / 2 ^ k)
  have h2 : (x % 2 ^ k) ^^^ (2 ^ k * (x / 2 ^ k)) = 2 ^ k * (x / 2 ^ k) + x % 2 ^ k := by
    apply Nat.eq_of_testBit_eq
    intro j
    rw [h, Nat.testBit_xor, Nat.testBit_or]
    by_cases hj : j < k
    · have : (2 ^ k * (x / 2 ^ k)).testBit j = false := by
        rw [Nat.testBit_two_pow_mul]; simp; omega
      simp [this]
    · have : (x % 2 ^ k).testBit j = false := by
        apply Nat.testBit_lt_two_pow
        exact Nat.lt_of_lt_of_le hlt (Nat.pow_le_pow_right (by omega) (by omega))
      simp [this]
  rw [Nat.mul_comm (x / 2 ^ k), h2, Nat.div_add_mod]
theorem xor_low (x : Nat) : x = (x % 256) ^^^ (x / 256 * 2 ^ 8) := xor_split 8 x
/-- k steps are those of the low k bits, over the rest. -/
theorem stps_split (k c : Nat) : stps k c = stps k (c % 2 ^ k) ^^^ c / 2 ^ k := by
  conv => lhs; rw [xor_split k c, stps_xor, stps_shift]
theorem crcS_leB : ∀ (n x c : Nat), x < 256 ^ n → crcS c (leB n x) = stps (8 * n) (c ^^^ x)
  | 0, x, c, h => by
    have : x = 0 := by simpa using h
    subst this
    simp [leB, crcS, stps]
  | n + 1, x, c, h => by
    rw [leB, crcS_cons, crcS_leB n (x / 256) _ (Nat.div_lt_of_lt_mul (by rw [Nat.pow_succ] at h; omega))]
    have e : (UInt8.ofNat (x % 256)).toNat = x % 256 := by simp
    rw [e, show 8 * (n + 1) = 8 + 8 * n by omega, stps_add]
    congr 1
    conv => rhs; rw [xor_low x, ← Nat.xor_assoc, stps_xor, stps_shift]
/-- Within so many bytes: whether the sum turns is whether anything turned. -/
theorem crc_fault (as : List UInt8) (bit m : Nat) (hb : bit ≤ 8 * as.length) (hm : m < 4294967296) (h : m * 2 ^ bit < 256 ^ as.length) :
    (crcSum (xorB as (leB as.length (m * 2 ^ bit))) = crcSum as) ↔ m = 0 := by
  have hl : as.length = (leB as.length (m * 2 ^ bit)).length := (leB_length _ _).symm
  have h1 : crcS 4294967295 (xorB as (leB as.length (m * 2 ^ bit))) = crcS 4294967295 as ^^^ stps (8 * as.length - bit) m := by
    rw [crcS_fault as _ _ hl, crcS_leB _ _ _ h, Nat.zero_xor]
    congr 1
    rw [show 8 * as.length = bit + (8 * as.length - bit) by omega, stps_add, stps_shift]
    congr 1
    omega
  unfold crcSum
  rw [h1]
  constructor
  · intro he
    have h2 : crcS 4294967295 as ^^^ stps (8 * as.length - bit) m = crcS 4294967295 as := by
      have := congrArg (· ^^^ 4294967295) he
      simpa [Nat.xor_assoc] using this
    have h3 : stps (8 * as.length - bit) m = 0 := by
      have := congrArg (crcS 4294967295 as ^^^ ·) h2
      simpa [← Nat.xor_assoc] using this
    exact stps_eq_zero _ hm h3
  · rintro rfl
    rw [stps_zero, Nat.xor_zero]
theorem xorB_assoc : ∀ (xs ys zs : List UInt8), xorB (xorB xs ys) zs = xorB xs (xorB ys zs)
  | [], _, _ => by simp [xorB]
  | _ :: _, [], _ => by simp [xorB]
  | _ :: _, _ :: _, [] => by simp [xorB]
  | x :: xs, y :: ys, z :: zs => by
    have := xorB_assoc xs ys zs
    show (x ^^^ y ^^^ z) :: xorB (xorB xs ys) zs = (x ^^^ (y ^^^ z)) :: xorB xs (xorB ys zs)
    rw [this, UInt8.xor_assoc]
theorem xor_mod (k x y : Nat) : (x ^^^ y) % 2 ^ k = x % 2 ^ k ^^^ y % 2 ^ k := Nat.xor_mod_two_pow
theorem xor_div (k x y : Nat) : (x ^^^ y) / 2 ^ k = x / 2 ^ k ^^^ y / 2 ^ k := by
  have := Nat.shiftRight_xor_distrib (a := x) (b := y) (i := k)
  simpa [Nat.shiftRight_eq_div_pow] using this
theorem leB_xor : ∀ (n x y : Nat), leB n (x ^^^ y) = xorB (leB n x) (leB n y)
  | 0, _, _ => rfl
  | n + 1, x, y => by
    have h1 := xor_mod 8 x y
    have h2 := xor_div 8 x y
    simp only [show (2 : Nat) ^ 8 = 256 from rfl] at h1 h2
    show UInt8.ofNat ((x ^^^ y) % 256) :: leB n ((x ^^^ y) / 256) = (UInt8.ofNat (x % 256) ^^^ UInt8.ofNat (y % 256)) :: xorB (leB n (x / 256)) (leB n (y / 256))
    rw [h1, h2, leB_xor n]
    congr 1
    apply UInt8.toNat_inj.1
    rw [UInt8.toNat_xor]
    have h3 : x % 256 ^^^ y % 256 < 2 ^ 8 := Nat.xor_lt_two_pow (by omega) (by omega)
    simp
theorem leB_zero : ∀ n, leB n 0 = List.replicate n 0
  | 0 => rfl
  | n + 1 => by rw [leB, List.replicate_succ]; simp [leB_zero n]
/-- One bit more. -/
theorem xorB_bit : ∀ (xs : List UInt8) (p : Nat), p < 8 * xs.length → xorB xs (leB xs.length (2 ^ p)) = xs.set (p / 8) (xs.getD (p / 8) 0 ^^^ UInt8.ofNat (2 ^ (p % 8)))
  | [], p, h => by simp at h
  | x :: xs, p, h => by
    by_cases hp : p < 8
    · have h1 : (2 : Nat) ^ p < 256 := by
        calc (2 : Nat) ^ p ≤ 2 ^ 7 := Nat.pow_le_pow_right (by omega) (by omega)
          _ < 256 := by decide
      have e0 : p / 8 = 0 := by omega
      have e1 : p % 8 = p := by omega
      show (x ^^^ UInt8.ofNat (2 ^ p % 256)) :: xorB xs (leB xs.length (2 ^ p / 256)) = _
      rw [Nat.mod_eq_of_lt h1, Nat.div_eq_of_lt h1, leB_zero, xorB_zeros, e0, e1]
      rfl
    · have hq : 2 ^ p = 256 * 2 ^ (p - 8) := by
        rw [show (256 : Nat) = 2 ^ 8 from rfl, ← Nat.pow_add]
        congr 1; omega
      have e0 : p / 8 = (p - 8) / 8 + 1 := by omega
      have e1 : p % 8 = (p - 8) % 8 := by omega
      show (x ^^^ UInt8.ofNat (2 ^ p % 256)) :: xorB xs (leB xs.length (2 ^ p / 256)) = _
      rw [hq, Nat.mul_mod_right, Nat.mul_div_cancel_left _ (by omega), xorB_bit xs (p - 8) (by simp at h; omega), e0, e1]
      simp

end Go.Proofs.YtdiihaeelcbjbaaGreatDoor

-- TakeMath
namespace Go.Proofs.YtdiihaeelcbjbaaGreatDoor
/-- Seven bits a byte, the lowest first. -/
def valL : List UInt8 → Nat
  | [] => 0
  | c :: bs => c.toNat % 128 + 128 * valL bs
theorem valL_lt : ∀ bs : List UInt8, valL bs < 128 ^ bs.length
  | [] => by simp [valL]
  | c :: bs => by
    have := valL_lt bs
    have := Nat.mod_lt c.toNat (show 128 > 0 by omega)
    simp only [valL, List.length_cons, Nat.pow_succ]
    omega
theorem valL_append : ∀ as bs : List UInt8, valL (as ++ bs) = valL as + 128 ^ as.length * valL bs
  | [], bs => by simp [valL]
  | a :: as, bs => by
    simp only [List.cons_append, valL, valL_append as bs, List.length_cons, Nat.pow_succ]
    rw [Nat.mul_add, ← Nat.mul_assoc, Nat.mul_comm 128 (128 ^ as.length)]
    omega
theorem valL_drop_le (bs : List UInt8) (j : Nat) : valL (bs.drop j) ≤ valL bs := by
  have h := valL_append (bs.take j) (bs.drop j)
  rw [List.take_append_drop] at h
  have : 1 * valL (bs.drop j) ≤ 128 ^ (bs.take j).length * valL (bs.drop j) := Nat.mul_le_mul_right _ (Nat.pow_pos (by omega))
  omega
/-- Bytes with a following one. -/
def Hi (p : List UInt8) : Prop := ∀ c ∈ p, 128 ≤ c.toNat
theorem Hi.nil : Hi [] := fun _ h => by cases h
theorem Hi.snoc {b : List UInt8} {k : Nat} (h : Hi (b.take k)) (hk : k < b.length) (hc : 128 ≤ (b[k]).toNat) : Hi (b.take (k + 1)) := by
  rw [List.take_succ_eq_append_getElem hk]
  intro c hm
  rcases List.mem_append.1 hm with h' | h'
  · exact h c h'
  · rw [List.mem_singleton.1 h']; exact hc
theorem rd_hi : ∀ (p : List UInt8) (f i acc : Nat) (t : List UInt8), Hi p → f + i = 10 → i + p.length ≤ 9 → rd f i acc (p ++ t) = rd (f - p.length) (i + p.length) (acc + valL p * 128 ^ i) t
  | [], f, i, acc, t, _, _, _ => by simp [valL]
  | c :: p, 0, i, acc, t, _, hf, hl => by simp at hl; omega
  | c :: p, f + 1, i, acc, t, h, hf, hl => by
    have hc := h c (by simp)
    have hcl := c.toNat_lt
    simp only [List.length_cons] at hl
    rw [List.cons_append, rd, if_neg (by omega), if_neg (by omega), rd_hi p f (i + 1) _ t (fun d hd => h d (by simp [hd])) (by omega) (by omega)]
    rw [List.length_cons, show f + 1 - (p.length + 1) = f - p.length by omega, show i + 1 + p.length = i + (p.length + 1) by omega]
    congr 1
    have e : c.toNat % 128 = c.toNat - 128 := by omega
    rw [valL, e, Nat.add_mul, Nat.pow_succ, Nat.mul_assoc 128, Nat.mul_comm 128, Nat.mul_assoc]
    omega
theorem split_at (b : List UInt8) (k : Nat) (hk : k < b.length) : b = b.take k ++ b[k] :: b.drop (k + 1) := by
  rw [← List.drop_eq_getElem_cons hk, List.take_append_drop]
theorem take_short (b : List UInt8) (k : Nat) (h : Hi (b.take k)) (hk : k = b.length) (h9 : k ≤ 9) : rdU b = .short := by
  have e : b = b.take k ++ [] := by rw [List.append_nil, List.take_of_length_le (by omega)]
  have hl : (b.take k).length = k := by rw [List.length_take]; omega
  rw [rdU, e, rd_hi _ 10 0 0 [] h rfl (by omega), hl, show 10 - k = (9 - k) + 1 by omega, rd]
theorem take_ten (b : List UInt8) (h : Hi (b.take 9)) (hk : 9 < b.length) (hc : 1 < (b[9]).toNat) : rdU b = .form (b.drop 10) := by
  have hl : (b.take 9).length = 9 := by rw [List.length_take]; omega
  conv => lhs; rw [rdU, split_at b 9 hk]
  rw [rd_hi _ 10 0 0 _ h rfl (by omega), hl, show 10 - 9 = 0 + 1 from rfl, rd, if_pos (by omega)]
theorem take_end (b : List UInt8) (k : Nat) (h : Hi (b.take k)) (hk : k < b.length) (h9 : k ≤ 9) (hc : (b[k]).toNat < 128) (hc9 : k = 9 → (b[k]).toNat ≤ 1) :
    rdU b = (if vb (valL (b.take (k + 1))) = b.take (k + 1) then .ok (valL (b.take (k + 1))) (b.drop (k + 1)) else .form (b.drop (k + 1))) ∧ valL (b.take (k + 1)) < 18446744073709551616 := by
  have hl : (b.take k).length = k := by rw [List.length_take]; omega
  have hv : valL (b.take (k + 1)) = valL (b.take k) + (b[k]).toNat * 128 ^ k := by
    rw [List.take_succ_eq_append_getElem hk, valL_append, hl]
    simp only [valL, Nat.mul_zero, Nat.add_zero, Nat.mod_eq_of_lt hc]
    rw [Nat.mul_comm]
  have hlt : valL (b.take (k + 1)) < 18446744073709551616 := by
    have h1 := valL_lt (b.take k)
    rw [hl] at h1
    have e9 : (128 : Nat) ^ 9 = 9223372036854775808 := by decide
    rw [hv]
    by_cases hk9 : k = 9
    · have := hc9 hk9
      have h2 : (b[k]).toNat * 128 ^ k ≤ 1 * 128 ^ k := Nat.mul_le_mul_right _ this
      have hp : (128 : Nat) ^ k = 9223372036854775808 := by rw [hk9]
      rw [hp] at h1 h2 ⊢
      omega
    · have h2 : (b[k]).toNat * 128 ^ k ≤ 127 * 128 ^ k := Nat.mul_le_mul_right _ (by omega)
      have h3 : (128 : Nat) ^ (k + 1) ≤ 128 ^ 9 := Nat.pow_le_pow_right (by omega) (by omega)
      rw [Nat.pow_succ] at h3
      omega
  refine ⟨?_, hlt⟩
  have hr : rdU b = rd (10 - k) k (valL (b.take k)) (b[k] :: b.drop (k + 1)) := by
    conv => lhs; rw [rdU, split_at b k hk]
    rw [rd_hi _ 10 0 0 _ h rfl (by omega), hl]; simp
  rw [show 10 - k = (9 - k) + 1 by omega, rd] at hr
  by_cases hz : 0 < k ∧ (b[k]).toNat = 0
  · rw [if_pos (.inl hz)] at hr
    rw [if_neg, hr]
    intro e
    have h1 := rdU_vb hlt (b.drop (k + 1))
    rw [e, List.take_append_drop, hr] at h1
    cases h1
  · rw [if_neg (by rintro (h' | h'); exact hz h'; have := hc9 h'.1; omega), if_pos hc, ← hv] at hr
    have h1 := (rdU_ok hr).1
    rw [if_pos, hr]
    have h2 : b.take (k + 1) ++ b.drop (k + 1) = vb (valL (b.take (k + 1))) ++ b.drop (k + 1) := by rw [List.take_append_drop]; exact h1
    exact (List.append_cancel_right h2).symm
end Go.Proofs.YtdiihaeelcbjbaaGreatDoor

-- FrMath
namespace Go.Proofs.YtdiihaeelcbjbaaGreatDoor
theorem leB_inj : ∀ (n x y : Nat), x < 256 ^ n → y < 256 ^ n → leB n x = leB n y → x = y
  | 0, x, y, hx, hy, _ => by simp at hx hy; omega
  | n + 1, x, y, hx, hy, h => by
    rw [leB, leB] at h
    injection h with h1 h2
    have h3 : x % 256 = y % 256 := by
      have := congrArg UInt8.toNat h1
      simpa using this
    have h4 := leB_inj n (x / 256) (y / 256) (Nat.div_lt_of_lt_mul (by rw [Nat.pow_succ] at hx; omega)) (Nat.div_lt_of_lt_mul (by rw [Nat.pow_succ] at hy; omega)) h2
    omega
/-- A frame: number, checksum, bytes. -/
def body (x : List UInt8) : List UInt8 := leB 4 (crcSum x) ++ x
def frm (x : List UInt8) : List UInt8 := vb x.length ++ body x
theorem body_length (x : List UInt8) : (body x).length = 4 + x.length := by simp [body, leB_length]
theorem frm_length (x : List UInt8) : (frm x).length = (vb x.length).length + (4 + x.length) := by simp [frm, body_length]
/-- Bytes that may be framed. -/
def Fit (x : List UInt8) : Prop := 1 ≤ x.length ∧ x.length ≤ 65536
/-- What taking the first frame comes to. -/
inductive TRes where
  | ok (x : List UInt8) (n : Nat)
  | err (e : Nat)
def tkR (n : Nat) (rest : List UInt8) : TRes :=
  if n < 1 ∨ 65536 < n then .err 11 else if rest.length < 4 + n then .err 10
  else if rest.take 4 = leB 4 (crcSum ((rest.drop 4).take n)) then .ok ((rest.drop 4).take n) ((vb n).length + (4 + n)) else .err 12
def tk (b : List UInt8) : TRes := match rdU b with
  | .short => .err 10
  | .form _ => .err 11
  | .ok n rest => tkR n rest
theorem tk_of_ok {b rest : List UInt8} {n : Nat} (h : rdU b = .ok n rest) : tk b = tkR n rest := by unfold tk; rw [h]
theorem tk_of_short {b : List UInt8} (h : rdU b = .short) : tk b = .err 10 := by unfold tk; rw [h]
theorem tk_of_form {b rest : List UInt8} (h : rdU b = .form rest) : tk b = .err 11 := by unfold tk; rw [h]
theorem tk_vb {n : Nat} (h : n ≤ 65536) (rest : List UInt8) : tk (vb n ++ rest) = tkR n rest := tk_of_ok (rdU_vb (by omega) rest)
theorem tk_frm (x rest : List UInt8) (h : Fit x) : tk (frm x ++ rest) = .ok x (frm x).length := by
  have h1 := h.1; have h2 := h.2
  rw [frm, List.append_assoc, tk_vb h.2, tkR, if_neg (by omega), if_neg (by rw [List.length_append, body_length]; omega)]
  have e1 : (body x ++ rest).take 4 = leB 4 (crcSum x) := by
    rw [body, List.append_assoc, List.take_left' (leB_length _ _)]
  have e2 : ((body x ++ rest).drop 4).take x.length = x := by
    rw [body, List.append_assoc, List.drop_left' (leB_length _ _), List.take_left]
  rw [e1, e2, if_pos rfl, List.length_append, body_length]
theorem tkR_ok {n m : Nat} {rest x : List UInt8} (h : tkR n rest = .ok x m) : Fit x ∧ n = x.length ∧ m = (frm x).length ∧ rest = body x ++ rest.drop (4 + n) := by
  unfold tkR at h
  split at h
  · cases h
  · rename_i h1
    split at h
    · cases h
    · rename_i h2
      split at h
      · rename_i h3
        injection h with hx hm
        have hxl : x.length = n := by rw [← hx, List.length_take, List.length_drop]; omega
        refine ⟨⟨by omega, by omega⟩, hxl.symm, by rw [← hm, frm_length, hxl], ?_⟩
        have e : body x = rest.take (4 + n) := by
          rw [body, ← hx, ← h3, List.take_add]
        rw [e, List.take_append_drop]
      · cases h
theorem tk_ok {b x : List UInt8} {m : Nat} (h : tk b = .ok x m) : Fit x ∧ m = (frm x).length ∧ b = frm x ++ b.drop m := by
  cases hr : rdU b with
  | short => rw [tk_of_short hr] at h; cases h
  | form r => rw [tk_of_form hr] at h; cases h
  | ok n rest =>
    rw [tk_of_ok hr] at h
    obtain ⟨hf, hn, hm, hrest⟩ := tkR_ok h
    obtain ⟨hb, _⟩ := rdU_ok hr
    have e : b = frm x ++ rest.drop (4 + n) := by rw [frm, List.append_assoc, ← hrest, hb, hn]
    refine ⟨hf, hm, ?_⟩
    rw [hm]
    conv => rhs; rhs; rw [e]
    rw [List.drop_left]; exact e
theorem tk_pos {b x : List UInt8} {m : Nat} (h : tk b = .ok x m) : 5 ≤ m ∧ m ≤ b.length := by
  obtain ⟨hf, hm, hb⟩ := tk_ok h
  have h1 := frm_length x
  have h2 := congrArg List.length hb
  rw [List.length_append] at h2
  have := hf.1
  omega
/-- A form that is cut ends too soon. -/
theorem rd_cut : ∀ (f i acc n k : Nat), f + i = 10 → n * 128 ^ i < 18446744073709551616 → (i = 0 ∨ 0 < n) → 0 < f → k < (vb n).length → rd f i acc ((vb n).take k) = .short
  | 0, _, _, _, _, _, _, _, h, _ => by omega
  | f + 1, i, acc, n, 0, _, _, _, _, _ => by simp [rd]
  | f + 1, i, acc, n, k + 1, hf, hn, h0, _, hk => by
    by_cases hlt : n < 128
    · rw [vb_lt hlt] at hk; simp at hk
    · rw [vb_ge (by omega)] at hk ⊢
      have e := toNat_ofNat_lt (n := n % 128 + 128) (by omega)
      simp only [List.take_succ_cons, rd, e]
      have hi : i < 9 := by
        rcases Nat.lt_or_ge i 9 with h | h
        · exact h
        · exfalso
          have h1 : (128 : Nat) ^ 9 ≤ 128 ^ i := Nat.pow_le_pow_right (by omega) h
          have h2 : (128 : Nat) ^ 9 = 9223372036854775808 := by decide
          have h3 : 128 * 128 ^ i ≤ n * 128 ^ i := Nat.mul_le_mul_right _ (by omega)
          omega
      have h9 : ¬ ((0 < i ∧ n % 128 + 128 = 0) ∨ (i = 9 ∧ 1 < n % 128 + 128)) := by omega
      rw [if_neg h9, if_neg (by omega)]
      have hs : n / 128 * 128 ^ (i + 1) ≤ n * 128 ^ i := by
        rw [Nat.pow_succ, Nat.mul_comm (128 ^ i) 128, ← Nat.mul_assoc]
        exact Nat.mul_le_mul_right _ (by omega)
      exact rd_cut f (i + 1) _ (n / 128) k (by omega) (by omega) (.inr (by omega)) (by omega) (by simpa using hk)
theorem tk_cut (x : List UInt8) (h : Fit x) (k : Nat) (hk : k < (frm x).length) : tk ((frm x).take k) = .err 10 := by
  have h1 := h.1; have h2 := h.2
  by_cases hv : k < (vb x.length).length
  · rw [frm, List.take_append_of_le_length (by omega)]
    exact tk_of_short (rd_cut 10 0 0 _ k rfl (by omega) (.inl rfl) (by omega) hv)
  · rw [frm, List.take_append, List.take_of_length_le (by omega), tk_vb h.2, tkR, if_neg (by omega), if_pos]
    rw [frm_length] at hk
    rw [List.length_take, body_length]; omega
theorem bit_ne (b : UInt8) (r : Nat) (hr : r < 8) : b ^^^ UInt8.ofNat (2 ^ r) ≠ b := by
  intro h
  have h1 := congrArg UInt8.toNat h
  rw [UInt8.toNat_xor] at h1
  have hp : (2 : Nat) ^ r < 256 := Nat.lt_of_le_of_lt (Nat.pow_le_pow_right (by omega) (show r ≤ 7 by omega)) (by decide)
  rw [toNat_ofNat_lt hp] at h1
  have h2 : b.toNat ^^^ (b.toNat ^^^ 2 ^ r) = b.toNat ^^^ b.toNat := by rw [h1]
  rw [← Nat.xor_assoc, Nat.xor_self, Nat.zero_xor] at h2
  have := Nat.two_pow_pos r
  omega
/-- Bytes with a bit turned. -/
def turn (bs : List UInt8) (q : Nat) : List UInt8 := bs.set (q / 8) (bs.getD (q / 8) 0 ^^^ UInt8.ofNat (2 ^ (q % 8)))
theorem turn_length (bs : List UInt8) (q : Nat) : (turn bs q).length = bs.length := by simp [turn]
theorem turn_ne (bs : List UInt8) (q : Nat) (h : q < 8 * bs.length) : turn bs q ≠ bs := by
  intro e
  have hq : q / 8 < bs.length := by omega
  have h1 : (turn bs q)[q / 8]? = bs[q / 8]? := by rw [e]
  simp only [turn, List.getElem?_set_self hq, List.getElem?_eq_getElem hq] at h1
  have h2 := Option.some.inj h1
  have h3 : bs.getD (q / 8) 0 = bs[q / 8] := by simp [List.getD, hq]
  rw [h3] at h2
  exact bit_ne _ _ (by omega) h2
theorem turn_left (as bs : List UInt8) (q : Nat) (h : q < 8 * as.length) : turn (as ++ bs) q = turn as q ++ bs := by
  have hq : q / 8 < as.length := by omega
  simp only [turn]
  rw [List.set_append_left _ _ hq]
  congr 2
  simp [List.getD, List.getElem?_append_left hq]
theorem turn_right (as bs : List UInt8) (q : Nat) : turn (as ++ bs) (8 * as.length + q) = as ++ turn bs q := by
  have h1 : (8 * as.length + q) / 8 = as.length + q / 8 := by omega
  have h2 : (8 * as.length + q) % 8 = q % 8 := by omega
  simp only [turn, h1, h2]
  rw [List.set_append_right _ _ (by omega), Nat.add_sub_cancel_left]
  congr 2
  simp [List.getD, List.getElem?_append_right]
theorem crc_turn (x : List UInt8) (q : Nat) (h : q < 8 * x.length) : crcSum (turn x q) ≠ crcSum x := by
  intro e
  have h1 : turn x q = xorB x (leB x.length (2 ^ q)) := (xorB_bit x q h).symm
  have h2 := crc_fault x q 1 (by omega) (by omega) (by
    rw [Nat.one_mul, show (256 : Nat) = 2 ^ 8 from rfl, ← Nat.pow_mul]
    exact Nat.pow_lt_pow_right (by omega) (by omega))
  rw [Nat.one_mul, ← h1] at h2
  exact absurd (h2.1 e) (by omega)
theorem tk_turn (x rest : List UInt8) (h : Fit x) (q : Nat) (hq : q < 8 * (4 + x.length)) : tk (vb x.length ++ (turn (body x) q ++ rest)) = .err 12 := by
  have h1 := h.1; have h2 := h.2
  rw [tk_vb h.2, tkR, if_neg (by omega), if_neg (by rw [List.length_append, turn_length, body_length]; omega), if_neg]
  intro hs
  have hl4 := leB_length 4 (crcSum x)
  by_cases h32 : q < 32
  · have e : turn (body x) q = turn (leB 4 (crcSum x)) q ++ x := turn_left _ _ _ (by omega)
    have hl : (turn (leB 4 (crcSum x)) q).length = 4 := by rw [turn_length, hl4]
    rw [e, List.append_assoc, List.take_left' hl, List.drop_left' hl, List.take_left] at hs
    exact turn_ne _ q (by omega) hs
  · have e : turn (body x) q = leB 4 (crcSum x) ++ turn x (q - 32) := by
      have := turn_right (leB 4 (crcSum x)) x (q - 32)
      rw [hl4, show 8 * 4 + (q - 32) = q by omega] at this
      exact this
    rw [e, List.append_assoc, List.take_left' hl4, List.drop_left' hl4, List.take_left' (turn_length _ _)] at hs
    have := leB_inj 4 _ _ (crcSum_lt _) (crcSum_lt _) hs
    exact crc_turn x (q - 32) (by omega) this.symm
/-- All frames. -/
def al (b : List UInt8) : List (List UInt8) × Nat × Nat :=
  if b = [] then ([], 0, 0) else match _h : tk b with
    | .err e => ([], 0, e)
    | .ok x n => (x :: (al (b.drop n)).1, n + (al (b.drop n)).2.1, (al (b.drop n)).2.2)
termination_by b.length
decreasing_by all_goals (have := tk_pos _h; simp; omega)
theorem al_nil : al [] = ([], 0, 0) := by rw [al]; simp
theorem al_err {b : List UInt8} {e : Nat} (hb : b ≠ []) (h : tk b = .err e) : al b = ([], 0, e) := by
  rw [al, if_neg hb]
  split
  · rename_i e' h'; rw [h] at h'; cases h'; rfl
  · rename_i x n h'; rw [h] at h'; cases h'
theorem al_ok {b x : List UInt8} {n : Nat} (h : tk b = .ok x n) : al b = (x :: (al (b.drop n)).1, n + (al (b.drop n)).2.1, (al (b.drop n)).2.2) := by
  have hb : b ≠ [] := by rintro rfl; have h5 := tk_pos h; rw [List.length_nil] at h5; omega
  rw [al, if_neg hb]
  split
  · rename_i e' h'; rw [h] at h'; cases h'
  · rename_i x' n' h'; rw [h] at h'; cases h'; rfl
theorem al_frm (x rest : List UInt8) (h : Fit x) : al (frm x ++ rest) = (x :: (al rest).1, (frm x).length + (al rest).2.1, (al rest).2.2) := by
  rw [al_ok (tk_frm x rest h), List.drop_left]
/-- A row of frames. -/
def frms (l : List (List UInt8)) : List UInt8 := (l.map frm).flatten
theorem frms_nil : frms [] = [] := rfl
theorem frms_cons (x : List UInt8) (l : List (List UInt8)) : frms (x :: l) = frm x ++ frms l := rfl
theorem frms_append (l m : List (List UInt8)) : frms (l ++ m) = frms l ++ frms m := by simp [frms]
theorem al_frms : ∀ (l : List (List UInt8)) (rest : List UInt8), (∀ x ∈ l, Fit x) → al (frms l ++ rest) = (l ++ (al rest).1, (frms l).length + (al rest).2.1, (al rest).2.2)
  | [], rest, _ => by simp [frms_nil]
  | x :: l, rest, h => by
    rw [frms_cons, List.append_assoc, al_frm x _ (h x (by simp)), al_frms l rest (fun y hy => h y (by simp [hy]))]
    simp [Nat.add_assoc]
theorem frm_ne (x : List UInt8) : frm x ≠ [] := by simp [frm, vb_ne]
/-- A row that is cut: those that are whole, and how far. -/
theorem al_cut (l : List (List UInt8)) (h : ∀ x ∈ l, Fit x) (n q : Nat) (hn : n ≤ (frms l).length) (_hq : q ≤ l.length) (h1 : (frms (l.take q)).length ≤ n) (h2 : q = l.length ∨ n < (frms (l.take (q + 1))).length) :
    al ((frms l).take n) = (l.take q, (frms (l.take q)).length, if (frms (l.take q)).length = n then 0 else 10) := by
  have hsplit : frms l = frms (l.take q) ++ frms (l.drop q) := by rw [← frms_append, List.take_append_drop]
  have hfit : ∀ x ∈ l.take q, Fit x := fun x hx => h x (List.mem_of_mem_take hx)
  have e : (frms l).take n = frms (l.take q) ++ (frms (l.drop q)).take (n - (frms (l.take q)).length) := by
    rw [hsplit, List.take_append, List.take_of_length_le h1]
  rw [e, al_frms _ _ hfit]
  by_cases hz : (frms (l.take q)).length = n
  · rw [hz, Nat.sub_self, List.take_zero, al_nil, if_pos rfl]; simp
  · rw [if_neg hz]
    have hlt : q < l.length := by
      rcases Nat.lt_or_ge q l.length with h' | h'
      · exact h'
      · exfalso
        have : l.take q = l := List.take_of_length_le h'
        rw [this] at h1 hz; omega
    have hd : l.drop q = l[q] :: l.drop (q + 1) := List.drop_eq_getElem_cons hlt
    have ht : frms (l.take (q + 1)) = frms (l.take q) ++ frm l[q] := by
      rw [List.take_succ_eq_append_getElem hlt, frms_append]; simp [frms]
    have hk : n - (frms (l.take q)).length < (frm l[q]).length := by
      rcases h2 with h2 | h2
      · omega
      · rw [ht, List.length_append] at h2; omega
    have hne : (frms (l.drop q)).take (n - (frms (l.take q)).length) ≠ [] := by
      rw [hd, frms_cons]
      intro h0
      have h3 := congrArg List.length h0
      rw [List.length_take, List.length_append, List.length_nil] at h3
      omega
    have ht2 : (frms (l.drop q)).take (n - (frms (l.take q)).length) = (frm l[q]).take (n - (frms (l.take q)).length) := by
      rw [hd, frms_cons, List.take_append_of_le_length (by omega)]
    rw [al_err hne (by rw [ht2]; exact tk_cut _ (h _ (List.getElem_mem hlt)) _ hk)]
    simp
/-- A row with a bit turned in frame i's contents or sum. -/
theorem al_turn (l : List (List UInt8)) (h : ∀ x ∈ l, Fit x) (i q : Nat) (hi : i < l.length) (hq : q < 8 * (4 + (l[i]).length)) :
    al (turn (frms l) (8 * ((frms (l.take (i + 1))).length - (l[i]).length - 4) + q)) = (l.take i, (frms (l.take i)).length, 12) := by
  have hfx := h _ (List.getElem_mem hi)
  have ht : frms (l.take (i + 1)) = frms (l.take i) ++ frm l[i] := by
    rw [List.take_succ_eq_append_getElem hi, frms_append]; simp [frms]
  have hl : frms l = (frms (l.take i) ++ vb (l[i]).length) ++ (body l[i] ++ frms (l.drop (i + 1))) := by
    have h1 : frms l = frms (l.take i) ++ frms (l.drop i) := by rw [← frms_append, List.take_append_drop]
    rw [h1, List.drop_eq_getElem_cons hi, frms_cons, frm]; simp
  have hp : (frms (l.take (i + 1))).length - (l[i]).length - 4 = (frms (l.take i) ++ vb (l[i]).length).length := by
    rw [ht, List.length_append, frm_length, List.length_append]; omega
  rw [hp, hl, turn_right, turn_left _ _ _ (by rw [body_length]; exact hq), List.append_assoc, al_frms _ _ (fun x hx => h x (List.mem_of_mem_take hx))]
  rw [al_err (by simp [vb_ne]) (tk_turn _ _ hfx q hq)]
  simp
end Go.Proofs.YtdiihaeelcbjbaaGreatDoor

-- RcMath
namespace Go.Proofs.YtdiihaeelcbjbaaGreatDoor
theorem al_end : ∀ (k : Nat) (b : List UInt8), b.length ≤ k → (al b).2.1 ≤ b.length
  | 0, b, h => by
    obtain rfl : b = [] := List.eq_nil_of_length_eq_zero (by omega)
    rw [al_nil]; simp
  | k + 1, b, h => by
    by_cases hb : b = []
    · subst hb; rw [al_nil]; simp
    · cases ht : tk b with
      | err e => rw [al_err hb ht]; simp
      | ok x m =>
        have hp := tk_pos ht
        have := al_end k (b.drop m) (by rw [List.length_drop]; omega)
        rw [al_ok ht]
        rw [List.length_drop] at this
        show m + _ ≤ _
        omega
theorem al_le (b : List UInt8) : (al b).2.1 ≤ b.length := al_end b.length b (Nat.le_refl _)
/-- What opening bytes, n of which are synced, comes to: the records, how many bytes stay, the error. -/
def opn (b : List UInt8) (n : Nat) : List (List UInt8) × Nat × Nat :=
  if (al (b.take n)).2.2 = 0 ∧ (al (b.take n)).2.1 = n then ((al (b.take n)).1 ++ (al (b.drop n)).1, n + (al (b.drop n)).2.1, 0) else ([], b.length, 22)
theorem opn_ok {b : List UInt8} {n : Nat} (h1 : (al (b.take n)).2.2 = 0) (h2 : (al (b.take n)).2.1 = n) : opn b n = ((al (b.take n)).1 ++ (al (b.drop n)).1, n + (al (b.drop n)).2.1, 0) := by rw [opn, if_pos ⟨h1, h2⟩]
theorem opn_bad {b : List UInt8} {n : Nat} (h : ¬ ((al (b.take n)).2.2 = 0 ∧ (al (b.take n)).2.1 = n)) : opn b n = ([], b.length, 22) := by rw [opn, if_neg h]
theorem opn_le {b : List UInt8} {n : Nat} (h : n ≤ b.length) : (opn b n).2.1 ≤ b.length := by
  unfold opn
  split
  · have := al_le (b.drop n)
    rw [List.length_drop] at this
    show n + _ ≤ _
    omega
  · exact Nat.le_refl _
theorem opn_err (b : List UInt8) (n : Nat) : (opn b n).2.2 = 0 ∨ (opn b n).2.2 = 22 := by
  unfold opn
  split
  · exact .inl rfl
  · exact .inr rfl
theorem opn_ge {b : List UInt8} {n : Nat} (h : (opn b n).2.2 = 0) : n ≤ (opn b n).2.1 := by
  unfold opn at h ⊢
  split
  · exact Nat.le_add_right _ _
  · rename_i h'
    rw [if_neg h'] at h
    cases h
theorem frms_take_le (l : List (List UInt8)) (k : Nat) : (frms (l.take k)).length ≤ (frms l).length := by
  have h : frms l = frms (l.take k) ++ frms (l.drop k) := by rw [← frms_append, List.take_append_drop]
  rw [h, List.length_append]; omega
theorem frms_at (l : List (List UInt8)) (k : Nat) : (frms l).take (frms (l.take k)).length = frms (l.take k) ∧ (frms l).drop (frms (l.take k)).length = frms (l.drop k) := by
  have h : frms l = frms (l.take k) ++ frms (l.drop k) := by rw [← frms_append, List.take_append_drop]
  constructor
  · conv => lhs; rw [h]
    exact List.take_left
  · conv => lhs; rw [h]
    exact List.drop_left
theorem al_whole (l : List (List UInt8)) (h : ∀ x ∈ l, Fit x) : al (frms l) = (l, (frms l).length, 0) := by
  have := al_frms l [] h
  rw [List.append_nil, al_nil] at this
  simpa using this
/-- Where a row that is cut ends. -/
theorem cut_at (l : List (List UInt8)) : ∀ (k n : Nat), k = l.length → n ≤ (frms l).length → ∃ q, q ≤ l.length ∧ (frms (l.take q)).length ≤ n ∧ (q = l.length ∨ n < (frms (l.take (q + 1))).length) := by
  intro k n hk hn
  have : ∀ j, j ≤ l.length → (∃ q, q ≤ l.length ∧ (frms (l.take q)).length ≤ n ∧ (q = l.length ∨ n < (frms (l.take (q + 1))).length)) ∨ (frms (l.take j)).length ≤ n := by
    intro j
    induction j with
    | zero => intro _; exact .inr (by simp [frms])
    | succ j ih =>
      intro hj
      rcases ih (by omega) with h | h
      · exact .inl h
      · rcases Nat.lt_or_ge n (frms (l.take (j + 1))).length with h' | h'
        · exact .inl ⟨j, by omega, h, .inr h'⟩
        · exact .inr h'
  rcases this l.length (Nat.le_refl _) with h | h
  · exact h
  · exact ⟨l.length, Nat.le_refl _, h, .inl rfl⟩
/-- Behind an end of the power: all that was synced, and a beginning of what was behind it. -/
theorem opn_torn (l : List (List UInt8)) (h : ∀ x ∈ l, Fit x) (sure m : Nat) (hs : sure ≤ l.length) (h1 : (frms (l.take sure)).length ≤ m) (h2 : m ≤ (frms l).length) :
    ∃ kept, sure ≤ kept ∧ kept ≤ l.length ∧ opn ((frms l).take m) (frms (l.take sure)).length = (l.take kept, (frms (l.take kept)).length, 0) ∧ ((frms l).take m).take (frms (l.take kept)).length = frms (l.take kept) := by
  have hfit : ∀ k, ∀ x ∈ l.take k, Fit x := fun k x hx => h x (List.mem_of_mem_take hx)
  have hd : ∀ x ∈ l.drop sure, Fit x := fun x hx => h x (List.mem_of_mem_drop hx)
  obtain ⟨ha, hb⟩ := frms_at l sure
  have hlen : (frms l).length = (frms (l.take sure)).length + (frms (l.drop sure)).length := by
    rw [← List.length_append, ← frms_append, List.take_append_drop]
  obtain ⟨q, hq, hq1, hq2⟩ := cut_at (l.drop sure) _ (m - (frms (l.take sure)).length) rfl (by omega)
  have e1 : ((frms l).take m).take (frms (l.take sure)).length = frms (l.take sure) := by
    rw [List.take_take, Nat.min_eq_left h1, ha]
  have e2 : ((frms l).take m).drop (frms (l.take sure)).length = (frms (l.drop sure)).take (m - (frms (l.take sure)).length) := by
    rw [List.drop_take, hb]
  have e3 : l.take (sure + q) = l.take sure ++ (l.drop sure).take q := List.take_add
  have e4 : (frms (l.take (sure + q))).length = (frms (l.take sure)).length + (frms ((l.drop sure).take q)).length := by rw [e3, frms_append, List.length_append]
  have hw := al_whole (l.take sure) (hfit sure)
  have hc := al_cut (l.drop sure) hd (m - (frms (l.take sure)).length) q (by omega) hq hq1 hq2
  refine ⟨sure + q, by omega, by rw [List.length_drop] at hq; omega, ?_, ?_⟩
  · rw [opn_ok (by rw [e1, hw]) (by rw [e1, hw]), e1, e2, hw, hc, e3, frms_append, List.length_append]
  · rw [List.take_take, Nat.min_eq_left (by omega)]
    exact (frms_at l (sure + q)).1
/-- Opened again: the same. -/
theorem opn_again (l : List (List UInt8)) (h : ∀ x ∈ l, Fit x) : opn (frms l) (frms l).length = (l, (frms l).length, 0) := by
  have hw := al_whole l h
  rw [opn_ok (by rw [List.take_length, hw]) (by rw [List.take_length, hw]), List.take_length, List.drop_length, hw, al_nil]
  simp
/-- With a bit turned, of contents or a sum. -/
theorem opn_turn (l : List (List UInt8)) (h : ∀ x ∈ l, Fit x) (i q : Nat) (hi : i < l.length) (hq : q < 8 * (4 + (l[i]).length)) :
    opn (turn (frms l) (8 * ((frms (l.take (i + 1))).length - (l[i]).length - 4) + q)) (frms l).length = ([], (frms l).length, 22) := by
  have ht := al_turn l h i q hi hq
  have hl : (turn (frms l) (8 * ((frms (l.take (i + 1))).length - (l[i]).length - 4) + q)).length = (frms l).length := turn_length _ _
  rw [opn_bad (fun hh => ?_), hl]
  rw [← hl, List.take_length, ht] at hh
  simp at hh
end Go.Proofs.YtdiihaeelcbjbaaGreatDoor
