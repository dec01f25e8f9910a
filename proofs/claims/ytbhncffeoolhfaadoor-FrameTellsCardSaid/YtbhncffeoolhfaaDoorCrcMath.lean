/- Plain mathematics of CRC-32C: a step is additive and takes no two states to one; so faults within 32 bits side by side are found, and sums of three rows over one another are the sum of these over one another. -/
namespace Go.Proofs.YtbhncffeoolhfaaDoor

/-- One step: shifted right by one, and combined with the polynomial if a one fell out. -/
def stp (c : Nat) : Nat := c / 2 ^^^ (if c % 2 = 1 then 2197175160 else 0)

theorem xor_mod2 (a b : Nat) : (a ^^^ b) % 2 = (a % 2 + b % 2) % 2 := by
  have ha := Nat.mod_two_eq_zero_or_one a
  have hb := Nat.mod_two_eq_zero_or_one b
  have hx := Nat.mod_two_eq_zero_or_one (a ^^^ b)
  have h := Nat.xor_mod_two_eq_one (a := a) (b := b)
  omega

theorem eq_of_xor {a b : Nat} (h : a ^^^ b = 0) : a = b := by
  have : (a ^^^ b) ^^^ b = b := by rw [h, Nat.zero_xor]
  rwa [Nat.xor_assoc, Nat.xor_self, Nat.xor_zero] at this

theorem stp_xor (a b : Nat) : stp (a ^^^ b) = stp a ^^^ stp b := by
  unfold stp
  have hd : (a ^^^ b) / 2 = a / 2 ^^^ b / 2 := by
    have := Nat.shiftRight_xor_distrib (a := a) (b := b) (i := 1)
    simpa [Nat.shiftRight_eq_div_pow] using this
  rw [hd, xor_mod2]
  rcases Nat.mod_two_eq_zero_or_one a with ha | ha <;> rcases Nat.mod_two_eq_zero_or_one b with hb | hb <;> rw [ha, hb] <;> simp
  · ac_rfl
  · ac_rfl
  · rw [show a / 2 ^^^ 2197175160 ^^^ (b / 2 ^^^ 2197175160) = (a / 2 ^^^ b / 2) ^^^ (2197175160 ^^^ 2197175160) by ac_rfl]; simp

theorem stp_zero : stp 0 = 0 := by decide

theorem stp_lt {c : Nat} (h : c < 4294967296) : stp c < 4294967296 := by
  unfold stp
  have h1 : c / 2 < 2 ^ 32 := by omega
  have h2 : (if c % 2 = 1 then 2197175160 else 0) < 2 ^ 32 := by split <;> omega
  exact Nat.xor_lt_two_pow h1 h2

/-- A step takes only nothing to nothing. -/
theorem stp_eq_zero {c : Nat} (h : c < 4294967296) (h0 : stp c = 0) : c = 0 := by
  unfold stp at h0
  rcases Nat.mod_two_eq_zero_or_one c with hc | hc
  · rw [hc] at h0; simp at h0; omega
  · rw [hc] at h0
    simp only [if_true] at h0
    have : c / 2 = 2197175160 := eq_of_xor h0
    omega

/-- n steps. -/
def stps : Nat → Nat → Nat
  | 0, c => c
  | n + 1, c => stps n (stp c)

theorem stps_add : ∀ (m n c : Nat), stps (m + n) c = stps n (stps m c)
  | 0, n, c => by rw [Nat.zero_add]; rfl
  | m + 1, n, c => by rw [Nat.add_right_comm]; exact stps_add m n (stp c)
theorem stps_succ (n c : Nat) : stps (n + 1) c = stp (stps n c) := stps_add n 1 c
theorem stps_xor : ∀ (n a b : Nat), stps n (a ^^^ b) = stps n a ^^^ stps n b
  | 0, _, _ => rfl
  | n + 1, a, b => by rw [stps, stp_xor, stps_xor n]; rfl
theorem stps_zero : ∀ n, stps n 0 = 0
  | 0 => rfl
  | n + 1 => by rw [stps, stp_zero, stps_zero n]
theorem stps_lt : ∀ (n : Nat) {c : Nat}, c < 4294967296 → stps n c < 4294967296
  | 0, _, h => h
  | n + 1, _, h => stps_lt n (stp_lt h)
theorem stps_eq_zero : ∀ (n : Nat) {c : Nat}, c < 4294967296 → stps n c = 0 → c = 0
  | 0, _, _, h0 => h0
  | n + 1, _, h, h0 => stp_eq_zero h (stps_eq_zero n (stp_lt h) h0)

/-- The state behind bytes. -/
def crcS (c : Nat) (bs : List UInt8) : Nat := bs.foldl (fun c b => stps 8 (c ^^^ b.toNat)) c
def crcSum (bs : List UInt8) : Nat := crcS 4294967295 bs ^^^ 4294967295

theorem crcS_nil (c : Nat) : crcS c [] = c := rfl
theorem crcS_cons (c : Nat) (b : UInt8) (bs : List UInt8) : crcS c (b :: bs) = crcS (stps 8 (c ^^^ b.toNat)) bs := rfl
theorem crcS_append (c : Nat) (as bs : List UInt8) : crcS c (as ++ bs) = crcS (crcS c as) bs := by simp [crcS]
theorem crcS_lt : ∀ (bs : List UInt8) {c : Nat}, c < 4294967296 → crcS c bs < 4294967296
  | [], _, h => h
  | b :: bs, c, h => crcS_lt bs (stps_lt 8 (by
      have : b.toNat < 2 ^ 32 := by have := b.toNat_lt; omega
      exact Nat.xor_lt_two_pow (n := 32) h this))
theorem crcSum_lt (bs : List UInt8) : crcSum bs < 4294967296 := Nat.xor_lt_two_pow (n := 32) (crcS_lt bs (by omega)) (by omega)
theorem crcSum_more (as bs : List UInt8) : crcS (crcSum as ^^^ 4294967295) bs ^^^ 4294967295 = crcSum (as ++ bs) := by
  unfold crcSum
  rw [crcS_append, Nat.xor_assoc, Nat.xor_self, Nat.xor_zero]

/-- Bytes over bytes. -/
def xorB (as bs : List UInt8) : List UInt8 := List.zipWith (· ^^^ ·) as bs
theorem xorB_length {as bs : List UInt8} (h : as.length = bs.length) : (xorB as bs).length = as.length := by simp [xorB, h]

/-- The state is additive in state and bytes. -/
theorem crcS_xor : ∀ (as bs : List UInt8) (c d : Nat), as.length = bs.length → crcS (c ^^^ d) (xorB as bs) = crcS c as ^^^ crcS d bs
  | [], [], _, _, _ => rfl
  | a :: as, b :: bs, c, d, h => by
    have ih := crcS_xor as bs (stps 8 (c ^^^ a.toNat)) (stps 8 (d ^^^ b.toNat)) (by simpa using h)
    rw [crcS_cons, crcS_cons]
    show crcS (stps 8 ((c ^^^ d) ^^^ (a ^^^ b).toNat)) (xorB as bs) = _
    rw [← ih, ← stps_xor, UInt8.toNat_xor]
    congr 2
    ac_rfl
  | [], _ :: _, _, _, h => by simp at h
  | _ :: _, [], _, _, h => by simp at h

theorem xorB_zeros : ∀ (as : List UInt8), xorB as (List.replicate as.length 0) = as
  | [] => rfl
  | a :: as => by
    show (a ^^^ 0) :: xorB as (List.replicate as.length 0) = _
    rw [xorB_zeros as]; simp

/-- Sums of three rows over one another. -/
theorem crcSum_three (as bs : List UInt8) (h : as.length = bs.length) :
    crcSum as ^^^ crcSum bs ^^^ crcSum (List.replicate as.length 0) = crcSum (xorB as bs) := by
  unfold crcSum
  have h1 := crcS_xor as bs 4294967295 0 h
  have h2 := crcS_xor (List.replicate as.length 0) bs 4294967295 4294967295 (by simp [h])
  rw [Nat.xor_self] at h2
  have hz : xorB (List.replicate as.length 0) bs = bs := by
    have hc : ∀ (xs ys : List UInt8), xorB xs ys = xorB ys xs := by
      intro xs ys
      unfold xorB
      rw [List.zipWith_comm]
      congr 1
      funext x y
      exact UInt8.xor_comm _ _
    rw [hc, h]
    exact xorB_zeros bs
  rw [hz] at h2
  rw [Nat.xor_zero] at h1
  rw [h1, h2]
  ac_rfl

/-- A fault: the bytes over the fault. A state that differs ends in one that differs. -/
theorem crcS_fault (as es : List UInt8) (c : Nat) (h : as.length = es.length) : crcS c (xorB as es) = crcS c as ^^^ crcS 0 es := by
  have := crcS_xor as es c 0 h
  rwa [Nat.xor_zero] at this

theorem crcS_zeros : ∀ (n c : Nat), crcS c (List.replicate n 0) = stps (8 * n) c
  | 0, _ => rfl
  | n + 1, c => by
    rw [List.replicate_succ, crcS_cons, crcS_zeros n]
    simp only [UInt8.toNat_zero, Nat.xor_zero]
    rw [← stps_add]
    congr 1
    omega

/-- Low bits that are zero fall out without a fault. -/
theorem stps_shift : ∀ (k m : Nat), stps k (m * 2 ^ k) = m
  | 0, m => by simp [stps]
  | k + 1, m => by
    rw [stps]
    have h : stp (m * 2 ^ (k + 1)) = m * 2 ^ k := by
      unfold stp
      have e1 : m * 2 ^ (k + 1) = 2 * (m * 2 ^ k) := by rw [Nat.pow_succ]; ac_rfl
      rw [e1, Nat.mul_div_cancel_left _ (by omega), Nat.mul_mod_right]
      simp
    rw [h]; exact stps_shift k m

/-- The bytes of a number, n of them, the lowest first. -/
def leB : Nat → Nat → List UInt8
  | 0, _ => []
  | n + 1, x => UInt8.ofNat (x % 256) :: leB n (x / 256)
theorem leB_length : ∀ (n x : Nat), (leB n x).length = n
  | 0, _ => rfl
  | n + 1, x => by simp [leB, leB_length n]

/-- A number is its low bits over its high ones. -/
theorem xor_split (k x : Nat) : x = (x % 2 ^ k) ^^^ (x / 2 ^ k * 2 ^ k) := by
  have hp : 0 < 2 ^ k := Nat.two_pow_pos k
  have hlt : x % 2 ^ k < 2 ^ k := Nat.mod_lt _ hp
  have h := Nat.two_pow_add_eq_or_of_lt hlt (x / 2 ^ k)
  have h2 : (x % 2 ^ k) ^^^ (2 ^ k * (x / 2 ^ k)) = 2 ^ k * (x / 2 ^ k) + x % 2 ^ k := by
    apply Nat.eq_of_testBit_eq
    intro j
    rw [h, Nat.testBit_xor, Nat.testBit_or]
    by_cases hj : j < k
    · have : (2 ^ k * (x / 2 ^ k)).testBit j = false := by
        rw [Nat.testBit_two_pow_mul]; simp; omega
      simp [this]
    · have : (x % 2 ^ k).testBit j = false := by
        apply Nat.testBit_lt_two_pow
        exact Nat.lt_of_lt_of_le hlt (Nat.pow_le_pow_right (by omega) (by omega))
      simp [this]
  rw [Nat.mul_comm (x / 2 ^ k), h2, Nat.div_add_mod]
theorem xor_low (x : Nat) : x = (x % 256) ^^^ (x / 256 * 2 ^ 8) := xor_split 8 x

/-- k steps are those of the low k bits, over the rest. -/
theorem stps_split (k c : Nat) : stps k c = stps k (c % 2 ^ k) ^^^ c / 2 ^ k := by
  conv => lhs; rw [xor_split k c, stps_xor, stps_shift]

theorem crcS_leB : ∀ (n x c : Nat), x < 256 ^ n → crcS c (leB n x) = stps (8 * n) (c ^^^ x)
  | 0, x, c, h => by
    have : x = 0 := by simpa using h
    subst this
    simp [leB, crcS, stps]
  | n + 1, x, c, h => by
    rw [leB, crcS_cons, crcS_leB n (x / 256) _ (Nat.div_lt_of_lt_mul (by rw [Nat.pow_succ] at h; omega))]
    have e : (UInt8.ofNat (x % 256)).toNat = x % 256 := by simp
    rw [e, show 8 * (n + 1) = 8 + 8 * n by omega, stps_add]
    congr 1
    conv => rhs; rw [xor_low x, ← Nat.xor_assoc, stps_xor, stps_shift]


/-- Within so many bytes: whether the sum turns is whether anything turned. -/
theorem crc_fault (as : List UInt8) (bit m : Nat) (hb : bit ≤ 8 * as.length) (hm : m < 4294967296) (h : m * 2 ^ bit < 256 ^ as.length) :
    (crcSum (xorB as (leB as.length (m * 2 ^ bit))) = crcSum as) ↔ m = 0 := by
  have hl : as.length = (leB as.length (m * 2 ^ bit)).length := (leB_length _ _).symm
  have h1 : crcS 4294967295 (xorB as (leB as.length (m * 2 ^ bit))) = crcS 4294967295 as ^^^ stps (8 * as.length - bit) m := by
    rw [crcS_fault as _ _ hl, crcS_leB _ _ _ h, Nat.zero_xor]
    congr 1
    rw [show 8 * as.length = bit + (8 * as.length - bit) by omega, stps_add, stps_shift]
    congr 1
    omega
  unfold crcSum
  rw [h1]
  constructor
  · intro he
    have h2 : crcS 4294967295 as ^^^ stps (8 * as.length - bit) m = crcS 4294967295 as := by
      have := congrArg (· ^^^ 4294967295) he
      simpa [Nat.xor_assoc] using this
    have h3 : stps (8 * as.length - bit) m = 0 := by
      have := congrArg (crcS 4294967295 as ^^^ ·) h2
      simpa [← Nat.xor_assoc] using this
    exact stps_eq_zero _ hm h3
  · rintro rfl
    rw [stps_zero, Nat.xor_zero]

theorem xorB_assoc : ∀ (xs ys zs : List UInt8), xorB (xorB xs ys) zs = xorB xs (xorB ys zs)
  | [], _, _ => by simp [xorB]
  | _ :: _, [], _ => by simp [xorB]
  | _ :: _, _ :: _, [] => by simp [xorB]
  | x :: xs, y :: ys, z :: zs => by
    have := xorB_assoc xs ys zs
    show (x ^^^ y ^^^ z) :: xorB (xorB xs ys) zs = (x ^^^ (y ^^^ z)) :: xorB xs (xorB ys zs)
    rw [this, UInt8.xor_assoc]

theorem xor_mod (k x y : Nat) : (x ^^^ y) % 2 ^ k = x % 2 ^ k ^^^ y % 2 ^ k := Nat.xor_mod_two_pow
theorem xor_div (k x y : Nat) : (x ^^^ y) / 2 ^ k = x / 2 ^ k ^^^ y / 2 ^ k := by
  have := Nat.shiftRight_xor_distrib (a := x) (b := y) (i := k)
  simpa [Nat.shiftRight_eq_div_pow] using this

theorem leB_xor : ∀ (n x y : Nat), leB n (x ^^^ y) = xorB (leB n x) (leB n y)
  | 0, _, _ => rfl
  | n + 1, x, y => by
    have h1 := xor_mod 8 x y
    have h2 := xor_div 8 x y
    simp only [show (2 : Nat) ^ 8 = 256 from rfl] at h1 h2
    show UInt8.ofNat ((x ^^^ y) % 256) :: leB n ((x ^^^ y) / 256) = (UInt8.ofNat (x % 256) ^^^ UInt8.ofNat (y % 256)) :: xorB (leB n (x / 256)) (leB n (y / 256))
    rw [h1, h2, leB_xor n]
    congr 1
    apply UInt8.toNat_inj.1
    rw [UInt8.toNat_xor]
    have h3 : x % 256 ^^^ y % 256 < 2 ^ 8 := Nat.xor_lt_two_pow (by omega) (by omega)
    simp [Nat.mod_eq_of_lt (show x % 256 ^^^ y % 256 < 256 from h3)]

theorem leB_zero : ∀ n, leB n 0 = List.replicate n 0
  | 0 => rfl
  | n + 1 => by rw [leB, List.replicate_succ]; simp [leB_zero n]

/-- One bit more. -/
theorem xorB_bit : ∀ (xs : List UInt8) (p : Nat), p < 8 * xs.length → xorB xs (leB xs.length (2 ^ p)) = xs.set (p / 8) (xs.getD (p / 8) 0 ^^^ UInt8.ofNat (2 ^ (p % 8)))
  | [], p, h => by simp at h
  | x :: xs, p, h => by
    by_cases hp : p < 8
    · have h1 : (2 : Nat) ^ p < 256 := by
        calc (2 : Nat) ^ p ≤ 2 ^ 7 := Nat.pow_le_pow_right (by omega) (by omega)
          _ < 256 := by decide
      have e0 : p / 8 = 0 := by omega
      have e1 : p % 8 = p := by omega
      show (x ^^^ UInt8.ofNat (2 ^ p % 256)) :: xorB xs (leB xs.length (2 ^ p / 256)) = _
      rw [Nat.mod_eq_of_lt h1, Nat.div_eq_of_lt h1, leB_zero, xorB_zeros, e0, e1]
      rfl
    · have hq : 2 ^ p = 256 * 2 ^ (p - 8) := by
        rw [show (256 : Nat) = 2 ^ 8 from rfl, ← Nat.pow_add]
        congr 1; omega
      have e0 : p / 8 = (p - 8) / 8 + 1 := by omega
      have e1 : p % 8 = (p - 8) % 8 := by omega
      show (x ^^^ UInt8.ofNat (2 ^ p % 256)) :: xorB xs (leB xs.length (2 ^ p / 256)) = _
      rw [hq, Nat.mul_mod_right, Nat.mul_div_cancel_left _ (by omega), xorB_bit xs (p - 8) (by simp at h; omega), e0, e1]
      simp

end Go.Proofs.YtbhncffeoolhfaaDoor
