/- Plain mathematics of frames: what is put is taken, a frame that is cut ends too soon, a frame with a bit turned in its contents or its sum has another checksum; rows of frames. -/
import Derived.Test.YtbhncffeoolhfaaDoorMath
import Derived.Test.YtbhncffeoolhfaaDoorCrcMath
namespace Go.Proofs.YtbhncffeoolhfaaDoor

theorem leB_inj : ∀ (n x y : Nat), x < 256 ^ n → y < 256 ^ n → leB n x = leB n y → x = y
  | 0, x, y, hx, hy, _ => by simp at hx hy; omega
  | n + 1, x, y, hx, hy, h => by
    rw [leB, leB] at h
    injection h with h1 h2
    have h3 : x % 256 = y % 256 := by
      have := congrArg UInt8.toNat h1
      simpa using this
    have h4 := leB_inj n (x / 256) (y / 256) (Nat.div_lt_of_lt_mul (by rw [Nat.pow_succ] at hx; omega)) (Nat.div_lt_of_lt_mul (by rw [Nat.pow_succ] at hy; omega)) h2
    omega

/-- A frame: number, checksum, bytes. -/
def body (x : List UInt8) : List UInt8 := leB 4 (crcSum x) ++ x
def frm (x : List UInt8) : List UInt8 := vb x.length ++ body x
theorem body_length (x : List UInt8) : (body x).length = 4 + x.length := by simp [body, leB_length]
theorem frm_length (x : List UInt8) : (frm x).length = (vb x.length).length + (4 + x.length) := by simp [frm, body_length]
/-- Bytes that may be framed. -/
def Fit (x : List UInt8) : Prop := 1 ≤ x.length ∧ x.length ≤ 65536

/-- What taking the first frame comes to. -/
inductive TRes where
  | ok (x : List UInt8) (n : Nat)
  | err (e : Nat)

def tkR (n : Nat) (rest : List UInt8) : TRes :=
  if n < 1 ∨ 65536 < n then .err 11 else if rest.length < 4 + n then .err 10
  else if rest.take 4 = leB 4 (crcSum ((rest.drop 4).take n)) then .ok ((rest.drop 4).take n) ((vb n).length + (4 + n)) else .err 12
def tk (b : List UInt8) : TRes := match rdU b with
  | .short => .err 10
  | .form _ => .err 11
  | .ok n rest => tkR n rest

theorem tk_of_ok {b rest : List UInt8} {n : Nat} (h : rdU b = .ok n rest) : tk b = tkR n rest := by unfold tk; rw [h]
theorem tk_of_short {b : List UInt8} (h : rdU b = .short) : tk b = .err 10 := by unfold tk; rw [h]
theorem tk_of_form {b rest : List UInt8} (h : rdU b = .form rest) : tk b = .err 11 := by unfold tk; rw [h]

theorem tk_vb {n : Nat} (h : n ≤ 65536) (rest : List UInt8) : tk (vb n ++ rest) = tkR n rest := tk_of_ok (rdU_vb (by omega) rest)

theorem tk_frm (x rest : List UInt8) (h : Fit x) : tk (frm x ++ rest) = .ok x (frm x).length := by
  have h1 := h.1; have h2 := h.2
  rw [frm, List.append_assoc, tk_vb h.2, tkR, if_neg (by omega), if_neg (by rw [List.length_append, body_length]; omega)]
  have e1 : (body x ++ rest).take 4 = leB 4 (crcSum x) := by
    rw [body, List.append_assoc, List.take_left' (leB_length _ _)]
  have e2 : ((body x ++ rest).drop 4).take x.length = x := by
    rw [body, List.append_assoc, List.drop_left' (leB_length _ _), List.take_left]
  rw [e1, e2, if_pos rfl, List.length_append, body_length]

theorem tkR_ok {n m : Nat} {rest x : List UInt8} (h : tkR n rest = .ok x m) : Fit x ∧ n = x.length ∧ m = (frm x).length ∧ rest = body x ++ rest.drop (4 + n) := by
  unfold tkR at h
  split at h
  · cases h
  · rename_i h1
    split at h
    · cases h
    · rename_i h2
      split at h
      · rename_i h3
        injection h with hx hm
        have hxl : x.length = n := by rw [← hx, List.length_take, List.length_drop]; omega
        refine ⟨⟨by omega, by omega⟩, hxl.symm, by rw [← hm, frm_length, hxl], ?_⟩
        have e : body x = rest.take (4 + n) := by
          rw [body, ← hx, ← h3, List.take_add]
        rw [e, List.take_append_drop]
      · cases h

theorem tk_ok {b x : List UInt8} {m : Nat} (h : tk b = .ok x m) : Fit x ∧ m = (frm x).length ∧ b = frm x ++ b.drop m := by
  cases hr : rdU b with
  | short => rw [tk_of_short hr] at h; cases h
  | form r => rw [tk_of_form hr] at h; cases h
  | ok n rest =>
    rw [tk_of_ok hr] at h
    obtain ⟨hf, hn, hm, hrest⟩ := tkR_ok h
    obtain ⟨hb, _⟩ := rdU_ok hr
    have e : b = frm x ++ rest.drop (4 + n) := by rw [frm, List.append_assoc, ← hrest, hb, hn]
    refine ⟨hf, hm, ?_⟩
    rw [hm]
    conv => rhs; rhs; rw [e]
    rw [List.drop_left]; exact e
theorem tk_pos {b x : List UInt8} {m : Nat} (h : tk b = .ok x m) : 5 ≤ m ∧ m ≤ b.length := by
  obtain ⟨hf, hm, hb⟩ := tk_ok h
  have h1 := frm_length x
  have h2 := congrArg List.length hb
  rw [List.length_append] at h2
  have := hf.1
  omega

/-- A form that is cut ends too soon. -/
theorem rd_cut : ∀ (f i acc n k : Nat), f + i = 10 → n * 128 ^ i < 18446744073709551616 → (i = 0 ∨ 0 < n) → 0 < f → k < (vb n).length → rd f i acc ((vb n).take k) = .short
  | 0, _, _, _, _, _, _, _, h, _ => by omega
  | f + 1, i, acc, n, 0, _, _, _, _, _ => by simp [rd]
  | f + 1, i, acc, n, k + 1, hf, hn, h0, _, hk => by
    by_cases hlt : n < 128
    · rw [vb_lt hlt] at hk; simp at hk
    · rw [vb_ge (by omega)] at hk ⊢
      have e := toNat_ofNat_lt (n := n % 128 + 128) (by omega)
      simp only [List.take_succ_cons, rd, e]
      have hi : i < 9 := by
        rcases Nat.lt_or_ge i 9 with h | h
        · exact h
        · exfalso
          have h1 : (128 : Nat) ^ 9 ≤ 128 ^ i := Nat.pow_le_pow_right (by omega) h
          have h2 : (128 : Nat) ^ 9 = 9223372036854775808 := by decide
          have h3 : 128 * 128 ^ i ≤ n * 128 ^ i := Nat.mul_le_mul_right _ (by omega)
          omega
      have h9 : ¬ ((0 < i ∧ n % 128 + 128 = 0) ∨ (i = 9 ∧ 1 < n % 128 + 128)) := by omega
      rw [if_neg h9, if_neg (by omega)]
      have hs : n / 128 * 128 ^ (i + 1) ≤ n * 128 ^ i := by
        rw [Nat.pow_succ, Nat.mul_comm (128 ^ i) 128, ← Nat.mul_assoc]
        exact Nat.mul_le_mul_right _ (by omega)
      exact rd_cut f (i + 1) _ (n / 128) k (by omega) (by omega) (.inr (by omega)) (by omega) (by simpa using hk)

theorem tk_cut (x : List UInt8) (h : Fit x) (k : Nat) (hk : k < (frm x).length) : tk ((frm x).take k) = .err 10 := by
  have h1 := h.1; have h2 := h.2
  by_cases hv : k < (vb x.length).length
  · rw [frm, List.take_append_of_le_length (by omega)]
    exact tk_of_short (rd_cut 10 0 0 _ k rfl (by omega) (.inl rfl) (by omega) hv)
  · rw [frm, List.take_append, List.take_of_length_le (by omega), tk_vb h.2, tkR, if_neg (by omega), if_pos]
    rw [frm_length] at hk
    rw [List.length_take, body_length]; omega

theorem bit_ne (b : UInt8) (r : Nat) (hr : r < 8) : b ^^^ UInt8.ofNat (2 ^ r) ≠ b := by
  intro h
  have h1 := congrArg UInt8.toNat h
  rw [UInt8.toNat_xor] at h1
  have hp : (2 : Nat) ^ r < 256 := Nat.lt_of_le_of_lt (Nat.pow_le_pow_right (by omega) (show r ≤ 7 by omega)) (by decide)
  rw [toNat_ofNat_lt hp] at h1
  have h2 : b.toNat ^^^ (b.toNat ^^^ 2 ^ r) = b.toNat ^^^ b.toNat := by rw [h1]
  rw [← Nat.xor_assoc, Nat.xor_self, Nat.zero_xor] at h2
  have := Nat.two_pow_pos r
  omega

/-- Bytes with a bit turned. -/
def turn (bs : List UInt8) (q : Nat) : List UInt8 := bs.set (q / 8) (bs.getD (q / 8) 0 ^^^ UInt8.ofNat (2 ^ (q % 8)))
theorem turn_length (bs : List UInt8) (q : Nat) : (turn bs q).length = bs.length := by simp [turn]
theorem turn_ne (bs : List UInt8) (q : Nat) (h : q < 8 * bs.length) : turn bs q ≠ bs := by
  intro e
  have hq : q / 8 < bs.length := by omega
  have h1 : (turn bs q)[q / 8]? = bs[q / 8]? := by rw [e]
  simp only [turn, List.getElem?_set_self hq, List.getElem?_eq_getElem hq] at h1
  have h2 := Option.some.inj h1
  have h3 : bs.getD (q / 8) 0 = bs[q / 8] := by simp [List.getD, hq]
  rw [h3] at h2
  exact bit_ne _ _ (by omega) h2
theorem turn_left (as bs : List UInt8) (q : Nat) (h : q < 8 * as.length) : turn (as ++ bs) q = turn as q ++ bs := by
  have hq : q / 8 < as.length := by omega
  simp only [turn]
  rw [List.set_append_left _ _ hq]
  congr 2
  simp [List.getD, List.getElem?_append_left hq]
theorem turn_right (as bs : List UInt8) (q : Nat) : turn (as ++ bs) (8 * as.length + q) = as ++ turn bs q := by
  have h1 : (8 * as.length + q) / 8 = as.length + q / 8 := by omega
  have h2 : (8 * as.length + q) % 8 = q % 8 := by omega
  simp only [turn, h1, h2]
  rw [List.set_append_right _ _ (by omega), Nat.add_sub_cancel_left]
  congr 2
  simp [List.getD, List.getElem?_append_right]

theorem crc_turn (x : List UInt8) (q : Nat) (h : q < 8 * x.length) : crcSum (turn x q) ≠ crcSum x := by
  intro e
  have h1 : turn x q = xorB x (leB x.length (2 ^ q)) := (xorB_bit x q h).symm
  have h2 := crc_fault x q 1 (by omega) (by omega) (by
    rw [Nat.one_mul, show (256 : Nat) = 2 ^ 8 from rfl, ← Nat.pow_mul]
    exact Nat.pow_lt_pow_right (by omega) (by omega))
  rw [Nat.one_mul, ← h1] at h2
  exact absurd (h2.1 e) (by omega)

theorem tk_turn (x rest : List UInt8) (h : Fit x) (q : Nat) (hq : q < 8 * (4 + x.length)) : tk (vb x.length ++ (turn (body x) q ++ rest)) = .err 12 := by
  have h1 := h.1; have h2 := h.2
  rw [tk_vb h.2, tkR, if_neg (by omega), if_neg (by rw [List.length_append, turn_length, body_length]; omega), if_neg]
  intro hs
  have hl4 := leB_length 4 (crcSum x)
  by_cases h32 : q < 32
  · have e : turn (body x) q = turn (leB 4 (crcSum x)) q ++ x := turn_left _ _ _ (by omega)
    have hl : (turn (leB 4 (crcSum x)) q).length = 4 := by rw [turn_length, hl4]
    rw [e, List.append_assoc, List.take_left' hl, List.drop_left' hl, List.take_left] at hs
    exact turn_ne _ q (by omega) hs
  · have e : turn (body x) q = leB 4 (crcSum x) ++ turn x (q - 32) := by
      have := turn_right (leB 4 (crcSum x)) x (q - 32)
      rw [hl4, show 8 * 4 + (q - 32) = q by omega] at this
      exact this
    rw [e, List.append_assoc, List.take_left' hl4, List.drop_left' hl4, List.take_left' (turn_length _ _)] at hs
    have := leB_inj 4 _ _ (crcSum_lt _) (crcSum_lt _) hs
    exact crc_turn x (q - 32) (by omega) this.symm

/-- All frames. -/
def al (b : List UInt8) : List (List UInt8) × Nat × Nat :=
  if b = [] then ([], 0, 0) else match h : tk b with
    | .err e => ([], 0, e)
    | .ok x n => (x :: (al (b.drop n)).1, n + (al (b.drop n)).2.1, (al (b.drop n)).2.2)
termination_by b.length
decreasing_by all_goals (have := tk_pos h; simp; omega)

theorem al_nil : al [] = ([], 0, 0) := by rw [al]; simp
theorem al_err {b : List UInt8} {e : Nat} (hb : b ≠ []) (h : tk b = .err e) : al b = ([], 0, e) := by
  rw [al, if_neg hb]
  split
  · rename_i e' h'; rw [h] at h'; cases h'; rfl
  · rename_i x n h'; rw [h] at h'; cases h'
theorem al_ok {b x : List UInt8} {n : Nat} (h : tk b = .ok x n) : al b = (x :: (al (b.drop n)).1, n + (al (b.drop n)).2.1, (al (b.drop n)).2.2) := by
  have hb : b ≠ [] := by rintro rfl; have h5 := tk_pos h; rw [List.length_nil] at h5; omega
  rw [al, if_neg hb]
  split
  · rename_i e' h'; rw [h] at h'; cases h'
  · rename_i x' n' h'; rw [h] at h'; cases h'; rfl
theorem al_frm (x rest : List UInt8) (h : Fit x) : al (frm x ++ rest) = (x :: (al rest).1, (frm x).length + (al rest).2.1, (al rest).2.2) := by
  rw [al_ok (tk_frm x rest h), List.drop_left]

/-- A row of frames. -/
def frms (l : List (List UInt8)) : List UInt8 := (l.map frm).flatten
theorem frms_nil : frms [] = [] := rfl
theorem frms_cons (x : List UInt8) (l : List (List UInt8)) : frms (x :: l) = frm x ++ frms l := rfl
theorem frms_append (l m : List (List UInt8)) : frms (l ++ m) = frms l ++ frms m := by simp [frms]
theorem al_frms : ∀ (l : List (List UInt8)) (rest : List UInt8), (∀ x ∈ l, Fit x) → al (frms l ++ rest) = (l ++ (al rest).1, (frms l).length + (al rest).2.1, (al rest).2.2)
  | [], rest, _ => by simp [frms_nil]
  | x :: l, rest, h => by
    rw [frms_cons, List.append_assoc, al_frm x _ (h x (by simp)), al_frms l rest (fun y hy => h y (by simp [hy]))]
    simp [Nat.add_assoc]

theorem frm_ne (x : List UInt8) : frm x ≠ [] := by simp [frm, vb_ne]

/-- A row that is cut: those that are whole, and how far. -/
theorem al_cut (l : List (List UInt8)) (h : ∀ x ∈ l, Fit x) (n q : Nat) (hn : n ≤ (frms l).length) (hq : q ≤ l.length) (h1 : (frms (l.take q)).length ≤ n) (h2 : q = l.length ∨ n < (frms (l.take (q + 1))).length) :
    al ((frms l).take n) = (l.take q, (frms (l.take q)).length, if (frms (l.take q)).length = n then 0 else 10) := by
  have hsplit : frms l = frms (l.take q) ++ frms (l.drop q) := by rw [← frms_append, List.take_append_drop]
  have hfit : ∀ x ∈ l.take q, Fit x := fun x hx => h x (List.mem_of_mem_take hx)
  have e : (frms l).take n = frms (l.take q) ++ (frms (l.drop q)).take (n - (frms (l.take q)).length) := by
    rw [hsplit, List.take_append, List.take_of_length_le h1]
  rw [e, al_frms _ _ hfit]
  by_cases hz : (frms (l.take q)).length = n
  · rw [hz, Nat.sub_self, List.take_zero, al_nil, if_pos rfl]; simp
  · rw [if_neg hz]
    have hlt : q < l.length := by
      rcases Nat.lt_or_ge q l.length with h' | h'
      · exact h'
      · exfalso
        have : l.take q = l := List.take_of_length_le h'
        rw [this] at h1 hz; omega
    have hd : l.drop q = l[q] :: l.drop (q + 1) := List.drop_eq_getElem_cons hlt
    have ht : frms (l.take (q + 1)) = frms (l.take q) ++ frm l[q] := by
      rw [List.take_succ_eq_append_getElem hlt, frms_append]; simp [frms]
    have hk : n - (frms (l.take q)).length < (frm l[q]).length := by
      rcases h2 with h2 | h2
      · omega
      · rw [ht, List.length_append] at h2; omega
    have hne : (frms (l.drop q)).take (n - (frms (l.take q)).length) ≠ [] := by
      rw [hd, frms_cons]
      intro h0
      have h3 := congrArg List.length h0
      rw [List.length_take, List.length_append, List.length_nil] at h3
      omega
    have ht2 : (frms (l.drop q)).take (n - (frms (l.take q)).length) = (frm l[q]).take (n - (frms (l.take q)).length) := by
      rw [hd, frms_cons, List.take_append_of_le_length (by omega)]
    rw [al_err hne (by rw [ht2]; exact tk_cut _ (h _ (List.getElem_mem hlt)) _ hk)]
    simp

/-- A row with a bit turned in frame i's contents or sum. -/
theorem al_turn (l : List (List UInt8)) (h : ∀ x ∈ l, Fit x) (i q : Nat) (hi : i < l.length) (hq : q < 8 * (4 + (l[i]).length)) :
    al (turn (frms l) (8 * ((frms (l.take (i + 1))).length - (l[i]).length - 4) + q)) = (l.take i, (frms (l.take i)).length, 12) := by
  have hfx := h _ (List.getElem_mem hi)
  have ht : frms (l.take (i + 1)) = frms (l.take i) ++ frm l[i] := by
    rw [List.take_succ_eq_append_getElem hi, frms_append]; simp [frms]
  have hl : frms l = (frms (l.take i) ++ vb (l[i]).length) ++ (body l[i] ++ frms (l.drop (i + 1))) := by
    have h1 : frms l = frms (l.take i) ++ frms (l.drop i) := by rw [← frms_append, List.take_append_drop]
    rw [h1, List.drop_eq_getElem_cons hi, frms_cons, frm]; simp
  have hp : (frms (l.take (i + 1))).length - (l[i]).length - 4 = (frms (l.take i) ++ vb (l[i]).length).length := by
    rw [ht, List.length_append, frm_length, List.length_append]; omega
  rw [hp, hl, turn_right, turn_left _ _ _ (by rw [body_length]; exact hq), List.append_assoc, al_frms _ _ (fun x hx => h x (List.mem_of_mem_take hx))]
  rw [al_err (by simp [vb_ne]) (tk_turn _ _ hfx q hq)]
  simp
end Go.Proofs.YtbhncffeoolhfaaDoor
