/- Small facts on bits: or with 128, and-not with 128, a sum of parts that share no bit, complements. -/
import Derived.Laws.BitsAllLaws
import Derived.Laws.Bits64
import Derived.Laws.BitsLemmas
namespace Go.Proofs.Yteiednjhliobeaa

/-- A byte as a value. -/
def enc (b : UInt8) : Value := .int .u8 (b.toNat : Int)

set_option maxRecDepth 100000 in
theorem or128_fin : ∀ b : Fin 256, b.val ||| 128 = b.val % 128 + 128 := by decide
theorem or128 (b : Nat) (h : b < 256) : b ||| 128 = b % 128 + 128 := or128_fin ⟨b, h⟩
set_option maxRecDepth 100000 in
theorem and127_fin : ∀ b : Fin 256, b.val &&& 127 = b.val % 128 := by decide
theorem and127 (b : Nat) (h : b < 256) : b &&& 127 = b % 128 := and127_fin ⟨b, h⟩

theorem enc_ofNat {n : Nat} (h : n < 256) : enc (UInt8.ofNat n) = .int .u8 (n : Int) := by
  simp [enc, Nat.mod_eq_of_lt h]
theorem enc_hi (r : Nat) : Value.int .u8 (bits .or .u8 ((r : Int) % 256) 128) = enc (UInt8.ofNat (r % 128 + 128)) := by
  rw [enc_ofNat (by omega), u8_or _ _ (by omega) (by omega) (by omega) (by omega)]
  have e1 : ((r : Int) % 256).toNat = r % 256 := by omega
  have e2 : ((128 : Int)).toNat = 128 := rfl
  rw [e1, e2, or128 _ (by omega)]
  have : r % 256 % 128 = r % 128 := by omega
  rw [this]

theorem andNot128 (c : UInt8) : bits .andNot .u8 (c.toNat : Int) 128 = ((c.toNat % 128 : Nat) : Int) := by
  have hc := c.toNat_lt
  have := u8_andNot_nat c.toNat 128 (by omega) (by omega)
  rw [show ((128 : Nat) : Int) = 128 from rfl] at this
  rw [this, show 255 - 128 = 127 from rfl, and127 _ (by omega)]

theorem or_disjoint (a b i : Nat) (ha : a < 2 ^ i) : a ||| (b * 2 ^ i) = a + b * 2 ^ i := by
  rw [Nat.or_comm, Nat.mul_comm b, Nat.add_comm, Nat.two_pow_add_eq_or_of_lt ha]

theorem xor_ones (x : Nat) (h : x < 18446744073709551616) : 18446744073709551615 ^^^ x = 18446744073709551615 - x := by
  have h1 : (BitVec.allOnes 64 ^^^ BitVec.ofNat 64 x).toNat = 18446744073709551615 - x := by
    rw [BitVec.allOnes_xor, BitVec.toNat_not, BitVec.toNat_ofNat]
    omega
  rw [BitVec.toNat_xor, BitVec.toNat_allOnes, BitVec.toNat_ofNat, Nat.mod_eq_of_lt (by omega)] at h1
  exact h1

theorem not_u64 (x : Int) (h0 : 0 ≤ x) (h : x < 18446744073709551616) : bits .xor .u64 IntKind.u64.max x = 18446744073709551615 - x := by
  obtain ⟨n, rfl⟩ := Int.eq_ofNat_of_zero_le h0
  have e : IntKind.u64.max = ((18446744073709551615 : Nat) : Int) := by decide
  rw [e, u64_xor_nat _ _ (by omega) (by omega), xor_ones _ (by omega)]
  omega

theorem not_i64 (x : Int) (h0 : 0 ≤ x) (h : x < 9223372036854775808) : bits .xor .i64 (-1) x = -x - 1 := by
  obtain ⟨n, rfl⟩ := Int.eq_ofNat_of_zero_le h0
  have e : (BitVec.ofInt IntKind.i64.bits (-1) ^^^ BitVec.ofInt IntKind.i64.bits (n : Int)).toNat = 18446744073709551615 - n := by
    rw [BitVec.ofInt_natCast, BitVec.toNat_xor, BitVec.toNat_ofNat]
    show 18446744073709551615 ^^^ n % 18446744073709551616 = _
    rw [Nat.mod_eq_of_lt (by omega), xor_ones _ (by omega)]
  simp only [bits, e]
  rw [IntKind.wrap_i64]
  omega

theorem and1_u64 (u : Nat) (h : u < 18446744073709551616) : bits .and .u64 (u : Int) 1 = ((u % 2 : Nat) : Int) := by
  have := u64_and_nat u 1 h (by omega)
  rw [show ((1 : Nat) : Int) = 1 from rfl] at this
  rw [this, Nat.and_one_is_mod]

end Go.Proofs.Yteiednjhliobeaa
