/- The contract of the document's own checksum. -/
import Derived.Test.YtbhncffeoolhfaaDoorBase
import Derived.Test.YtbhncffeoolhfaaDoorCrcMath
import Derived.LoopTactic
namespace Go.Proofs.YtbhncffeoolhfaaDoor
open Go.RowKit

theorem and1_u32 (u : Nat) (h : u < 4294967296) : bits .and .u32 (u : Int) 1 = ((u % 2 : Nat) : Int) := by
  have := u32_and_nat u 1 h (by omega)
  rw [show ((1 : Nat) : Int) = 1 from rfl] at this
  rw [this, Nat.and_one_is_mod]

theorem take_snoc (bs : List UInt8) (k : Nat) (h : k < bs.length) : bs.take (k + 1) = bs.take k ++ [bs[k]] := by
  rw [List.take_succ_eq_append_getElem h]
theorem crcS_snoc (c : Nat) (bs : List UInt8) (b : UInt8) : crcS c (bs ++ [b]) = stps 8 (crcS c bs ^^^ b.toNat) := by rw [crcS_append]; rfl

set_option maxHeartbeats 1000000 in
theorem ref_Sum (A : Option Addr) (L c : Nat) (bs : List UInt8) (hL : L = bs.length) (hlen : L ≤ 1000000) (w : World) (hA : HasA w w.heap.size A bs) :
    Calls Tryd.prog 17 #[.slice A L c] w fun e w' => e = .returned (.int .u32 (crcSum bs : Int)) ∧ w = w' := by
  have HL := Lib.hid hL
  have HA := Lib.hid hA
  clear hL hA
  have hli : (L : Int) ≤ 1000000 := by omega
  go_enter Tryd.func17, Tryd.ntmps17
  go_wp2
  go_loop [3, 4] (fun t i => ∃ k : Nat, k ≤ L ∧ i = .int .i64 k ∧ t = .int .u32 ((crcS 4294967295 (bs.take k) : Nat) : Int)) (fun _ i => L - (intOf i).toNat)
  case atStart => exact ⟨0, Nat.zero_le _, rfl, rfl⟩
  case round =>
    obtain ⟨k, hk, rfl, rfl⟩ := hrel
    by_cases hlt : k < L
    · have hki : (k : Int) < L := by omega
      have hkb : k < bs.length := by have := HL.out; omega
      obtain ⟨b, o, rfl, _, hcell⟩ := HA.out (by rintro rfl; simp at hkb)
      have hc := hcell k hkb
      have hx : w.cell? ⟨b, o + k, none⟩ = some (.int .u8 (bs[k].toNat : Int)) := hc
      clear hcell hc
      obtain ⟨s, hs⟩ : ∃ s, s = crcS 4294967295 (bs.take k) := ⟨_, rfl⟩
      have hsl : s < 4294967296 := by rw [hs]; exact crcS_lt _ (by omega)
      have HS := Lib.hid hs
      rw [← hs]
      clear hs
      have hbl := bs[k].toNat_lt
      obtain ⟨y, hy⟩ : ∃ y, y = bs[k].toNat := ⟨_, rfl⟩
      have HY := Lib.hid hy
      rw [← hy] at hx hbl
      clear hy
      have hxor : s ^^^ y < 4294967296 := Nat.xor_lt_two_pow (n := 32) hsl (by omega)
      go_wp2
      go_loop [3, 5] (fun t j => ∃ q : Nat, q ≤ 8 ∧ j = .int .i64 q ∧ t = .int .u32 ((stps q (s ^^^ y) : Nat) : Int)) (fun _ j => 8 - (intOf j).toNat)
      case atStart =>
        refine ⟨0, Nat.zero_le _, rfl, ?_⟩
        rw [u32_xor_nat s y hsl (by omega)]; rfl
      case round =>
        obtain ⟨q, hq, rfl, rfl⟩ := hrel
        obtain ⟨z, hz⟩ : ∃ z, z = stps q (s ^^^ y) := ⟨_, rfl⟩
        have hzl : z < 4294967296 := by rw [hz]; exact stps_lt q hxor
        have HZ := Lib.hid hz
        rw [← hz]
        clear hz
        by_cases hq8 : q < 8
        · have hqi : (q : Int) < 8 := by omega
          have ha := and1_u32 z hzl
          by_cases hodd : z % 2 = 1
          · rw [hodd] at ha
            have hb : bits .and .u32 (z : Int) 1 = 1 := ha
            clear ha
            go_wp2
            refine ⟨⟨q + 1, by omega, by congr 1, ?_⟩, by simp only [intOf]; omega⟩
            rw [show ((z : Int) / 2) = ((z / 2 : Nat) : Int) by omega, show (2197175160 : Int) = ((2197175160 : Nat) : Int) from rfl, u32_xor_nat _ _ (by omega) (by omega), stps_succ, ← HZ.out]
            congr 2
            unfold stp
            rw [if_pos hodd]
          · have h0 : z % 2 = 0 := by omega
            rw [h0] at ha
            have hb : bits .and .u32 (z : Int) 1 = 0 := ha
            clear ha
            go_wp2
            refine ⟨⟨q + 1, by omega, by congr 1, ?_⟩, by simp only [intOf]; omega⟩
            rw [show ((z : Int) / 2) = ((z / 2 : Nat) : Int) by omega, stps_succ, ← HZ.out]
            congr 2
            unfold stp
            rw [if_neg hodd, Nat.xor_zero]
        · have hqi : ¬ (q : Int) < 8 := by omega
          obtain rfl : q = 8 := by omega
          go_wp2
          refine ⟨⟨k + 1, by omega, by congr 1, ?_⟩, by simp only [intOf]; omega⟩
          rw [take_snoc bs k hkb, crcS_snoc, ← HS.out, ← HY.out, ← HZ.out]
    · have hki : ¬ (k : Int) < L := by omega
      go_wp2
      go_ret
      have hkL : k = L := by omega
      refine ⟨ret_int ?_, rfl⟩
      have hall : bs.take k = bs := List.take_of_length_le (by have := HL.out; omega)
      rw [hall, show (4294967295 : Int) = ((4294967295 : Nat) : Int) from rfl, u32_xor_nat _ _ (crcS_lt _ (by omega)) (by omega)]
      rfl
end Go.Proofs.YtbhncffeoolhfaaDoor
