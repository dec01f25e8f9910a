/- The walk of the law that a window slides for ever. -/
import Derived.Test.YteeiiaahhoeohaaRgSlides
import Derived.Deep.CutBlock
namespace Go.Proofs.Yteeiiaahhoeohaa
open Go.RowKit

set_option maxRecDepth 100000 in
set_option maxHeartbeats 16000000 in
theorem Slides_any (KU : RingU) (K : RingS) (hB : BaseS K) (rm b0 : Nat) (hrm : rm < 256) (hb0 : b0 < 18446744073709551616) (A : Option Addr) (L c : Nat) (x : List UInt8) (hL : L = x.length) (hLm : L ≤ maxLen) (w : World) (hA : HasA w w.heap.size A x) :
    Calls Try.prog 4 #[.int .u8 (rm : Int), .int .u64 (b0 : Int), .slice A L c] w fun e W' => e = .returned (.bool true) ∧ Below w.heap.size w W' := by
  have KB := Lib.hid hB
  have HL := Lib.hid hL
  have HA := Lib.hid hA
  have hLm' : (L : Int) ≤ 9223372036854775807 := by simp only [maxLen] at hLm; omega
  have hrm' : (rm : Int) ≤ 255 := by omega
  have hb0' : (b0 : Int) ≤ 18446744073709551615 := by omega
  obtain ⟨m, hm⟩ : ∃ m, m = rm % 40 := ⟨_, rfl⟩
  have hmi : (rm : Int) % 40 = (m : Int) := by omega
  have hm40 : m < 40 := by omega
  have HM := Lib.hid hmi
  clear hB hL hA hLm hm hmi
  go_enter Try.func4, Try.ntmps4
  go_upto_region 2 with (fail)
  rw [HM.out]
  obtain ⟨N, hN⟩ : ∃ N, N = 1 + m := ⟨_, rfl⟩
  have hNi : (1 : Int) + (m : Int) = (N : Int) := by omega
  rw [hNi]
  have hN1 : (1 : Int) ≤ N := by omega
  have hN40 : (N : Int) ≤ 40 := by omega
  clear hN hNi hm40
  go_wp2_with fail
  refine (LiveR.new KU w N (by omega) (by omega)).mono ?_
  rintro e W1 ⟨R, rfl, hl1⟩
  have L1 := Lib.hid hl1
  clear hl1
  by_cases hbig : 100 < L ∨ 1152921504606846976 < b0
  · have HB := Lib.hid hbig
    by_cases h1 : 100 < L
    · have h1i : (100 : Int) < L := by omega
      clear hbig h1
      go_wp2_with fail
      refine (wakes7 K KB.out W1).mono ?_
      rintro e W20 ⟨rfl, hb20⟩
      have HB := Lib.hid (L1.out.below.trans (Below.mono hb20 L1.out.below.size))
      clear hb20
      go_wp2
      go_ret
      exact ⟨rfl, HB.out⟩
    · have h1i : ¬ (100 : Int) < L := by omega
      have h2i : (1152921504606846976 : Int) < b0 := by omega
      clear hbig h1
      go_wp2_with fail
      refine (wakes7 K KB.out W1).mono ?_
      rintro e W20 ⟨rfl, hb20⟩
      have HB := Lib.hid (L1.out.below.trans (Below.mono hb20 L1.out.below.size))
      clear hb20
      go_wp2
      go_ret
      exact ⟨rfl, HB.out⟩
  have h1i : ¬ (100 : Int) < L := by omega
  have h2i : ¬ (1152921504606846976 : Int) < b0 := by omega
  have hb1 : (b0 : Int) ≤ 1152921504606846976 := by omega
  have hL100 : (L : Int) ≤ 100 := by omega
  clear hbig
  go_wp2_with fail
  refine (L1.out.rel b0 (by omega)).mono ?_
  rintro e W2 ⟨he, hl2⟩
  rw [WS_new] at he hl2
  obtain rfl : e = .returned (.int .i64 0) := he
  have L2 := Lib.hid hl2
  clear hl2 L1
  go_wp2
  go_loopw [1, 10, 11] (fun v1 v10 i wr => ∃ k b nx : Nat, k ≤ L ∧ i = .int .i64 (k : Int) ∧ v1 = .int .u64 (b : Int) ∧ v10 = .int .u64 (nx : Int) ∧ b + 1 ≤ nx ∧ nx ≤ b + N + 1 ∧ b ≤ 1152921504606846976 + 40 * k ∧ Hid (LiveR KU w R (WS N b nx) wr)) (fun _ _ i _ => L - (intOf i).toNat)
  case atStart => exact ⟨0, b0, b0 + 1, Nat.zero_le _, rfl, rfl, by congr 1, by omega, by omega, by omega, L2⟩
  case round =>
    obtain ⟨k, b, nx, hk, rfl, rfl, rfl, hnx1, hnx2, hbk, LS⟩ := hrel
    by_cases hlt : k < L
    · have hki : (k : Int) < L := by omega
      have hbi : (b : Int) ≤ 1152921504606851000 := by omega
      have hkl : k < x.length := by rw [← HL.out]; exact hlt
      obtain ⟨ab, ao, eA, hab, hcA⟩ := HA.out (by rintro rfl; simp at hkl)
      subst eA
      obtain ⟨st, hst⟩ : ∃ st, st = (x[k]).toNat := ⟨_, rfl⟩
      have f0 : w.cell? ⟨ab, ao + k, none⟩ = some (.int .u8 (st : Int)) := by rw [hst]; exact hcA k hkl
      have hst8 : (st : Int) ≤ 255 := by have := (x[k]).toNat_lt; omega
      have F0 := Lib.hid f0
      clear hcA hst f0
      go_wp2
      go_loopw [10] (fun v10 wx => ∃ p : Nat, v10 = .int .u64 (p : Int) ∧ nx ≤ p ∧ p ≤ b + N + 1 ∧ Hid (LiveR KU w R (WS N b p) wx)) (fun v10 _ => b + N + 1 - (intOf v10).toNat)
      case atStart => exact ⟨nx, rfl, Nat.le_refl _, hnx2, LS⟩
      case round =>
        obtain ⟨p, rfl, hp1, hp2, LP⟩ := hrel
        have hpi : (p : Int) ≤ 1152921504606851100 := by omega
        by_cases hple : p ≤ b + N
        · have hpli : (p : Int) ≤ (b : Int) + (N : Int) := by omega
          have hset := WS_set N b p (by omega) hple
          have HSET := Lib.hid hset
          have hpm : ((p * 7 : Nat) : Int) = (p : Int) * 7 := by omega
          clear hset
          go_wp2_with fail
          rw [← hpm]
          refine (LP.out.set p (p * 7) (by omega)).mono ?_
          rintro e W3 ⟨he, hl3⟩
          rw [HSET.out] at he hl3
          obtain rfl : e = .returned (.int .i64 0) := he
          have L3 := Lib.hid hl3
          clear hl3 hpm
          go_wp2
          exact ⟨⟨p + 1, by congr 1, by omega, by omega, L3⟩, by simp only [intOf]; omega⟩
        · have hpe : p = b + N + 1 := by omega
          have hpli : ¬ (p : Int) ≤ (b : Int) + (N : Int) := by omega
          have hfull := WS_full N b p 1 (by omega)
          have HFU := Lib.hid hfull
          have HPE := Lib.hid hpe
          clear hfull hple hpe
          go_wp2_with fail
          refine (LP.out.set p 1 (by omega)).mono ?_
          rintro e W3 ⟨he, hl3⟩
          rw [HFU.out] at he hl3
          obtain rfl : e = .returned (.int .i64 30) := he
          have L3 := Lib.hid hl3
          clear hl3
          go_wp2_with fail
          refine L3.out.last.mono ?_
          rintro e W4 ⟨mm, hmm, he, hl4⟩
          have hm2 : mm = b + N := WS_last N b mm (by omega) (by rw [← HPE.out]; exact hmm)
          obtain rfl : e = .returned (.int .u64 ((b : Int) + (N : Int))) := he.trans (by rw [hm2]; simp)
          have L4 := Lib.hid hl4
          clear hl4 L3 hmm hm2 he
          go_wp2
          go_loopw [12] (fun v12 wx => ∃ q : Nat, v12 = .int .u64 (q : Int) ∧ b + 1 ≤ q ∧ q ≤ b + N + 1 ∧ Hid (LiveR KU w R (WS N b p) wx)) (fun v12 _ => b + N + 1 - (intOf v12).toNat)
          case atStart => exact ⟨b + 1, by congr 1, Nat.le_refl _, by omega, L4⟩
          case round =>
            obtain ⟨q, rfl, hq1, hq2, LQ⟩ := hrel
            have hqi : (q : Int) ≤ 1152921504606851100 := by omega
            by_cases hqle : q ≤ b + N
            · have hqli : (q : Int) ≤ (b : Int) + (N : Int) := by omega
              have ht : (WS N b p).t q = some (q * 7) := by simp only [WS]; rw [if_pos (by have := HPE.out; omega)]
              have HTQ := Lib.hid ht
              clear ht hqle
              go_wp2_with fail
              refine (LQ.out.get q (by omega)).mono ?_
              rintro e W5 ⟨he, hl5⟩
              rw [HTQ.out] at he
              obtain rfl : e = .returned (.tuple #[.int .u64 ((q : Int) * 7), .bool true]) := he.trans (by simp)
              have L5 := Lib.hid hl5
              clear hl5 he
              go_wp2
              exact ⟨⟨q + 1, by congr 1, by omega, by omega, L5⟩, by simp only [intOf]; omega⟩
            · have hqli : ¬ (q : Int) ≤ (b : Int) + (N : Int) := by omega
              have g0 := (LQ.out.below.cell (p := ⟨ab, ao + k, none⟩) hab).trans F0.out
              obtain ⟨T, hT⟩ : ∃ T : Nat, T = st % (N + 1) := ⟨_, rfl⟩
              have hTN : T ≤ N := by have := Nat.mod_lt st (show N + 1 > 0 by omega); omega
              have hTi : (st : Int) % ((N : Int) + 1) = (T : Int) := by rw [hT]; rfl
              have hTNi : (T : Int) ≤ N := by omega
              obtain ⟨B2, hB2⟩ : ∃ B2 : Nat, B2 = b + T := ⟨_, rfl⟩
              have hB2i : (b : Int) + (T : Int) = (B2 : Int) := by omega
              have hB2m : (B2 : Int) ≤ 1152921504606851100 := by omega
              have HB2 := Lib.hid (And.intro hB2 hTN)
              have hrel2 := WS_rel N b p B2 (by omega)
              have HREL := Lib.hid hrel2
              have ht2 : (WS N B2 p).t B2 = none := by simp only [WS]; rw [if_neg (by omega)]
              have HT2 := Lib.hid ht2
              clear hT hTN hB2 hrel2 ht2 hqle
              go_wp2_with fail
              refine (LQ.out.rel B2 (by omega)).mono ?_
              rintro e W5 ⟨he, hl5⟩
              rw [HREL.out] at he hl5
              obtain rfl : e = .returned (.int .i64 0) := he
              have L5 := Lib.hid hl5
              clear hl5 LQ
              go_wp2_with fail
              refine (L5.out.set B2 1 (by omega)).mono ?_
              rintro e W6 ⟨he, hl6⟩
              rw [WS_out] at he hl6
              obtain rfl : e = .returned (.int .i64 31) := he
              have L6 := Lib.hid hl6
              clear hl6 L5
              go_wp2_with fail
              refine (L6.out.get B2 (by omega)).mono ?_
              rintro e W7 ⟨he, hl7⟩
              rw [HT2.out] at he
              obtain rfl : e = .returned (.tuple #[.int .u64 0, .bool false]) := he
              have L7 := Lib.hid hl7
              clear hl7 L6
              go_wp2
              exact ⟨⟨k + 1, B2, p, by omega, by congr 1, rfl, rfl, by have := HPE.out; have := HB2.out; omega, by have := HPE.out; have := HB2.out; omega, by have := HB2.out; omega, L7⟩, by simp only [intOf]; omega⟩
    · obtain rfl : k = L := by omega
      clear hlt
      go_wp2_with fail
      refine (wakes7 K KB.out _).mono ?_
      rintro e W20 ⟨rfl, hb20⟩
      have HB := Lib.hid (LS.out.below.trans (Below.mono hb20 LS.out.below.size))
      clear hb20
      go_wp2
      go_ret
      exact ⟨rfl, HB.out⟩
end Go.Proofs.Yteeiiaahhoeohaa
