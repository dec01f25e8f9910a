/- The contract of frame.lengthOf: the length that bytes begin with, if a frame may have it. -/
import Derived.Test.YtbhncffeoolhfaaDoorFrSpec
import Derived.Test.YtbhncffeoolhfaaDoorVar6
namespace Go.Proofs.YtbhncffeoolhfaaDoor
open Go.RowKit

/-- Ten bytes are enough to read a number. -/
theorem rd_take : ∀ (f i acc : Nat) (bs : List UInt8), (∀ n r, rd f i acc bs = .ok n r → ∃ r', rd f i acc (bs.take f) = .ok n r') ∧ (rd f i acc bs = .short → rd f i acc (bs.take f) = .short) ∧ (∀ r, rd f i acc bs = .form r → ∃ r', rd f i acc (bs.take f) = .form r')
  | 0, i, acc, bs => by simp [rd]
  | f + 1, i, acc, [] => by simp [rd]
  | f + 1, i, acc, c :: bs => by
    rw [List.take_succ_cons, rd, rd]
    by_cases h1 : (0 < i ∧ c.toNat = 0) ∨ (i = 9 ∧ 1 < c.toNat)
    · rw [if_pos h1, if_pos h1]; simp
    · rw [if_neg h1, if_neg h1]
      by_cases h2 : c.toNat < 128
      · rw [if_pos h2, if_pos h2]; simp
      · rw [if_neg h2, if_neg h2]
        exact rd_take f (i + 1) _ bs

def LenPost (w : World) (bs : List UInt8) (e : Ending) (W' : World) : Prop :=
  Below w.heap.size w W' ∧ ((∃ n rest, rdU bs = .ok n rest ∧ 1 ≤ n ∧ n ≤ 65536 ∧ e = .returned (.tuple #[.int .i64 (n : Int), .int .i64 0])) ∨
    (∃ k : Nat, tk bs = .err k ∧ k ≠ 0 ∧ e = .returned (.tuple #[.int .i64 0, .int .i64 (k : Int)])))

set_option maxHeartbeats 2000000 in
theorem lengthOf_cut (A : Option Addr) (L M c : Nat) (bs : List UInt8) (hL : L = bs.length) (hlen : L ≤ 1000000) (hcap : L ≤ c) (hM : M = min L 10) (w : World) (hA : HasA w w.heap.size A bs) :
    Calls Tryd.prog 25 #[.slice A L c] w (LenPost w bs) := by
  have hcs : bs.take 10 = bs.take M := by
    rw [hM, hL]
    rcases Nat.le_total bs.length 10 with h | h
    · rw [Nat.min_eq_left h, List.take_of_length_le h, List.take_of_length_le (Nat.le_refl _)]
    · rw [Nat.min_eq_right h]
  have hml : M = (bs.take 10).length := by rw [hM, List.length_take, hL, Nat.min_comm]
  have HML := Lib.hid hml
  have HA := Lib.hid (show HasA w w.heap.size A (bs.take 10) by rw [hcs]; exact hA.take M)
  have hm10 : M ≤ 10 := by rw [hM]; exact Nat.min_le_right _ _
  have hmi : (M : Int) ≤ 10 := by omega
  have hmc : (M : Int) ≤ c := by have := Nat.min_le_left L 10; omega
  have hmin : min (L : Int) 10 = (M : Int) := by omega
  have hli : (L : Int) ≤ 1000000 := by omega
  have hrd := rd_take 10 0 0 bs
  have HR := Lib.hid hrd
  clear hcs hml hL hA hM hrd
  go_enter Tryd.func25, Tryd.ntmps25
  go_wp2_with fail
  refine (New_any A M c 0 (bs.take 10) HML.out (by have := HML.out; omega) w HA.out).mono ?_
  rintro e W1 ⟨R, rfl, hR1, hRw, hB1⟩
  have HR1 := Lib.hid hR1
  have B1 := Lib.hid hB1
  clear hR1 hB1 hmin hmc
  go_wp2_with fail
  refine ((callsIn_wide (n := 3)).1 (UintR_in 3 (by omega) W1 R 0 (bs.take 10) HR1.out)).mono ?_
  rintro e W2 ⟨hg2, hcase⟩
  have B2 := Lib.hid (below_grown B1.out B1.out.size hRw hg2)
  clear hg2
  cases hr : rdU bs with
  | short =>
    rcases hcase with ⟨m, r, rfl, h1, h2⟩ | ⟨rfl, h1, h2⟩ | ⟨r, rfl, h1, h2⟩
    · exact absurd (h1.symm.trans (HR.out.2.1 hr)) (by simp)
    · have HT := Lib.hid (tk_of_short hr)
      have H2 := Lib.hid h2
      clear hr h1 h2
      go_wp2_with (go_at_call 32; refine (Err_any R 10 0 _ _ H2.out).mono ?_; rintro e w' ⟨rfl, rfl⟩)
      go_ret2
      exact ⟨B2.out, .inr ⟨10, HT.out, by omega, rfl⟩⟩
    · exact absurd (h1.symm.trans (HR.out.2.1 hr)) (by simp)
  | form r =>
    obtain ⟨r', hr'⟩ := HR.out.2.2 r hr
    rcases hcase with ⟨m, r, rfl, h1, h2⟩ | ⟨rfl, h1, h2⟩ | ⟨r, rfl, h1, h2⟩
    · exact absurd (h1.symm.trans hr') (by simp)
    · exact absurd (h1.symm.trans hr') (by simp)
    · have HT := Lib.hid (tk_of_form hr)
      have H2 := Lib.hid h2
      clear hr h1 h2 hr'
      go_wp2_with (go_at_call 32; refine (Err_any R 11 0 _ _ H2.out).mono ?_; rintro e w' ⟨rfl, rfl⟩)
      go_ret2
      exact ⟨B2.out, .inr ⟨11, HT.out, by omega, rfl⟩⟩
  | ok n rest =>
    obtain ⟨r', hr'⟩ := HR.out.1 n rest hr
    rcases hcase with ⟨m, r, rfl, h1, h2⟩ | ⟨rfl, h1, h2⟩ | ⟨r, rfl, h1, h2⟩
    · have h3 : m = n := by have := h1.symm.trans hr'; injection this
      subst h3
      have HT := Lib.hid (tk_of_ok hr)
      have HO := Lib.hid hr
      have H2 := Lib.hid h2
      clear hr h1 h2 hr'
      by_cases hn : 1 ≤ m ∧ m ≤ 65536
      · obtain ⟨hn1, hn2⟩ := hn
        have hz : ((m : Int) == 0) = false := by simp; omega
        have hn2i : ¬ (65536 : Int) < m := by omega
        go_wp2_with (go_at_call 32; refine (Err_any R 0 0 _ _ H2.out).mono ?_; rintro e w' ⟨rfl, rfl⟩)
        go_ret2
        exact ⟨B2.out, .inl ⟨m, rest, HO.out, hn1, hn2, rfl⟩⟩
      · have HT2 := Lib.hid (HT.out.trans (show tkR m rest = .err 11 by unfold tkR; rw [if_pos (by omega)]))
        rcases Nat.eq_zero_or_pos m with h0 | h0
        · subst h0
          go_wp2_with (go_at_call 32; refine (Err_any R 0 0 _ _ H2.out).mono ?_; rintro e w' ⟨rfl, rfl⟩)
          go_ret2
          exact ⟨B2.out, .inr ⟨11, HT2.out, by omega, rfl⟩⟩
        · have hz : ((m : Int) == 0) = false := by simp; omega
          have hn2i : (65536 : Int) < m := by omega
          clear hn
          go_wp2_with (go_at_call 32; refine (Err_any R 0 0 _ _ H2.out).mono ?_; rintro e w' ⟨rfl, rfl⟩)
          go_ret2
          exact ⟨B2.out, .inr ⟨11, HT2.out, by omega, rfl⟩⟩
    · exact absurd (h1.symm.trans hr') (by simp)
    · exact absurd (h1.symm.trans hr') (by simp)
theorem lengthOf_any (A : Option Addr) (L c : Nat) (bs : List UInt8) (hL : L = bs.length) (hlen : L ≤ 1000000) (hcap : L ≤ c) (w : World) (hA : HasA w w.heap.size A bs) :
    Calls Tryd.prog 25 #[.slice A L c] w (LenPost w bs) := lengthOf_cut A L _ c bs hL hlen hcap rfl w hA
end Go.Proofs.YtbhncffeoolhfaaDoor
