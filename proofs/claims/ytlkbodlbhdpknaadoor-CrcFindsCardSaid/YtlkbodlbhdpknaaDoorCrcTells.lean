/- The walks of wakes and of the law CrcTells. -/
import Derived.Test.YtlkbodlbhdpknaaDoorCrcCode
import Derived.Lib.SlBytesConst
namespace Go.Proofs.YtlkbodlbhdpknaaDoor
open Go.RowKit

theorem check_value : crcSum [49, 50, 51, 52, 53, 54, 55, 56, 57] = 3808858755 := by decide +kernel
theorem sum_none : crcSum [] = 0 := by decide

set_option maxHeartbeats 1000000 in
theorem wakes_any (w : World) (hT : Tab w) : Calls Tryd.prog 5 #[] w fun e W' => e = .returned (.bool true) ∧ Below w.heap.size w W' := by
  have HT := Lib.hid hT
  clear hT
  have kc := fun (w : World) (C : Array Value) (n c : Nat) => Lib.run_convert_bytes_const (P := Tryd.prog) w 22 5 C n c Tryd.underlying22 Tryd.underlying5
  go_enter Tryd.func5, Tryd.ntmps5
  go_wp2_with fail
  refine (Sum_any _ 9 9 [49, 50, 51, 52, 53, 54, 55, 56, 57] rfl (by omega) _ (HT.out.grew ((Below.refl _ _).alloc (Nat.le_refl _) _)) ?_).mono ?_
  · intro _
    refine ⟨w.heap.size, 0, rfl, by simp, fun i hi => ?_⟩
    rw [World.cell?_alloc_mark]
    rcases i with _ | _ | _ | _ | _ | _ | _ | _ | _ | i
    all_goals first | rfl | (simp at hi; omega)
  rintro e W1 ⟨rfl, hg1⟩
  rw [check_value]
  have B1 := Lib.hid (((Below.refl w.heap.size w).alloc (Nat.le_refl _) _).trans (Below.mono hg1 (by simp)))
  clear hg1 kc
  go_wp2_with fail
  refine (Sum_any none 0 0 [] rfl (by omega) W1 (HT.out.grew B1.out) (HasA.nil _ _ _)).mono ?_
  rintro e W2 ⟨rfl, hg2⟩
  rw [sum_none]
  have B2 := Lib.hid (B1.out.trans (Below.mono hg2 B1.out.size))
  clear hg2 B1
  go_wp2
  go_ret
  exact ⟨rfl, B2.out⟩

set_option maxHeartbeats 2000000 in
theorem Tells_any (A1 : Option Addr) (L1 c1 : Nat) (a : List UInt8) (hL1 : L1 = a.length) (hLm1 : L1 ≤ maxLen) (A2 : Option Addr) (L2 c2 : Nat) (b : List UInt8) (hL2 : L2 = b.length) (hLm2 : L2 ≤ maxLen) (w : World) (hT : Tab w) (hA1 : HasA w w.heap.size A1 a) (hA2 : HasA w w.heap.size A2 b) :
    Calls Tryd.prog 3 #[.slice A1 L1 c1, .slice A2 L2 c2] w fun e W' => e = .returned (.bool true) ∧ Below w.heap.size w W' := by
  obtain ⟨i0, hi, hz0, hz1, hz2⟩ := info_parts info5
  unfold maxLen at hLm1 hLm2
  have HT := Lib.hid hT
  clear hT
  have HL1 := Lib.hid hL1
  have HL2 := Lib.hid hL2
  clear hL1 hL2
  by_cases hlong : 5000 < L1
  · have hl : (5000 : Int) < L1 := by omega
    go_enter Tryd.func3, Tryd.ntmps3
    go_wp2_with (go_at_call 5; refine (wakes_any _ HT.out).mono ?_; rintro e W' ⟨rfl, hb⟩)
    go_ret
    exact ⟨rfl, hb⟩
  · have hl : ¬ (5000 : Int) < L1 := by omega
    by_cases hlong2 : 5000 < L2
    · have hl2 : (5000 : Int) < L2 := by omega
      go_enter Tryd.func3, Tryd.ntmps3
      go_wp2_with (go_at_call 5; refine (wakes_any _ HT.out).mono ?_; rintro e W' ⟨rfl, hb⟩)
      go_ret
      exact ⟨rfl, hb⟩
    · have hl2 : ¬ (5000 : Int) < L2 := by omega
      have HA1 := Lib.hid hA1
      have HA2 := Lib.hid hA2
      clear hA1 hA2
      go_enter Tryd.func3, Tryd.ntmps3
      go_wp2_with (first
        | (at_builtin; refine wpList_append_has rfl (.const (.slice none 0 0)) (.tmp 15) 22 rfl w.heap.size 5 i0 Tryd.underlying22 hi hz0 hz1 hz2 (.slice none 0 0) 0 [] rfl (World.ownsRow_nil _ _ _ _) w.heap.size _ L1 c1 a rfl HL1.out HA1.out (by omega) (Nat.le_refl _) ?_; intro v1 W1 hown1 hg1; have HO1 := Lib.hid hown1; have HG1 := Lib.hid hg1; have B1 := Lib.hid ((Below.refl w.heap.size w).grown hg1 (Nat.le_refl _) (fun k e => by cases e)); have HA21 := Lib.hid (HA2.out.below B1.out); clear hown1 hg1)
        | (at_builtin; refine wpList_append_has rfl (.tmp 16) (.tmp 17) 22 rfl w.heap.size 5 i0 Tryd.underlying22 hi hz0 hz1 hz2 v1 (0 + L1) ([] ++ a) rfl HO1.out w.heap.size _ L2 c2 b rfl HL2.out HA21.out (by omega) B1.out.size ?_; intro v2 W2 hown2 hg2; have hO2 : W2.ownsRow w.heap.size 5 1 v2 (L1 + L2) ((a ++ b).map enc) := by simpa using hown2
           have hB2 : Below w.heap.size w W2 := B1.out.grown hg2 B1.out.size (fun k e => (HO1.out.lt k e).1)
           have hf : ∃ A c, v2 = .slice A (L1 + L2) c := by
             rcases hO2.2 with ⟨rfl, h0⟩ | ⟨g, cap, cur, rfl, _⟩
             · exact ⟨none, 0, by rw [h0]⟩
             · exact ⟨_, _, rfl⟩
           obtain ⟨A3, c3, rfl⟩ := hf
           have HB2 := Lib.hid hB2
           have HA3 := Lib.hid (HasA.of_own hO2)
           have HL3 := Lib.hid (own_len hO2)
           clear hown2 hg2 hB2 hO2)
        | fail)
      have HA1' := Lib.hid (HA1.out.below' HB2.out)
      have HA2' := Lib.hid (HA2.out.below' HB2.out)
      have hl3 : L1 + L2 ≤ 10000 := by omega
      have hsl := crcSum_lt a
      refine (Sum_any A1 L1 c1 a HL1.out (by omega) W2 (HT.out.grew HB2.out) HA1'.out).mono ?_
      rintro e W3 ⟨rfl, hg3⟩
      have B3 := Lib.hid (HB2.out.trans (Below.mono hg3 HB2.out.size))
      have HX1 := Lib.hid (HA1'.out.below' hg3)
      have HX2 := Lib.hid (HA2'.out.below' hg3)
      have HX3 := Lib.hid (HA3.out.below' hg3)
      clear hg3 HA1' HA2' HA3 HB2 B1 HO1 HG1 HA21
      go_wp2_with fail
      refine (ref_Sum A1 L1 c1 a HL1.out (by omega) W3 HX1.out).mono ?_
      rintro e w3 ⟨rfl, rfl⟩
      go_wp2_with fail
      refine (ref_Sum A1 L1 c1 a HL1.out (by omega) W3 HX1.out).mono ?_
      rintro e w3 ⟨rfl, rfl⟩
      go_wp2_with fail
      refine (More_any A2 L2 c2 (crcSum a) b hsl HL2.out (by omega) W3 (HT.out.grew B3.out) HX2.out).mono ?_
      rintro e W4 ⟨rfl, hg4⟩
      rw [crcSum_more]
      have B4 := Lib.hid (B3.out.trans (Below.mono hg4 B3.out.size))
      have HY3 := Lib.hid (HX3.out.below' hg4)
      clear hg4 HX1 HX2 HX3 B3
      go_wp2_with fail
      refine (ref_Sum A3 (L1 + L2) c3 (a ++ b) HL3.out (by omega) W4 HY3.out).mono ?_
      rintro e w4 ⟨rfl, rfl⟩
      go_wp2_with fail
      refine (Sum_any A3 (L1 + L2) c3 (a ++ b) HL3.out (by omega) W4 (HT.out.grew B4.out) HY3.out).mono ?_
      rintro e W5 ⟨rfl, hg5⟩
      have B5 := Lib.hid (B4.out.trans (Below.mono hg5 B4.out.size))
      have HZ3 := Lib.hid (HY3.out.below' hg5)
      clear hg5 HY3 B4
      go_wp2_with fail
      refine (ref_Sum A3 (L1 + L2) c3 (a ++ b) HL3.out (by omega) W5 HZ3.out).mono ?_
      rintro e w5 ⟨rfl, rfl⟩
      go_wp2_with fail
      refine (wakes_any W5 (HT.out.grew B5.out)).mono ?_
      rintro e W6 ⟨rfl, hb6⟩
      have B6 := Lib.hid (B5.out.trans (hb6.mono B5.out.size))
      clear hb6 B5
      go_wp2
      go_ret
      exact ⟨rfl, B6.out⟩
end Go.Proofs.YtlkbodlbhdpknaaDoor
