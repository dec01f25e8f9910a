/- The walk of the law FrameTells. -/
import Derived.Test.YtbhncffeoolhfaaDoorFrTellsR
import Derived.Test.YtbhncffeoolhfaaDoorFrCmp
import Derived.LoopTactic
import Derived.RegionTactic
namespace Go.Proofs.YtbhncffeoolhfaaDoor
open Go.RowKit

/-- The answer of taking, without a case. -/
def tkX : TRes → List UInt8 | .ok x _ => x | .err _ => []
def tkN : TRes → Nat | .ok _ n => n | .err _ => 0
def tkE : TRes → Nat | .ok _ _ => 0 | .err e => e
theorem TakePost.all {w : World} {bs : List UInt8} {e : Ending} {W' : World} (h : TakePost w bs e W') :
    ∃ A L c, e = .returned (.tuple #[.slice A L c, .int .i64 (tkN (tk bs) : Int), .int .i64 (tkE (tk bs) : Int)]) ∧ L = (tkX (tk bs)).length ∧ HasA W' W'.heap.size A (tkX (tk bs)) ∧ Below w.heap.size w W' := by
  rcases h with ⟨x, n, v, h1, h2, ⟨A, L, c, rfl, hL, hA⟩, h4⟩ | ⟨k, v, h1, h2, ⟨A, L, c, rfl, hL, hA⟩, h4⟩
  · exact ⟨A, L, c, by rw [h1]; exact h2, by rw [h1]; exact hL, by rw [h1]; exact hA, h4⟩
  · exact ⟨A, L, c, by rw [h1]; exact h2, by rw [h1]; exact hL, by rw [h1]; exact hA, h4⟩

set_option maxRecDepth 100000 in
set_option maxHeartbeats 4000000 in
theorem FTells_any (hP : PutSpec) (hK : TakeSpec) (hAl : AllSpec) (A1 : Option Addr) (L1 c1 : Nat) (x : List UInt8) (hL1 : L1 = x.length) (hLm1 : L1 ≤ maxLen) (A2 : Option Addr) (L2 c2 : Nat) (y : List UInt8) (hL2 : L2 = y.length) (hLm2 : L2 ≤ maxLen) (hc1 : L1 ≤ c1) (hc2 : L2 ≤ c2) (w : World) (hT : Tab w) (hA1 : HasA w w.heap.size A1 x) (hA2 : HasA w w.heap.size A2 y) :
    Calls Tryd.prog 3 #[.slice A1 L1 c1, .slice A2 L2 c2] w fun e W' => e = .returned (.bool true) ∧ Below w.heap.size w W' := by
  obtain ⟨i0, hi, hz0, hz1, hz2⟩ := info_parts info5
  unfold maxLen at hLm1 hLm2
  have HT := Lib.hid hT
  have HP := Lib.hid hP
  have HK := Lib.hid hK
  have HAl := Lib.hid hAl
  have HL1 := Lib.hid hL1
  have HL2 := Lib.hid hL2
  clear hL1 hL2 hT hP hK hAl
  by_cases hlong : 2000 < L1
  · have hl : (2000 : Int) < L1 := by omega
    go_enter Tryd.func3, Tryd.ntmps3
    go_wp2_with (go_at_call 6; refine (wakes3 HP.out HK.out _ HT.out).mono ?_; rintro e W' ⟨rfl, hb⟩)
    go_ret
    exact ⟨rfl, hb⟩
  have hl : ¬ (2000 : Int) < L1 := by omega
  by_cases hlong2 : 2000 < L2
  · have hl2 : (2000 : Int) < L2 := by omega
    go_enter Tryd.func3, Tryd.ntmps3
    go_wp2_with (go_at_call 6; refine (wakes3 HP.out HK.out _ HT.out).mono ?_; rintro e W' ⟨rfl, hb⟩)
    go_ret
    exact ⟨rfl, hb⟩
  have hl2 : ¬ (2000 : Int) < L2 := by omega
  have HA1 := Lib.hid hA1
  have HA2 := Lib.hid hA2
  clear hA1 hA2
  have hfl : (frm y).length ≤ 3000 := by
    rw [frm_length, ← HL2.out]
    have := vb_len10 (n := L2) (by omega)
    omega
  go_enter Tryd.func3, Tryd.ntmps3
  go_wp2_with (first
    | (at_builtin; refine wpList_append_has rfl (.const (.slice none 0 0)) (.tmp 30) 22 rfl w.heap.size 5 i0 Tryd.underlying22 hi hz0 hz1 hz2 (.slice none 0 0) 0 [] rfl (World.ownsRow_nil _ _ _ _) w.heap.size _ L1 c1 x rfl HL1.out HA1.out (by omega) (Nat.le_refl _) ?_; intro v1 W1 hown1 hg1
       have hO1 : W1.ownsRow w.heap.size 5 1 v1 L1 (x.map enc) := by simpa using hown1
       have hB1 : Below w.heap.size w W1 := (Below.refl w.heap.size w).grown hg1 (Nat.le_refl _) (fun k e => by cases e)
       have hform : ∃ Ax cx, v1 = .slice Ax L1 cx := by
         rcases hO1.2 with ⟨rfl, h0⟩ | ⟨g, cap, cur, rfl, _⟩
         · exact ⟨none, 0, by rw [h0]⟩
         · exact ⟨_, _, rfl⟩
       obtain ⟨Ax, cx, rfl⟩ := hform
       have HO1 := Lib.hid hO1
       have B1 := Lib.hid hB1
       clear hown1 hg1 hO1 hB1)
    | fail)
  refine (HP.out Ax L1 cx x A2 L2 c2 y W1 HL1.out (by omega) (own_cap HO1.out) HL2.out (by omega) hc2 (HT.out.grew B1.out) (HasA.of_own HO1.out) (HA2.out.below' B1.out)).mono ?_
  rintro e W2 (⟨hfit, g2, L3, c3, rfl, hown2, hb2⟩ | ⟨hfit, v2, rfl, hv2, hb2⟩)
  all_goals first
    | (
        have h20 : ((L2 : Int) == 0) = false := by have := hfit.1; rw [← HL2.out] at this; simp; omega
        have B2 := Lib.hid (B1.out.trans (hb2.mono B1.out.size))
        have H2 := Lib.hid hown2
        clear hown2 hb2
        go_wp2_with fail
        refine ftells_region A1 L1 c1 x A2 L2 c2 y _ L3 c3 HL1.out (by omega) HL2.out (by omega) (own_len H2.out) hfl _ W2 _ rfl rfl rfl rfl rfl (HA1.out.below' B2.out) (HA2.out.below' B2.out) (HasA.of_own H2.out) ?_
        intro v56 W3 hv56 hg3
        have B3 := Lib.hid (B2.out.trans (Below.mono hg3 B2.out.size))
        clear hv56 hg3 H2 B2 h20
        simp only [puts, List.foldl_cons, List.foldl_nil, Act.put, List.setIfInBounds_toArray, List.set_cons_succ, List.set_cons_zero]
        go_wp2_with fail)
    | (
        have h20 : ((L2 : Int) == 0) = true := by
          have : ¬ (1 ≤ y.length) := fun h => hfit ⟨h, by rw [← HL2.out]; omega⟩
          rw [← HL2.out] at this; simp; omega
        have B3 := Lib.hid (B1.out.trans (hb2.mono B1.out.size))
        have k1 := IsB.conv hv2
        have k2 := run_conv (P := Tryd.prog) (HA1.out.below' B3.out) c1 Tryd.underlying22 Tryd.underlying5 Tryd.underlying9 HL1.out
        obtain ⟨A3, L3, c3, rfl, -⟩ := hv2
        have k3 := run_neq W2 x x
        have kx : (x != x) = false := by simp
        rw [kx] at k3
        clear hb2
        go_wp2_with fail
        clear k1 k2 k3 kx h20
        obtain ⟨W3, hW3⟩ : ∃ W3, W3 = W2 := ⟨_, rfl⟩
        subst hW3)
  all_goals
    refine (HK.out A1 L1 c1 x W3 HL1.out (by omega) hc1 (HT.out.grew B3.out) (HA1.out.below' B3.out)).mono ?_
    intro e W4 htk
    obtain ⟨A4, L4, c4, rfl, hL4, hA4, hb4⟩ := htk.all
    have B4 := Lib.hid (B3.out.trans (hb4.mono B3.out.size))
    have HL4 := Lib.hid hL4
    have HA4 := Lib.hid hA4
    clear htk hL4 hA4 hb4 B3
    go_wp2_with fail
    refine (ref_FTake A1 L1 c1 x HL1.out (by omega) hc1 W4 W4.heap.size (Nat.le_refl _) (HA1.out.below' B4.out)).mono ?_
    intro e W5 htk
    obtain ⟨A5, L5, c5, rfl, hL5, hA5, hb5⟩ := (htk.post (Nat.le_refl _)).all
    have B5 := Lib.hid (B4.out.trans (hb5.mono B4.out.size))
    have k1 := run_conv (P := Tryd.prog) (HA4.out.below' hb5) c4 Tryd.underlying22 Tryd.underlying5 Tryd.underlying9 HL4.out
    have k2 := run_conv (P := Tryd.prog) hA5 c5 Tryd.underlying22 Tryd.underlying5 Tryd.underlying9 hL5
    have k3 := run_neq W5 (tkX (tk x)) (tkX (tk x))
    rw [show (tkX (tk x) != tkX (tk x)) = false by simp] at k3
    clear htk hL5 hA5 hb5 HL4 HA4 B4
    go_wp2_with fail
    clear k1 k2 k3
    refine (HAl.out A1 L1 c1 x W5 HL1.out (by omega) hc1 (HT.out.grew B5.out) (HA1.out.below' B5.out)).mono ?_
    rintro e W6 ⟨v6, rfl, ⟨A6, L6, c6, rfl, hL6, hI6⟩, hb6⟩
    have B6 := Lib.hid (B5.out.trans (hb6.mono B5.out.size))
    have HL6 := Lib.hid hL6
    have HI6 := Lib.hid (show IsBB W6 (.slice A6 L6 c6) (al x).1 from ⟨A6, L6, c6, rfl, hL6, hI6⟩)
    clear hL6 hI6 hb6 B5
    go_wp2_with fail
    refine (ref_FAll A1 L1 c1 x HL1.out (by omega) hc1 W6 (HA1.out.below' B6.out)).mono ?_
    rintro e W7 ⟨v7, rfl, ⟨A7, L7, c7, rfl, hL7, hI7⟩, hb7⟩
    obtain rfl : L7 = L6 := hL7.trans HL6.out.symm
    have B7 := Lib.hid (B6.out.trans (hb7.mono B6.out.size))
    have HI7 := Lib.hid (show IsBB W7 (.slice A7 L7 c7) (al x).1 from ⟨A7, L7, c7, rfl, hL7, hI7⟩)
    have HI67 := Lib.hid (HI6.out.grew hb7)
    have hl7 : L7 ≤ 2000 := by
      have := al_count x
      have := HL6.out
      have := HL1.out
      omega
    have hl7i : (L7 : Int) ≤ 2000 := by omega
    clear hL7 hI7 hb7 B6 HI6
    go_wp2_with fail
    go_loopw [19] (fun k wr => ∃ q : Nat, q ≤ L7 ∧ k = .int .i64 (q : Int) ∧ Hid (Below W7.heap.size W7 wr)) (fun k _ => L7 - (intOf k).toNat)
    case atStart => exact ⟨0, Nat.zero_le _, rfl, Lib.hid (Below.refl _ _)⟩
    case round =>
      obtain ⟨q, hq, rfl, hbw⟩ := hrel
      by_cases hlt : q < L7
      · have hqi : (q : Int) < L7 := by omega
        have hqx : q < (al x).1.length := by rw [← HL6.out]; exact hlt
        have hne : (al x).1 ≠ [] := by intro h0; rw [h0] at hqx; simp at hqx
        obtain ⟨A6', L6', c6', hv6, hL6', hI6⟩ := HI67.out
        cases hv6
        obtain ⟨b6, o6, rfl, hb6, hc6⟩ := hI6 hne
        obtain ⟨u6, hu6, A8, L8, c8, rfl, hL8, hA8⟩ := hc6 q hqx
        obtain ⟨A7', L7', c7', hv7, hL7', hI7⟩ := HI7.out
        cases hv7
        obtain ⟨b7, o7, rfl, hb7, hc7⟩ := hI7 hne
        obtain ⟨u7, hu7, A9, L9, c9, rfl, hL9, hA9⟩ := hc7 q hqx
        have HU6 := Lib.hid ((hbw.out.cell (p := ⟨b6, o6 + q, none⟩) hb6).trans hu6)
        have HU7 := Lib.hid ((hbw.out.cell (p := ⟨b7, o7 + q, none⟩) hb7).trans hu7)
        have HB6 := Lib.hid (Nat.lt_of_lt_of_le hb6 hbw.out.size)
        have HB7 := Lib.hid (Nat.lt_of_lt_of_le hb7 hbw.out.size)
        have HL8 := Lib.hid hL8
        have HL9 := Lib.hid hL9
        have HA8 := Lib.hid (hA8.below' hbw.out)
        have HA9 := Lib.hid (hA9.below' hbw.out)
        clear hu6 hu7 hc6 hc7 hI6 hI7 hL6' hL7' hL8 hL9 hA8 hA9 hb6 hb7 hne
        go_wp2
        refine ftells_cmp b6 o6 L7 c6 b7 o7 L7 c7 q A8 L8 c8 A9 L9 c9 ((al x).1[q]) hlt hlt HL8.out HL9.out _ wr _ rfl rfl rfl rfl HB6.out HB7.out HU6.out HU7.out HA8.out HA9.out ?_
        intro Wn hgn
        have HG := Lib.hid (hbw.out.trans (Below.mono hgn hbw.out.size))
        clear hgn
        simp only [puts, List.foldl_cons, List.foldl_nil, Act.put, List.setIfInBounds_toArray, List.set_cons_succ, List.set_cons_zero]
        go_wp2
        exact ⟨⟨q + 1, by omega, by congr 1, HG⟩, by simp only [intOf]; omega⟩
      · have hqi : ¬ (q : Int) < L7 := by omega
        have B8 := Lib.hid (B7.out.trans (hbw.out.mono B7.out.size))
        clear hbw
        go_wp2_with (go_at_call 6; refine (wakes3 HP.out HK.out wr (HT.out.grew B8.out)).mono ?_; rintro e W9 ⟨rfl, hb9⟩)
        go_ret
        exact ⟨rfl, B8.out.trans (hb9.mono B8.out.size)⟩
end Go.Proofs.YtbhncffeoolhfaaDoor
