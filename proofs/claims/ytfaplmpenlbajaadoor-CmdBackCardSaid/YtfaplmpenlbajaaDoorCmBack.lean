/- The walk of the law CmdBack. -/
import Derived.Test.YtfaplmpenlbajaaDoorCmWakes
import Derived.Test.YtfaplmpenlbajaaDoorCmAll
namespace Go.Proofs.YtfaplmpenlbajaaDoor
open Go.RowKit

theorem CM.May.short {m : CM} (h : m.May) : m.Short := ⟨by have := h.len.2; have := mostK_le m.kd; omega, fun k hk => by have := (h.each k hk).2; omega, by have := h.old; omega, by have := h.new; omega⟩
theorem hasA_zero {w : World} : HasA (w.alloc (.cells #[.int .u8 0] 5)) (w.alloc (.cells #[.int .u8 0] 5)).heap.size (some ⟨w.heap.size, 0, none⟩) [0] := fun _ => by
  have h := World.alloc_heap_new w (.cells #[.int .u8 0] 5)
  refine ⟨w.heap.size, 0, rfl, (Array.getElem?_eq_some_iff.1 h).1, fun j hj => ?_⟩
  obtain rfl : j = 0 := by simpa using hj
  rw [blk_cell h]
  rfl
theorem sameAll_m {l k : List CmdV} (h : l.map CmdV.m = k.map CmdV.m) : sameAllC l k = true := by
  have hl : l.length = k.length := by have := congrArg List.length h; simpa using this
  refine sameAllC_yes hl (fun i h1 h2 => CmdV.same_m.2 ?_)
  have h3 : (l.map CmdV.m)[i]? = (k.map CmdV.m)[i]? := by rw [h]
  rw [List.getElem?_map, List.getElem?_map, List.getElem?_eq_getElem h1, List.getElem?_eq_getElem h2] at h3
  simpa using h3

set_option maxRecDepth 100000 in
set_option maxHeartbeats 8000000 in
theorem Back_any {T : World → Prop} (K : CmdK T) (A : Option Addr) (L c : Nat) (l : List CmdV) (Ab : Option Addr) (Lb cb : Nat) (bs : List UInt8) (w : World) (hT : T w) (hl : L = l.length) (hLc : L ≤ c) (hL : L ≤ 140737488351232) (hA : HasC w A l)
    (hLb : Lb = bs.length) (hLcb : Lb ≤ cb) (hLbm : Lb ≤ maxLen) (hAb : HasA w w.heap.size Ab bs) :
    Calls Tryd.prog 5 #[.slice A L c, .slice Ab Lb cb] w fun e W' => e = .returned (.bool true) ∧ Below w.heap.size w W' := by
  obtain ⟨i0, hi, hz0, hz1, hz2⟩ := info_parts info5
  have HL := Lib.hid (And.intro hl (And.intro hLc hL))
  have HA := Lib.hid hA
  have HTT := Lib.hid hT
  clear hT
  have HLb := Lib.hid (And.intro hLb hLcb)
  have HAb := Lib.hid hAb
  have hLbi : (Lb : Int) ≤ 9223372036854775807 := by simp only [maxLen] at hLbm; omega
  clear hl hLc hL hA hLb hLcb hAb
  go_enter Tryd.func5, Tryd.ntmps5
  go_wp2_with fail
  refine (GreatC_any A L c l HL.out.1 HL.out.2.2 w HA.out).mono ?_
  rintro e V1 ⟨he, hb⟩
  have B1 := Lib.hid hb
  cases hg : GreatB l with
  | true =>
    rw [hg] at he
    subst he
    clear hb hg
    go_wp2_with fail
    refine (wakes8 K _ (K.grew HTT.out B1.out)).mono ?_
    rintro e V9 ⟨rfl, hb9⟩
    have B9 := Lib.hid (B1.out.trans (Below.mono hb9 B1.out.size))
    clear hb9
    go_wp2
    go_ret
    exact ⟨rfl, B9.out⟩
  | false =>
    rw [hg] at he
    subst he
    have hng : ¬ GreatC l := fun h => by have := GreatB_iff.2 h; rw [hg] at this; cases this
    have hL1 : L ≤ 100 := Nat.le_of_not_lt (fun h => hng (.inl (by rw [← HL.out.1]; exact h)))
    have SHL := Lib.hid (show ∀ a ∈ l, a.m.Short from fun a ha => by
      obtain ⟨j, hj, rfl⟩ := List.getElem_of_mem ha
      exact CmdV.short (fun h => hng (.inr ⟨j, hj, h⟩)))
    clear hb hg hng
    by_cases h4 : 4000 < Lb
    · have h4i : (4000 : Int) < Lb := by omega
      clear h4
      go_wp2_with fail
      refine (wakes8 K _ (K.grew HTT.out B1.out)).mono ?_
      rintro e V9 ⟨rfl, hb9⟩
      have B9 := Lib.hid (B1.out.trans (Below.mono hb9 B1.out.size))
      clear hb9
      go_wp2
      go_ret
      exact ⟨rfl, B9.out⟩
    have h4i : ¬ (4000 : Int) < Lb := by omega
    go_wp2_with fail
    refine (K.batch A L c l V1 (K.grew HTT.out B1.out) HL.out.1 HL.out.2.1 hL1 (HA.out.below B1.out) SHL.out).mono ?_
    rintro e V2 ⟨v5, he, hv5, hb⟩
    have B2 := Lib.hid (B1.out.trans (Below.mono hb B1.out.size))
    by_cases hmy : MayB (l.map CmdV.m)
    · rw [batchR_ok hmy] at he hv5
      dsimp only at he hv5
      subst he
      have hwf : ∀ m ∈ l.map CmdV.m, m.Wf := fun m hm => by
        obtain ⟨a, ha, rfl⟩ := List.mem_map.1 hm
        obtain ⟨j, hj, rfl⟩ := List.getElem_of_mem ha
        obtain ⟨b, o, -, -, hf⟩ := HA.out (by rintro rfl; simp at hj)
        exact (hf j hj).2.wf
      have hxl := batchM_len hmy hwf
      obtain ⟨X, hX⟩ : ∃ X, X = batchM (l.map CmdV.m) := ⟨_, rfl⟩
      rw [← hX] at hv5 hxl
      obtain ⟨A5, L5, c5, rfl, hL5, hLc5, hA5⟩ := hv5
      have hX0 : 0 < X.length := by
        rw [hX, batchM, List.length_append]
        have := List.length_pos_iff.2 (vb_ne (l.map CmdV.m).length)
        omega
      obtain ⟨k, hk⟩ : ∃ k, L5 = k + 1 := ⟨L5 - 1, by omega⟩
      subst hk
      have hk2 : k ≤ 7200 := by omega
      have H5 := Lib.hid (And.intro hL5 (And.intro hLc5 hA5))
      have HXM := Lib.hid (And.intro hX (And.intro hmy hwf))
      clear hb hX0 hxl hX hmy hwf hL5 hLc5 hA5
      go_wp2_with fail
      refine (K.parse A5 (k + 1) c5 X V2 (K.grew HTT.out B2.out) H5.out.1 H5.out.2.1 (by omega) H5.out.2.2).mono ?_
      rintro e V3 ⟨v7, l1, n1, rfl, ht, hr, hb⟩
      obtain ⟨rfl, hm1⟩ := hr.back _ HXM.out.2.1 HXM.out.2.2 HXM.out.1
      obtain ⟨A7, L7, c7, rfl, hL7, hLc7, hA7⟩ := ht.ex
      have B3 := Lib.hid (B2.out.trans (Below.mono hb B2.out.size))
      have B23 := Lib.hid hb
      have H7 := Lib.hid (And.intro hL7 hA7)
      have HM1 := Lib.hid hm1
      have hl8 : L7 ≤ 100 := by have := HXM.out.2.1.len; rw [← hm1, List.length_map] at this; omega
      have HA5 := Lib.hid (H5.out.2.2.below' hb)
      clear hb ht hr hL7 hLc7 hA7 hm1
      go_wp2_with (first | (at_builtin; refine wpList_append_has rfl (.const (.slice none 0 0)) (.tmp 38) 29 rfl V3.heap.size 5 i0 Tryd.underlying29 hi hz0 hz1 hz2 (.slice none 0 0) 0 [] rfl (World.ownsRow_nil _ _ _ _) _ A5 (k + 1) c5 X rfl H5.out.1 HA5.out (by omega) (Nat.le_refl _) ?_; intro u4 U4 hown4 hg4; rw [Nat.zero_add, List.nil_append] at hown4; have hb4 : Below V3.heap.size V3 U4 := (Below.refl _ V3).grown hg4 (Nat.le_refl _) (fun k e => by cases e); obtain ⟨A4, c4, rfl⟩ := own_form hown4; have O4 := Lib.hid hown4; have B34 := Lib.hid hb4; clear hown4 hg4 hb4) | (at_builtin; refine wpList_append_has rfl (.tmp 39) (.tmp 40) 29 rfl V3.heap.size 5 i0 Tryd.underlying29 hi hz0 hz1 hz2 (.slice A4 (k + 1) c4) (k + 1) X rfl (own_below O4.out ((Below.refl U4.heap.size U4).alloc (Nat.le_refl _) _)) _ (some ⟨U4.heap.size, 0, none⟩) 1 1 [0] rfl rfl hasA_zero (by omega) (Nat.le_trans B34.out.size (by simp)) ?_; intro u6 U6 hown6 hg6; have hb6 : Below V3.heap.size V3 U6 := (B34.out.trans (Below.mono ((Below.refl U4.heap.size U4).alloc (Nat.le_refl _) _) B34.out.size)).grown hg6 (Nat.le_trans B34.out.size (by simp)) (fun k e => (O4.out.lt k e).1); obtain ⟨A6, c6, rfl⟩ := own_form hown6; have O6 := Lib.hid hown6; have B36 := Lib.hid hb6; clear hown6 hg6 hb6) | fail)
      have hXl := H5.out.1
      refine (K.parse A6 (k + 1 + 1) c6 (X ++ [0]) U6 (K.grew HTT.out (B3.out.trans (Below.mono B36.out B3.out.size))) (own_len O6.out) (own_cap O6.out) (by omega) (HasA.of_own O6.out)).mono ?_
      rintro e V5 ⟨v9, l9, n9, rfl, ht9, hr9, hb⟩
      obtain rfl : n9 = 11 := hr9.more _ HXM.out.2.1 HXM.out.2.2 (by rw [HXM.out.1])
      obtain ⟨A9, L9, c9, rfl, -, -, -⟩ := ht9.ex
      have B35 := Lib.hid (B36.out.trans (Below.mono hb B36.out.size))
      have B5 := Lib.hid (B3.out.trans (Below.mono B35.out B3.out.size))
      clear hb ht9 hr9 hXl
      go_wp2_with fail
      refine (refAll_any A7 A L7 L c7 c l1 l H7.out.1 HL.out.1 (by omega) (by omega) V5 (H7.out.2.below B35.out) (HA.out.below B5.out)).mono ?_
      rintro e V6 ⟨he, hb⟩
      rw [sameAll_m HM1.out] at he
      subst he
      have B6 := Lib.hid (B5.out.trans (Below.mono hb B5.out.size))
      have HA6 := Lib.hid ((HA5.out.below' B35.out).below' hb)
      clear hb
      have hkc : (k : Int) ≤ c5 := by have := H5.out.2.1; omega
      go_wp2_with fail
      refine (K.parse A5 k c5 (X.take k) V6 (K.grew HTT.out B6.out) (by have := H5.out.1; rw [List.length_take]; omega) (by omega) (by omega) (HA6.out.take k)).mono ?_
      rintro e V7 ⟨v11, l11, n11, rfl, ht11, hr11, hb⟩
      obtain rfl : n11 = 10 := hr11.less _ HXM.out.2.1 HXM.out.2.2 (by rw [← HXM.out.1, ← H5.out.1, Nat.add_sub_cancel])
      obtain ⟨A11, L11, c11, rfl, -, -, -⟩ := ht11.ex
      have B7 := Lib.hid (B6.out.trans (Below.mono hb B6.out.size))
      clear hb ht11 hr11
      go_wp2_with fail
      refine (K.parse Ab Lb cb bs V7 (K.grew HTT.out B7.out) HLb.out.1 HLb.out.2 (by omega) (HAb.out.below' B7.out)).mono ?_
      rintro e U1 ⟨v13, l2, n2, rfl, ht, hr, hb⟩
      obtain ⟨A13, L13, c13, rfl, hL13, hLc13, hA13⟩ := ht.ex
      have BU1 := Lib.hid (B7.out.trans (Below.mono hb B7.out.size))
      have HT := Lib.hid (And.intro hL13 (And.intro hLc13 hA13))
      have HR := Lib.hid hr
      clear hb ht hL13 hLc13 hA13 hr
      by_cases hn2 : n2 = 0
      · subst hn2
        obtain ⟨hmb, hbs⟩ := HR.out.ok rfl
        have HMB := Lib.hid (And.intro hmb hbs)
        have h100 : L13 ≤ 100 := by have := hmb.len; rw [List.length_map] at this; have := HT.out.1; omega
        clear hmb hbs
        go_wp2_with fail
        refine (K.batch A13 L13 c13 l2 U1 (K.grew HTT.out BU1.out) HT.out.1 HT.out.2.1 h100 HT.out.2.2 (fun a ha => (HMB.out.1.each _ (List.mem_map_of_mem ha)).short)).mono ?_
        rintro e U2 ⟨v15, he, hv15, hb⟩
        rw [batchR_ok HMB.out.1, ← HMB.out.2] at he hv15
        dsimp only at he hv15
        subst he
        obtain ⟨A15, L15, c15, rfl, hL15, -, hA15⟩ := hv15
        have BU2 := Lib.hid (BU1.out.trans (Below.mono hb BU1.out.size))
        have hcv1 := run_conv (P := Tryd.prog) (w := U2) hA15 c15 Tryd.underlying29 Tryd.underlying5 Tryd.underlying9 hL15
        have hcv2 := run_conv (P := Tryd.prog) (w := U2) (HAb.out.below' BU2.out) cb Tryd.underlying29 Tryd.underlying5 Tryd.underlying9 HLb.out.1
        clear hb hL15 hA15
        go_wp2_with fail
        refine (wakes8 K _ (K.grew HTT.out BU2.out)).mono ?_
        rintro e V9 ⟨rfl, hb9⟩
        have B9 := Lib.hid (BU2.out.trans (Below.mono hb9 BU2.out.size))
        clear hb9 hcv1 hcv2
        go_wp2
        go_ret
        exact ⟨rfl, B9.out⟩
      · obtain ⟨hnil, hn⟩ := HR.out.no hn2
        have h13 : L13 = 0 := by have := HT.out.1; rw [hnil] at this; exact this
        subst h13
        clear hnil hn2
        rcases hn with rfl | rfl
        · go_wp2_with fail
          refine (wakes8 K _ (K.grew HTT.out BU1.out)).mono ?_
          rintro e V9 ⟨rfl, hb9⟩
          have B9 := Lib.hid (BU1.out.trans (Below.mono hb9 BU1.out.size))
          clear hb9
          go_wp2
          go_ret
          exact ⟨rfl, B9.out⟩
        · go_wp2_with fail
          refine (wakes8 K _ (K.grew HTT.out BU1.out)).mono ?_
          rintro e V9 ⟨rfl, hb9⟩
          have B9 := Lib.hid (BU1.out.trans (Below.mono hb9 BU1.out.size))
          clear hb9
          go_wp2
          go_ret
          exact ⟨rfl, B9.out⟩
    · rw [batchR_no hmy] at he hv5
      dsimp only at he hv5
      subst he
      obtain ⟨A5, L5, c5, rfl, -, -, -⟩ := hv5
      clear hb hmy
      go_wp2_with fail
      refine (K.parse Ab Lb cb bs V2 (K.grew HTT.out B2.out) HLb.out.1 HLb.out.2 (by omega) (HAb.out.below' B2.out)).mono ?_
      rintro e U1 ⟨v13, l2, n2, rfl, ht, hr, hb⟩
      obtain ⟨A13, L13, c13, rfl, hL13, hLc13, hA13⟩ := ht.ex
      have BU1 := Lib.hid (B2.out.trans (Below.mono hb B2.out.size))
      have HT := Lib.hid (And.intro hL13 (And.intro hLc13 hA13))
      have HR := Lib.hid hr
      clear hb ht hL13 hLc13 hA13 hr
      by_cases hn2 : n2 = 0
      · subst hn2
        obtain ⟨hmb, hbs⟩ := HR.out.ok rfl
        have HMB := Lib.hid (And.intro hmb hbs)
        have h100 : L13 ≤ 100 := by have := hmb.len; rw [List.length_map] at this; have := HT.out.1; omega
        clear hmb hbs
        go_wp2_with fail
        refine (K.batch A13 L13 c13 l2 U1 (K.grew HTT.out BU1.out) HT.out.1 HT.out.2.1 h100 HT.out.2.2 (fun a ha => (HMB.out.1.each _ (List.mem_map_of_mem ha)).short)).mono ?_
        rintro e U2 ⟨v15, he, hv15, hb⟩
        rw [batchR_ok HMB.out.1, ← HMB.out.2] at he hv15
        dsimp only at he hv15
        subst he
        obtain ⟨A15, L15, c15, rfl, hL15, -, hA15⟩ := hv15
        have BU2 := Lib.hid (BU1.out.trans (Below.mono hb BU1.out.size))
        have hcv1 := run_conv (P := Tryd.prog) (w := U2) hA15 c15 Tryd.underlying29 Tryd.underlying5 Tryd.underlying9 hL15
        have hcv2 := run_conv (P := Tryd.prog) (w := U2) (HAb.out.below' BU2.out) cb Tryd.underlying29 Tryd.underlying5 Tryd.underlying9 HLb.out.1
        clear hb hL15 hA15
        go_wp2_with fail
        refine (wakes8 K _ (K.grew HTT.out BU2.out)).mono ?_
        rintro e V9 ⟨rfl, hb9⟩
        have B9 := Lib.hid (BU2.out.trans (Below.mono hb9 BU2.out.size))
        clear hb9 hcv1 hcv2
        go_wp2
        go_ret
        exact ⟨rfl, B9.out⟩
      · obtain ⟨hnil, hn⟩ := HR.out.no hn2
        have h13 : L13 = 0 := by have := HT.out.1; rw [hnil] at this; exact this
        subst h13
        clear hnil hn2
        rcases hn with rfl | rfl
        · go_wp2_with fail
          refine (wakes8 K _ (K.grew HTT.out BU1.out)).mono ?_
          rintro e V9 ⟨rfl, hb9⟩
          have B9 := Lib.hid (BU1.out.trans (Below.mono hb9 BU1.out.size))
          clear hb9
          go_wp2
          go_ret
          exact ⟨rfl, B9.out⟩
        · go_wp2_with fail
          refine (wakes8 K _ (K.grew HTT.out BU1.out)).mono ?_
          rintro e V9 ⟨rfl, hb9⟩
          have B9 := Lib.hid (BU1.out.trans (Below.mono hb9 BU1.out.size))
          clear hb9
          go_wp2
          go_ret
          exact ⟨rfl, B9.out⟩
end Go.Proofs.YtfaplmpenlbajaaDoor
