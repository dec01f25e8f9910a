/- KvApart's walk. -/
import Derived.Test.YtfkdlmokigeemaaDoorMKvP
import Derived.Test.YtfkdlmokigeemaaDoorKvApR
import Derived.Test.YtfkdlmokigeemaaDoorKvKD
import Derived.Test.YtfkdlmokigeemaaDoorKvTchD
namespace Go.Proofs.YtfkdlmokigeemaaDoor
open Go.RowKit

set_option maxRecDepth 100000 in
set_option maxHeartbeats 8000000 in
theorem KvApart_any {T : World → Prop} (K : KvK T) (KT : KvKT T) (A : Option Addr) (L c : Nat) (l : List CmdV) (xa xb : CmdV) (other : ByteArray) (w : World) (hT : T w) (hl : L = l.length) (hL : L ≤ 140737488351232) (hA : HasC w A l) (ha : xa.ok w) (hb : xb.ok w) (hoth : other.size ≤ maxLen) :
    Calls Tryd.prog 3 #[.slice A L c, xa.val, xb.val, .string other] w fun e W' => e = .returned (.bool true) ∧ Below w.heap.size w W' := by
  have HL := Lib.hid (And.intro hl hL)
  have HA := Lib.hid hA
  have OKA := Lib.hid ha
  have HT := Lib.hid hT
  have OKB := Lib.hid hb
  have hoi : (other.size : Int) ≤ 9223372036854775807 := by simp only [maxLen] at hoth; omega
  clear hl hL hA ha hb hT hoth
  obtain ⟨acl, asq, akd, KA, KL, kc, aks, aold, anew, an⟩ := xa
  obtain ⟨bcl, bsq, bkd, MA, ML, mc, bks, bold, bnew, bn⟩ := xb
  simp only [CmdV.val, CmdV.cells]
  go_enter Tryd.func3, Tryd.ntmps3
  go_upto_region 1 with (fail)
  obtain ⟨W0, hW0⟩ : ∃ W0, W0 = (w.alloc (Obj.cells #[.int .u32 (acl : Int), .int .u32 (asq : Int), .int .u8 (akd : Int), .slice KA KL kc, .string aold, .string anew, .int .i64 an] 26)).alloc (Obj.cells #[.int .u32 (bcl : Int), .int .u32 (bsq : Int), .int .u8 (bkd : Int), .slice MA ML mc, .string bold, .string bnew, .int .i64 bn] 26) := ⟨_, rfl⟩
  rw [← hW0]
  obtain ⟨pb, hpb⟩ : ∃ pb, pb = w.heap.size + 1 := ⟨_, rfl⟩
  obtain ⟨pa, hpa⟩ : ∃ pa, pa = w.heap.size := ⟨_, rfl⟩
  have hB : Below w.heap.size w W0 := by rw [hW0]; exact ((Below.refl _ w).alloc (Nat.le_refl _) _).alloc (by simp) _
  have k2 : W0.heap[pb]? = some (.cells #[.int .u32 (bcl : Int), .int .u32 (bsq : Int), .int .u8 (bkd : Int), .slice MA ML mc, .string bold, .string bnew, .int .i64 bn] 26 (0, 0)) := by
    rw [hW0, hpb]
    have := World.alloc_heap_new (w.alloc (Obj.cells #[.int .u32 (acl : Int), .int .u32 (asq : Int), .int .u8 (akd : Int), .slice KA KL kc, .string aold, .string anew, .int .i64 an] 26)) (Obj.cells #[.int .u32 (bcl : Int), .int .u32 (bsq : Int), .int .u8 (bkd : Int), .slice MA ML mc, .string bold, .string bnew, .int .i64 bn] 26)
    rw [World.size_alloc] at this
    exact this
  have k1 : W0.heap[pa]? = some (.cells #[.int .u32 (acl : Int), .int .u32 (asq : Int), .int .u8 (akd : Int), .slice KA KL kc, .string aold, .string anew, .int .i64 an] 26 (0, 0)) := by
    rw [hW0, hpa, Below.heap_alloc _ _ _ (by simp)]
    exact World.alloc_heap_new w _
  rw [← hpb, ← hpa]
  have B0 := Lib.hid hB
  have HK := Lib.hid (And.intro k1 k2)
  clear hW0 hpa hpb hB k1 k2
  go_wp2_with fail
  refine (GreatC_any A L c l HL.out.1 HL.out.2 W0 (HA.out.below B0.out)).mono ?_
  rintro e V1 ⟨he, hb⟩
  have B1 := Lib.hid (B0.out.trans (Below.mono hb B0.out.size))
  cases hg : GreatB l with
  | true =>
    rw [hg] at he
    subst he
    clear hb hg
    go_wp2_with fail
    refine (wakes9_any K _ (K.grew HT.out B1.out)).mono ?_
    rintro e V9 ⟨rfl, hb9⟩
    have B9 := Lib.hid (B1.out.trans (Below.mono hb9 B1.out.size))
    clear hb9
    go_wp2
    go_ret
    exact ⟨rfl, B9.out⟩
  | false =>
    rw [hg] at he
    subst he
    have HG := Lib.hid hg
    have k1 := (hb.block pa (Array.getElem?_eq_some_iff.1 HK.out.1).1).trans HK.out.1
    have k2 := (hb.block pb (Array.getElem?_eq_some_iff.1 HK.out.2).1).trans HK.out.2
    have x0 := blk_cell k1 0
    have x1 := blk_cell k1 1
    have x2 := blk_cell k1 2
    have x3 := blk_cell k1 3
    have x4 := blk_cell k1 4
    have x5 := blk_cell k1 5
    have x6 := blk_cell k1 6
    simp at x0 x1 x2 x3 x4 x5 x6
    have y0 := blk_cell k2 0
    have y1 := blk_cell k2 1
    have y2 := blk_cell k2 2
    have y3 := blk_cell k2 3
    have y4 := blk_cell k2 4
    have y5 := blk_cell k2 5
    have y6 := blk_cell k2 6
    simp at y0 y1 y2 y3 y4 y5 y6
    have HK1 := Lib.hid (And.intro k1 k2)
    have OKA1 := Lib.hid (OKA.out.below B1.out)
    have OKB1 := Lib.hid (OKB.out.below B1.out)
    clear hb hg k1 k2
    go_wp2_with fail
    refine (GreatC_any (some ⟨V1.heap.size, 0, none⟩) 2 2 [(⟨acl, asq, akd, KA, KL, kc, aks, aold, anew, an⟩ : CmdV), (⟨bcl, bsq, bkd, MA, ML, mc, bks, bold, bnew, bn⟩ : CmdV)] rfl (by omega) _ (HasC.pair (b := V1.heap.size) (World.alloc_heap_new V1 _) (OKA1.out.below ((Below.refl _ V1).alloc (Nat.le_refl _) _)) (OKB1.out.below ((Below.refl _ V1).alloc (Nat.le_refl _) _)))).mono ?_
    rintro e V2 ⟨he, hb⟩
    have hb2 : Below V1.heap.size V1 V2 := ((Below.refl V1.heap.size V1).alloc (Nat.le_refl _) _).trans (Below.mono hb (by simp))
    have B2 := Lib.hid (B1.out.trans (Below.mono hb2 B1.out.size))
    have HK2 := Lib.hid (And.intro ((hb2.block pa (Array.getElem?_eq_some_iff.1 HK1.out.1).1).trans HK1.out.1) ((hb2.block pb (Array.getElem?_eq_some_iff.1 HK1.out.2).1).trans HK1.out.2))
    clear x0 y0 x1 y1 x2 y2 x3 y3 x4 y4 x5 y5 x6 y6
    cases hg : GreatB [(⟨acl, asq, akd, KA, KL, kc, aks, aold, anew, an⟩ : CmdV), (⟨bcl, bsq, bkd, MA, ML, mc, bks, bold, bnew, bn⟩ : CmdV)] with
    | true =>
      rw [hg] at he
      subst he
      clear hb hb2 hg
      go_wp2_with fail
      refine (wakes9_any K _ (K.grew HT.out B2.out)).mono ?_
      rintro e V9 ⟨rfl, hb9⟩
      have B9 := Lib.hid (B2.out.trans (Below.mono hb9 B2.out.size))
      clear hb9
      go_wp2
      go_ret
      exact ⟨rfl, B9.out⟩
    | false =>
      rw [hg] at he
      subst he
      have hng : ¬ GreatC l := fun h => by have := GreatB_iff.2 h; rw [HG.out] at this; cases this
      have hng2 : ¬ GreatC [(⟨acl, asq, akd, KA, KL, kc, aks, aold, anew, an⟩ : CmdV), (⟨bcl, bsq, bkd, MA, ML, mc, bks, bold, bnew, bn⟩ : CmdV)] := fun h => by have := GreatB_iff.2 h; rw [hg] at this; cases this
      have hL1 : L ≤ 100 := Nat.le_of_not_lt (fun h => hng (.inl (by rw [← HL.out.1]; exact h)))
      have NGL := Lib.hid (show ∀ j (hj : j < l.length), ¬ (l[j]).great from fun j hj h => hng (.inr ⟨j, hj, h⟩))
      have NGA := Lib.hid (show ¬ (⟨acl, asq, akd, KA, KL, kc, aks, aold, anew, an⟩ : CmdV).great from fun h => hng2 (.inr ⟨0, by simp, h⟩))
      have NGB := Lib.hid (show ¬ (⟨bcl, bsq, bkd, MA, ML, mc, bks, bold, bnew, bn⟩ : CmdV).great from fun h => hng2 (.inr ⟨1, by simp, h⟩))
      clear hb hb2 hg hng hng2
      by_cases ho32 : 32 < other.size
      · have ho32i : (32 : Int) < (other.size : Int) := by omega
        go_wp2_with fail
        refine (wakes9_any K _ (K.grew HT.out B2.out)).mono ?_
        rintro e V9 ⟨rfl, hb9⟩
        have B9 := Lib.hid (B2.out.trans (Below.mono hb9 B2.out.size))
        clear hb9
        go_wp2
        go_ret
        exact ⟨rfl, B9.out⟩
      · have ho32i : ¬ (32 : Int) < (other.size : Int) := by omega
        go_upto_region 3 with (fail)
        refine touch_region (⟨acl, asq, akd, KA, KL, kc, aks, aold, anew, an⟩ : CmdV) (⟨bcl, bsq, bkd, MA, ML, mc, bks, bold, bnew, bn⟩ : CmdV) pa pb (touchK aks) (touchK bks) _ V2 _ rfl rfl rfl (Array.getElem?_eq_some_iff.1 HK2.out.1).1 (Array.getElem?_eq_some_iff.1 HK2.out.2).1 (fun i u hu => by rw [blk_cell HK2.out.1]; exact hu) (fun i u hu => by rw [blk_cell HK2.out.2]; exact hu)
          (fun w' hb => KT.touches (⟨acl, asq, akd, KA, KL, kc, aks, aold, anew, an⟩ : CmdV) w' (K.grew HT.out (B2.out.trans (Below.mono hb B2.out.size))) (OKA.out.below (B2.out.trans (Below.mono hb B2.out.size))) NGA.out)
          (fun w' hb => KT.touches (⟨bcl, bsq, bkd, MA, ML, mc, bks, bold, bnew, bn⟩ : CmdV) w' (K.grew HT.out (B2.out.trans (Below.mono hb B2.out.size))) (OKB.out.below (B2.out.trans (Below.mono hb B2.out.size))) NGB.out) ?_
        intro v47 v49 v9 v10 W3 _ _ h9 h10 hg3
        obtain ⟨A9, n9, c9, rfl, hn9, hc9, hx9⟩ := h9.ex
        obtain ⟨A10, n10, c10, rfl, hn10, hc10, hx10⟩ := h10.ex
        have B3 := Lib.hid (B2.out.trans (Below.mono hg3 B2.out.size))
        have HK3 := Lib.hid (And.intro ((hg3.block pa (Array.getElem?_eq_some_iff.1 HK2.out.1).1).trans HK2.out.1) ((hg3.block pb (Array.getElem?_eq_some_iff.1 HK2.out.2).1).trans HK2.out.2))
        have H9 := Lib.hid (And.intro hn9 hx9)
        have H10 := Lib.hid (And.intro hn10 hx10)
        simp only [puts, List.foldl_cons, List.foldl_nil, Act.put, List.setIfInBounds_toArray, List.set_cons_succ, List.set_cons_zero]
        clear h9 h10 hg3 hn9 hn10 hx9 hx10
        have x0 := blk_cell HK3.out.1 0
        have x1 := blk_cell HK3.out.1 1
        have x2 := blk_cell HK3.out.1 2
        have x3 := blk_cell HK3.out.1 3
        have x4 := blk_cell HK3.out.1 4
        have x5 := blk_cell HK3.out.1 5
        have x6 := blk_cell HK3.out.1 6
        simp at x0 x1 x2 x3 x4 x5 x6
        go_wp2_with fail
        refine (Touches_any (⟨acl, asq, akd, KA, KL, kc, aks, aold, anew, an⟩ : CmdV) W3 (OKA.out.below B3.out) (by
          have h1 := NGA.out
          have h2 : KL = aks.length := OKA.out.len
          show KL ≤ 1000
          refine Classical.byContradiction fun h => h1 (.inr (.inr (.inl ?_)))
          show 100 < aks.length
          omega)).mono ?_
        rintro e W4 ⟨v11, rfl, ho11, hb4⟩
        obtain ⟨A11, c11, rfl, _⟩ := ho11.form
        have hn11 : (touchK aks).length = n9 := H9.out.1.symm
        have HX11 := Lib.hid ho11.has
        rw [hn11]
        have B4 := Lib.hid (B3.out.trans (Below.mono hb4 B3.out.size))
        have B34 := Lib.hid hb4
        clear ho11 hb4 hn11 x0 x1 x2 x3 x4 x5 x6
        go_upto_region 7 with (fail)
        have hn9b : n9 ≤ 100 := by
          have h1 := great_keys NGA.out
          have h2 := touchK_len aks
          have h3 := H9.out.1
          have h1' : aks.length ≤ 100 := h1
          omega
        have hn9i : (n9 : Int) ≤ 100 := by omega
        go_wp2
        go_loopw [12] (fun i wr => ∃ j : Nat, j ≤ n9 ∧ i = .int .i64 (j : Int) ∧ Hid (Below W4.heap.size W4 wr)) (fun i _ => n9 - (intOf i).toNat)
        case atStart => exact ⟨0, Nat.zero_le _, rfl, Lib.hid (Below.refl _ _)⟩
        case round =>
          obtain ⟨j, hj, rfl, HB⟩ := hrel
          by_cases hlt : j < n9
          · have hji : (j : Int) < n9 := by omega
            have hj1 : j < (touchK aks).length := by have := H9.out.1; omega
            have hne : touchK aks ≠ [] := fun e => by rw [e] at hj1; exact Nat.not_lt_zero _ hj1
            obtain ⟨b9, o9, e9, l9, f9⟩ := (H9.out.2.below B34.out).below HB.out hne
            obtain ⟨b11, o11, e11, l11, f11⟩ := HX11.out.below HB.out hne
            subst e9 e11
            have g9 := f9 j hj1
            have g11 := f11 j hj1
            obtain ⟨t, ht⟩ : ∃ t, t = (touchK aks)[j] := ⟨_, rfl⟩
            rw [← ht] at g9 g11
            clear f9 f11 ht hne
            go_wp2
            go_region
            go_wp2
            exact ⟨⟨j + 1, by omega, by congr 1, Lib.hid HB.out.drew⟩, by simp only [intOf]; omega⟩
          · have hji : ¬ (j : Int) < n9 := by omega
            obtain rfl : j = n9 := by omega
            obtain ⟨Wn, rfl⟩ : ∃ x, x = wr := ⟨_, rfl⟩
            have B5 := Lib.hid (B4.out.trans (Below.mono HB.out B4.out.size))
            have HT5 := Lib.hid (K.grew HT.out B5.out)
            have HA5 := Lib.hid (HA.out.below B5.out)
            have H95 := Lib.hid ((H9.out.2.below B34.out).below HB.out)
            have H105 := Lib.hid ((H10.out.2.below B34.out).below HB.out)
            have OKA5 := Lib.hid (OKA.out.below B5.out)
            have OKB5 := Lib.hid (OKB.out.below B5.out)
            have hb35 : Below W3.heap.size W3 Wn := B34.out.trans (Below.mono HB.out B34.out.size)
            have HK5 := Lib.hid (And.intro ((hb35.block pa (Array.getElem?_eq_some_iff.1 HK3.out.1).1).trans HK3.out.1) ((hb35.block pb (Array.getElem?_eq_some_iff.1 HK3.out.2).1).trans HK3.out.2))
            clear hb35
            go_wp2_with fail
            refine ((KW.zero K Wn (fun _ => 0) (fun _ => [])).new HT5.out).mono ?_
            rintro e V0 ⟨S0, rfl, h0, -⟩
            have H0 := Lib.hid h0
            have hLi : (L : Int) ≤ 100 := by omega
            clear h0
            go_upto_region 13 with (fail)
            go_wp2
            go_loopw [14] (fun i wr => ∃ j : Nat, j ≤ L ∧ i = .int .i64 (j : Int) ∧ Hid (∃ l' : Nat → List PV, l' 0 = runP [] ((l.map CmdV.m).take j) ∧ KW K Wn 1 (upd (fun _ => 0) 0 S0) l' (fun _ => False) wr)) (fun i _ => L - (intOf i).toNat)
            case atStart => exact ⟨0, Nat.zero_le _, rfl, Lib.hid ⟨_, rfl, H0.out⟩⟩
            case round =>
              obtain ⟨i, hi, rfl, HKW⟩ := hrel
              by_cases hlt2 : i < L
              · have hii : (i : Int) < L := by omega
                have hi1 : i < l.length := by have := HL.out.1; omega
                obtain ⟨l', hl0, hkw⟩ := HKW.out
                have hne : l ≠ [] := fun e => by rw [e] at hi1; exact Nat.not_lt_zero _ hi1
                obtain ⟨bl, ol, el, ll, fl⟩ := HA5.out.below hkw.below hne
                subst el
                obtain ⟨hcl, hok⟩ := fl i hi1
                obtain ⟨v, hv⟩ : ∃ v, v = l[i] := ⟨_, rfl⟩
                rw [← hv] at hcl hok
                have HVV := Lib.hid hv
                have OKV := Lib.hid hok
                have NGV := Lib.hid (show ¬ v.great by rw [hv]; exact NGL.out i hi1)
                obtain ⟨vcl, vsq, vkd, vA, vL, vc, vks, vold, vnew, vn⟩ := v
                have x0 := hcl 0 _ rfl
                have x1 := hcl 1 _ rfl
                have x2 := hcl 2 _ rfl
                have x3 := hcl 3 _ rfl
                have x4 := hcl 4 _ rfl
                have x5 := hcl 5 _ rfl
                have x6 := hcl 6 _ rfl
                simp only [Nat.add_zero] at x0
                have HL0 := Lib.hid hl0
                have HW := Lib.hid hkw
                clear hcl hok hv fl hl0 hkw hne
                go_wp2_with fail
                refine (HW.out.do_ HT5.out 0 (by omega) (by rw [HL0.out]; exact (runP_lim _ i).lim (by omega)) (⟨vcl, vsq, vkd, vA, vL, vc, vks, vold, vnew, vn⟩ : CmdV) OKV.out NGV.out).mono ?_
                rintro e U ⟨rfl, hk2, -⟩
                have HN := Lib.hid hk2
                clear hk2 x0 x1 x2 x3 x4 x5 x6
                simp only [ReplyV]
                go_wp2
                refine ⟨⟨i + 1, by omega, by congr 1, Lib.hid ⟨_, ?_, HN.out⟩⟩, by simp only [intOf]; omega⟩
                rw [upd_same, HL0.out, runP_succ (by rw [List.length_map]; exact hi1), List.getElem_map, ← HVV.out]
              · have hii : ¬ (i : Int) < L := by omega
                obtain rfl : i = L := by omega
                have hms : (l.map CmdV.m).take i = l.map CmdV.m := List.take_of_length_le (by rw [List.length_map]; have := HL.out.1; omega)
                rw [hms] at HKW
                obtain ⟨l0, hl0⟩ : ∃ l0, l0 = runP [] (l.map CmdV.m) := ⟨_, rfl⟩
                rw [← hl0] at HKW
                have LIM0 := Lib.hid (show LimN 200 l0 by
                  have h := runP_lim (l.map CmdV.m) i
                  rw [hms, ← hl0] at h
                  exact h.more (by omega))
                have SRT0 := Lib.hid (show SortedP l0 by
                  obtain ⟨l', h1, h2⟩ := HKW.out
                  have h := h2.sorted 0 (by omega)
                  rw [h1] at h; exact h)
                clear hms hl0
                go_upto_region 17 with (fail)
                obtain ⟨b1, hb1, hin⟩ := in_any A9 j c9 (touchK aks) other wr H9.out.1 (by omega) (H95.out.below (by obtain ⟨l', _, h⟩ := HKW.out; exact h.below))
                have HIN := Lib.hid hin
                have HB1 := Lib.hid hb1
                clear hin hb1
                go_cut [92] (fun s wy => ∃ bb : Bool, s = .bool bb ∧ Hid (bb = true → other ∉ aks ∧ 1 ≤ other.size) ∧ Hid (∃ l' : Nat → List PV, l' 0 = l0 ∧ KW K Wn 1 (upd (fun _ => 0) 0 S0) l' (fun _ => False) wy))
                case first =>
                  go_wp2_with fail
                  refine HIN.out.mono ?_
                  rintro e U1 ⟨rfl, hbu⟩
                  have HK' : Hid (∃ l' : Nat → List PV, l' 0 = l0 ∧ KW K Wn 1 (upd (fun _ => 0) 0 S0) l' (fun _ => False) U1) := Lib.hid (by
                    obtain ⟨l', h1, h2⟩ := HKW.out
                    exact ⟨l', h1, h2.grew hbu⟩)
                  clear hbu
                  cases b1 with
                  | true =>
                    go_wp2
                    go_meet
                    exact ⟨false, rfl, Lib.hid (fun h => by cases h), HK'⟩
                  | false =>
                    have HNI := Lib.hid (show other ∉ aks from fun h => by have := HB1.out.2 ((touchK_mem aks other).2 h); cases this)
                    by_cases hoe : other = kE
                    · subst hoe
                      go_wp2
                      go_meet
                      exact ⟨false, rfl, Lib.hid (fun h => by cases h), HK'⟩
                    · have hoe1 : ¬ other.toList = kE.toList := fun h => hoe (toList_inj9.1 h)
                      have hoe2 : (other.toList == kE.toList) = false := by simpa using hoe1
                      have hemp : other.toList.isEmpty = false := by
                        rw [List.isEmpty_eq_false_iff]
                        exact fun h => hoe1 (h.trans (by rw [ByteArray.toList_eq]))
                      have HOS := Lib.hid (show 1 ≤ other.size from by
                        rcases Nat.eq_zero_or_pos other.size with h | h
                        · exact absurd (ByteArray.ext (Array.eq_empty_of_size_eq_zero h)) hoe
                        · exact h)
                      go_wp2
                      go_meet
                      exact ⟨true, rfl, Lib.hid (fun _ => ⟨HNI.out, HOS.out⟩), HK'⟩
                obtain ⟨bb, rfl, HBB, HK1'⟩ := hcut
                apply_assumption
                go_cut [15] (fun s15 wy => Hid (∃ (n : Nat) (R : Nat → Nat) (l' : Nat → List PV), 1 ≤ n ∧ R 0 = S0 ∧ l' 0 = l0 ∧ KW K Wn n R l' (fun _ => False) wy))
                case first =>
                  cases bb with
                  | false =>
                    have HF := Lib.hid (show ∃ (n : Nat) (R : Nat → Nat) (l' : Nat → List PV), 1 ≤ n ∧ R 0 = S0 ∧ l' 0 = l0 ∧ KW K Wn n R l' (fun _ => False) wc by
                      obtain ⟨l', h1, h2⟩ := HK1'.out
                      exact ⟨1, _, l', Nat.le_refl _, upd_same _ _ _, h1, h2⟩)
                    go_wp2
                    go_meet
                    exact HF
                  | true =>
                    obtain ⟨hno, ho1⟩ := HBB.out rfl
                    have HO := Lib.hid (And.intro hno ho1)
                    obtain ⟨l1, hl1, hk1⟩ := HK1'.out
                    have hcp := hk1.copy HT5.out 0 (by omega) (by rw [hl1]; exact LIM0.out.lim (by omega))
                    have HCP := Lib.hid hcp
                    have E1 := Lib.hid hl1
                    clear hcp hk1 hno ho1 hl1
                    go_wp2_with fail
                    refine HCP.out.mono ?_
                    rintro e U2 ⟨S1, rfl, k2, -⟩
                    have HCP2 := Lib.hid (k2.copy HT5.out 0 (by omega) (by rw [upd_other (by omega), E1.out]; exact LIM0.out.lim (by omega)))
                    clear k2
                    go_wp2_with fail
                    refine HCP2.out.mono ?_
                    rintro e U3 ⟨S2, rfl, k3, -⟩
                    obtain ⟨R3, hR3⟩ : ∃ R3, R3 = upd (upd (upd (fun _ => 0) 0 S0) 1 S1) 2 S2 := ⟨_, rfl⟩
                    obtain ⟨l3, hl3⟩ : ∃ l3, l3 = upd (upd l1 1 (l1 0)) 2 (upd l1 1 (l1 0) 0) := ⟨_, rfl⟩
                    have RR := Lib.hid (show R3 0 = S0 ∧ R3 1 = S1 ∧ R3 2 = S2 by rw [hR3]; exact ⟨rfl, rfl, rfl⟩)
                    have LL := Lib.hid (show l3 0 = l0 ∧ l3 1 = l0 ∧ l3 2 = l0 by rw [hl3]; exact ⟨E1.out, E1.out, E1.out⟩)
                    have k3' : KW K Wn 3 R3 l3 (fun _ => False) U3 := by rw [hR3, hl3]; exact k3
                    have K3 := Lib.hid k3'
                    clear k3 k3' hR3 hl3 HCP HCP2
                    go_upto_region 19 with (fail)
                    have hg4 : Below U3.heap.size U3 (U3.alloc (.cells #[.string other] 9)) := (Below.refl _ _).alloc (Nat.le_refl _) _
                    have hd4 := (K3.out.grew hg4).do_ HT5.out 2 (by omega) (by rw [LL.out.2.2]; exact LIM0.out.lim (by omega)) (wv U3.heap.size 1 1 [other] kCh 0) (wv_ok (by decide) rfl (by decide) (by decide) (by decide) (fun k hk => by have := eachO HO.out.2 (by omega) k hk; omega) (blkO U3 other)) (wv_small (by show 1 ≤ 2; omega) (by decide) (fun k hk => by have := eachO HO.out.2 (by omega) k hk; omega))
                    rw [RR.out.2.2, LL.out.2.2] at hd4
                    have HD4 := Lib.hid hd4
                    clear hd4 hg4
                    go_wp2_with fail
                    refine HD4.out.mono ?_
                    rintro e U4 ⟨he, k4, -⟩
                    have hdo := doO (l := l0) (k := other) HO.out.2 (by omega)
                    have he2 : e = .returned (ReplyV (0, kE)) := he.trans (congrArg (fun z : List PV × Nat × ByteArray => Ending.returned (ReplyV z.2)) hdo)
                    subst he2
                    obtain ⟨l4, hl4⟩ : ∃ l4, l4 = upd l3 2 (withP l0 other kCh) := ⟨_, rfl⟩
                    have k4' : KW K Wn 3 R3 l4 (fun _ => False) U4 := by rw [hl4, show withP l0 other kCh = (doP l0 (CmdV.m (wv U3.heap.size 1 1 [other] kCh 0))).1 from (congrArg Prod.fst hdo).symm]; exact k4
                    have K4 := Lib.hid k4'
                    have L4 := Lib.hid (show l4 0 = l0 ∧ l4 1 = l0 ∧ l4 2 = withP l0 other kCh by rw [hl4]; exact ⟨LL.out.1, LL.out.2.1, rfl⟩)
                    clear he k4 k4' hl4 hdo HD4
                    simp only [ReplyV]
                    go_upto_region 20 with (fail)
                    have hgt := K4.out.get 0 (by omega) other (by simp only [maxLen]; omega)
                    rw [RR.out.1, L4.out.1] at hgt
                    obtain ⟨v0, hv0⟩ : ∃ v0, v0 = (lookP l0 other).getD ⟨#[]⟩ := ⟨_, rfl⟩
                    obtain ⟨i0, hi0⟩ : ∃ i0, i0 = (lookP l0 other).isSome := ⟨_, rfl⟩
                    rw [← hv0, ← hi0] at hgt
                    have HGT := Lib.hid hgt
                    have VI := Lib.hid (And.intro hv0 hi0)
                    clear hgt hv0 hi0
                    go_wp2_with fail
                    refine HGT.out.mono ?_
                    rintro e U5 ⟨rfl, k5, -⟩
                    have K5 := Lib.hid k5
                    clear k5 HGT
                    have hsm := doP_same SRT0.out (SRT0.out.with_ other kCh) (m := (⟨acl, asq, akd, KA, KL, kc, aks, aold, anew, an⟩ : CmdV).m) (fun k hk => by rw [lookP_with, if_neg (fun e => HO.out.1 (by rw [← e]; exact hk))])
                    obtain ⟨x1, hx1⟩ : ∃ x1, x1 = (doP l0 (⟨acl, asq, akd, KA, KL, kc, aks, aold, anew, an⟩ : CmdV).m).1 := ⟨_, rfl⟩
                    obtain ⟨x2, hx2⟩ : ∃ x2, x2 = (doP (withP l0 other kCh) (⟨acl, asq, akd, KA, KL, kc, aks, aold, anew, an⟩ : CmdV).m).1 := ⟨_, rfl⟩
                    obtain ⟨r, hr⟩ : ∃ r, r = (doP l0 (⟨acl, asq, akd, KA, KL, kc, aks, aold, anew, an⟩ : CmdV).m).2 := ⟨_, rfl⟩
                    have XX := Lib.hid (And.intro hx1 (And.intro hx2 (And.intro hr (hsm.1.symm.trans hr.symm))))
                    have LIM2 := Lib.hid (LIM0.out.with_ (k := other) (v := kCh) (by omega) (by decide))
                    clear hsm hx1 hx2 hr
                    go_upto_region 21 with (fail)
                    refine pqa_region (fun k P W => KW K Wn 3 R3 (st3 l4 (upd l4 1 x1) (upd (upd l4 1 x1) 2 x2) k) P W ∧ ∀ b, P b → Wn.heap.size ≤ b) (pqi_kw K Wn 3 R3 _) S1 S2 (⟨acl, asq, akd, KA, KL, kc, aks, aold, anew, an⟩ : CmdV) (⟨acl, asq, akd, KA, KL, kc, aks, aold, anew, an⟩ : CmdV) pa pa r r _ U5 _ rfl rfl rfl rfl rfl ⟨K5.out, fun b h => h.elim⟩
                      (fun k P W h i u hu => by rw [blk_cell ((h.1.below.block pa (Array.getElem?_eq_some_iff.1 HK5.out.1).1).trans HK5.out.1)]; exact hu)
                      (fun k P W h i u hu => by rw [blk_cell ((h.1.below.block pa (Array.getElem?_eq_some_iff.1 HK5.out.1).1).trans HK5.out.1)]; exact hu)
                      (fun P W h => by
                        have h1 : KW K Wn 3 R3 l4 P W := h.1
                        have hd := h1.do_ HT5.out 1 (by omega) (by rw [L4.out.2.1]; exact LIM0.out.lim (by omega)) (⟨acl, asq, akd, KA, KL, kc, aks, aold, anew, an⟩ : CmdV) (OKA5.out.below h1.below) NGA.out
                        rw [RR.out.2.1, L4.out.2.1, ← XX.out.1, ← XX.out.2.2.1] at hd
                        exact hd.mono fun _ _ ⟨a1, a2, a3⟩ => ⟨a1, ⟨a2, h.2⟩, a3⟩)
                      (fun P W h => by
                        have h1 : KW K Wn 3 R3 (upd l4 1 x1) P W := h.1
                        have hl2 : upd l4 1 x1 2 = withP l0 other kCh := L4.out.2.2
                        have hd := h1.do_ HT5.out 2 (by omega) (by rw [hl2]; exact LIM2.out.lim (by omega)) (⟨acl, asq, akd, KA, KL, kc, aks, aold, anew, an⟩ : CmdV) (OKA5.out.below h1.below) NGA.out
                        rw [RR.out.2.2, hl2, ← XX.out.2.1, XX.out.2.2.2] at hd
                        exact hd.mono fun _ _ ⟨a1, a2, a3⟩ => ⟨a1, ⟨a2, h.2⟩, a3⟩) ?_
                    intro x y U6 hxy hI2 hrx hry
                    simp only [puts, List.foldl_cons, List.foldl_nil, Act.put, List.setIfInBounds_toArray, List.set_cons_succ, List.set_cons_zero]
                    obtain ⟨l6, hl6⟩ : ∃ l6, l6 = upd (upd l4 1 x1) 2 x2 := ⟨_, rfl⟩
                    have k6 : KW K Wn 3 R3 l6 (fun b => b = x ∨ b = y) U6 := by rw [hl6]; exact hI2.1
                    have K6 := Lib.hid k6
                    have L6 := Lib.hid (show l6 0 = l0 ∧ l6 1 = x1 ∧ l6 2 = x2 by rw [hl6]; exact ⟨L4.out.1, rfl, rfl⟩)
                    have HR6 := Lib.hid (And.intro hrx hry)
                    clear hI2 k6 hl6 hrx hry
                    have hg1 := K6.out.get 1 (by omega) other (by simp only [maxLen]; omega)
                    rw [RR.out.2.1, L6.out.2.1, XX.out.1, doP_out l0 (show other ∉ (CmdV.m (⟨acl, asq, akd, KA, KL, kc, aks, aold, anew, an⟩ : CmdV)).ks from HO.out.1), ← VI.out.1, ← VI.out.2] at hg1
                    have HG1 := Lib.hid hg1
                    clear hg1
                    go_upto_region 22 with (fail)
                    go_wp2_with fail
                    refine HG1.out.mono ?_
                    rintro e U7 ⟨rfl, k7, hb7⟩
                    have hg2 := k7.get 2 (by omega) other (by simp only [maxLen]; omega)
                    rw [RR.out.2.2, L6.out.2.2, XX.out.2.1, doP_out _ (show other ∉ (CmdV.m (⟨acl, asq, akd, KA, KL, kc, aks, aold, anew, an⟩ : CmdV)).ks from HO.out.1), lookP_with, if_pos rfl] at hg2
                    have HG2 := Lib.hid hg2
                    have HR7 := Lib.hid (And.intro (rep_keep HR6.out.1 (hb7.block _ (repAt_lt HR6.out.1))) (rep_keep HR6.out.2 (hb7.block _ (repAt_lt HR6.out.2))))
                    clear hg2 k7 hb7 HG1
                    simp only [Option.getD_some, Option.isSome_some] at HG2
                    go_upto_region 23 with (fail)
                    go_wp2_with fail
                    refine HG2.out.mono ?_
                    rintro e U8 ⟨rfl, k8, hb8⟩
                    have ex : U8.heap[x]? = _ := rep_keep HR7.out.1 (hb8.block _ (repAt_lt HR7.out.1))
                    have ey : U8.heap[y]? = _ := rep_keep HR7.out.2 (hb8.block _ (repAt_lt HR7.out.2))
                    obtain ⟨rc, hrc⟩ : ∃ rc, rc = r.1 := ⟨_, rfl⟩
                    obtain ⟨rt, hrt⟩ : ∃ rt, rt = r.2 := ⟨_, rfl⟩
                    have cx0 : U8.cell? ⟨x, 0, none⟩ = some (.int .u8 (rc : Int)) := by rw [blk_cell ex 0, hrc]; rfl
                    have cx1 : U8.cell? ⟨x, 1, none⟩ = some (.string rt) := by rw [blk_cell ex 1, hrt]; rfl
                    have cy0 : U8.cell? ⟨y, 0, none⟩ = some (.int .u8 (rc : Int)) := by rw [blk_cell ey 0, hrc]; rfl
                    have cy1 : U8.cell? ⟨y, 1, none⟩ = some (.string rt) := by rw [blk_cell ey 1, hrt]; rfl
                    have HF := Lib.hid (show ∃ (n : Nat) (R : Nat → Nat) (l' : Nat → List PV), 1 ≤ n ∧ R 0 = S0 ∧ l' 0 = l0 ∧ KW K Wn n R l' (fun _ => False) U8 from ⟨3, R3, l6, by omega, RR.out.1, L6.out.1, k8.sub (fun _ h => h.elim)⟩)
                    clear k8 hb8 ex ey hrc hrt HG2
                    go_wp2
                    go_meet
                    exact HF
                have HN := hcut
                clear hcut
                apply_assumption
                have hn10b : n10 ≤ 100 := by
                  have h1 : bks.length ≤ 100 := great_keys NGB.out
                  have h2 := touchK_len bks
                  have h3 := H10.out.1
                  omega
                have hn10i : (n10 : Int) ≤ 100 := by omega
                go_wp2
                go_loopw [25] (fun i wy => ∃ p : Nat, p ≤ n10 ∧ i = .int .i64 (p : Int) ∧ Hid (∀ q (h : q < (touchK bks).length), q < p → (touchK bks)[q] ∉ touchK aks) ∧ Hid (∃ (n : Nat) (R : Nat → Nat) (l' : Nat → List PV), 1 ≤ n ∧ R 0 = S0 ∧ l' 0 = l0 ∧ KW K Wn n R l' (fun _ => False) wy)) (fun i _ => n10 - (intOf i).toNat)
                case atStart => exact ⟨0, Nat.zero_le _, rfl, Lib.hid (fun q _ h => by omega), HN⟩
                case round =>
                  obtain ⟨p, hp, rfl, HD, HKW2⟩ := hrel
                  by_cases hlt3 : p < n10
                  · have hpi : (p : Int) < n10 := by omega
                    have hp1 : p < (touchK bks).length := by have := H10.out.1; omega
                    obtain ⟨n, R, l', hn1, hR0, hl0', hkw2⟩ := HKW2.out
                    obtain ⟨b10, o10, e10, l10, f10⟩ := H105.out.below hkw2.below (fun e => by rw [e] at hp1; exact Nat.not_lt_zero _ hp1)
                    subst e10
                    have g10 := f10 p hp1
                    obtain ⟨t, ht⟩ : ∃ t, t = (touchK bks)[p] := ⟨_, rfl⟩
                    rw [← ht] at g10
                    obtain ⟨b2, hb2, hin2⟩ := in_any A9 j c9 (touchK aks) t wr H9.out.1 (by omega) (H95.out.below hkw2.below)
                    have HT2 := Lib.hid (And.intro ht hb2)
                    have HIN2 := Lib.hid hin2
                    have HW2 := Lib.hid hkw2
                    clear f10 ht hb2 hin2 hkw2 hn1 hR0 hl0'
                    go_wp2_with fail
                    refine HIN2.out.mono ?_
                    rintro e U ⟨rfl, hbu⟩
                    have BU := Lib.hid (B5.out.trans (Below.mono (HW2.out.below.trans (Below.mono hbu HW2.out.below.size)) B5.out.size))
                    have HKU : Hid (∃ (n : Nat) (R : Nat → Nat) (l' : Nat → List PV), 1 ≤ n ∧ R 0 = S0 ∧ l' 0 = l0 ∧ KW K Wn n R l' (fun _ => False) U) := Lib.hid (by
                      obtain ⟨n, R, l', h1, h2, h3, h4⟩ := HKW2.out
                      exact ⟨n, R, l', h1, h2, h3, h4.grew hbu⟩)
                    clear hbu g10
                    cases b2 with
                    | true =>
                      go_wp2_with fail
                      refine (wakes9_any K _ (K.grew HT.out BU.out)).mono ?_
                      rintro e V9 ⟨rfl, hb9⟩
                      have B9 := Lib.hid (BU.out.trans (Below.mono hb9 BU.out.size))
                      clear hb9
                      go_wp2
                      go_ret
                      exact ⟨rfl, B9.out⟩
                    | false =>
                      go_wp2
                      refine ⟨⟨p + 1, by omega, by congr 1, Lib.hid (fun q hq hqp => ?_), HKU⟩, by simp only [intOf]; omega⟩
                      rcases Nat.lt_or_ge q p with h | h
                      · exact HD.out q hq h
                      · obtain rfl : q = p := by omega
                        intro hm
                        have := HT2.out.2.2 (by rw [HT2.out.1]; exact hm)
                        cases this
                  · have hpi : ¬ (p : Int) < n10 := by omega
                    have hdis : ∀ k ∈ aks, k ∉ bks := fun k hk hkb => by
                      obtain ⟨q, hq, rfl⟩ := List.mem_iff_getElem.1 ((touchK_mem bks k).2 hkb)
                      exact HD.out q hq (by have := H10.out.1; omega) ((touchK_mem aks _).2 hk)
                    have AP := Lib.hid (doP_apart SRT0.out (a := (⟨acl, asq, akd, KA, KL, kc, aks, aold, anew, an⟩ : CmdV).m) (b := (⟨bcl, bsq, bkd, MA, ML, mc, bks, bold, bnew, bn⟩ : CmdV).m) hdis)
                    obtain ⟨n, R, l', hn1, hR0, hl0', hkw2⟩ := HKW2.out
                    have hcp := hkw2.copy HT5.out 0 (by omega) (by rw [hl0']; exact LIM0.out.lim (by omega))
                    rw [hR0, hl0'] at hcp
                    have HCP := Lib.hid hcp
                    have HNR := Lib.hid (And.intro hn1 (And.intro hR0 hl0'))
                    clear hdis hcp hkw2 hn1 hR0 hl0' HKW2
                    go_wp2_with fail
                    refine HCP.out.mono ?_
                    rintro e U1 ⟨S3, rfl, k1, -⟩
                    have h0n : (0 : Nat) ≠ n := by have := HNR.out.1; omega
                    have hcp2 := k1.copy HT5.out 0 (by omega) (by rw [upd_other h0n, HNR.out.2.2]; exact LIM0.out.lim (by omega))
                    rw [upd_other h0n, HNR.out.2.1, upd_other h0n, HNR.out.2.2] at hcp2
                    have HCP2 := Lib.hid hcp2
                    clear k1 hcp2 h0n
                    go_wp2_with fail
                    refine HCP2.out.mono ?_
                    rintro e U2 ⟨S4, rfl, k2, -⟩
                    obtain ⟨R4, hR4⟩ : ∃ R4, R4 = upd (upd R n S3) (n + 1) S4 := ⟨_, rfl⟩
                    obtain ⟨l7, hl7⟩ : ∃ l7, l7 = upd (upd l' n l0) (n + 1) l0 := ⟨_, rfl⟩
                    have RR := Lib.hid (show R4 n = S3 ∧ R4 (n + 1) = S4 by rw [hR4]; exact ⟨by rw [upd_other (by omega), upd_same], upd_same _ _ _⟩)
                    have LL := Lib.hid (show l7 n = l0 ∧ l7 (n + 1) = l0 by rw [hl7]; exact ⟨by rw [upd_other (by omega), upd_same], upd_same _ _ _⟩)
                    have k2' : KW K Wn (n + 1 + 1) R4 l7 (fun _ => False) U2 := by rw [hR4, hl7]; exact k2
                    have K2 := Lib.hid k2'
                    clear k2 k2' hR4 hl7 HCP HCP2
                    obtain ⟨y1, hy1⟩ : ∃ y1, y1 = (doP l0 (⟨acl, asq, akd, KA, KL, kc, aks, aold, anew, an⟩ : CmdV).m).1 := ⟨_, rfl⟩
                    obtain ⟨y2, hy2⟩ : ∃ y2, y2 = (doP y1 (⟨bcl, bsq, bkd, MA, ML, mc, bks, bold, bnew, bn⟩ : CmdV).m).1 := ⟨_, rfl⟩
                    obtain ⟨z1, hz1⟩ : ∃ z1, z1 = (doP l0 (⟨bcl, bsq, bkd, MA, ML, mc, bks, bold, bnew, bn⟩ : CmdV).m).1 := ⟨_, rfl⟩
                    obtain ⟨ra, hra⟩ : ∃ ra, ra = (doP l0 (⟨acl, asq, akd, KA, KL, kc, aks, aold, anew, an⟩ : CmdV).m).2 := ⟨_, rfl⟩
                    obtain ⟨rb, hrb⟩ : ∃ rb, rb = (doP y1 (⟨bcl, bsq, bkd, MA, ML, mc, bks, bold, bnew, bn⟩ : CmdV).m).2 := ⟨_, rfl⟩
                    have hap := AP.out
                    rw [← hy1, ← hz1, ← hy2, ← hra, ← hrb] at hap
                    have YY := Lib.hid (And.intro hy1 (And.intro hy2 (And.intro hz1 (And.intro hra (And.intro hrb hap)))))
                    have LY := Lib.hid (show LimN 202 y1 by rw [hy1]; exact LIM0.out.doP _)
                    have LZ := Lib.hid (show LimN 202 z1 by rw [hz1]; exact LIM0.out.doP _)
                    have LY2 := Lib.hid (show LimN 204 y2 by rw [hy2]; exact LY.out.doP _)
                    clear hy1 hy2 hz1 hra hrb hap
                    go_upto_region 32 with (fail)
                    refine pqb_region (fun k P W => KW K Wn (n + 1 + 1) R4 (st3 l7 (upd l7 n y1) (upd (upd l7 n y1) n y2) k) P W ∧ ∀ b, P b → Wn.heap.size ≤ b) (pqi_kw K Wn (n + 1 + 1) R4 _) S3 S3 (⟨acl, asq, akd, KA, KL, kc, aks, aold, anew, an⟩ : CmdV) (⟨bcl, bsq, bkd, MA, ML, mc, bks, bold, bnew, bn⟩ : CmdV) pa pb ra rb _ U2 _ rfl rfl rfl rfl rfl ⟨K2.out, fun b h => h.elim⟩
                      (fun k P W h i u hu => by rw [blk_cell ((h.1.below.block pa (Array.getElem?_eq_some_iff.1 HK5.out.1).1).trans HK5.out.1)]; exact hu)
                      (fun k P W h i u hu => by rw [blk_cell ((h.1.below.block pb (Array.getElem?_eq_some_iff.1 HK5.out.2).1).trans HK5.out.2)]; exact hu)
                      (fun P W h => by
                        have h1 : KW K Wn (n + 1 + 1) R4 l7 P W := h.1
                        have hd := h1.do_ HT5.out n (by omega) (by rw [LL.out.1]; exact LIM0.out.lim (by omega)) (⟨acl, asq, akd, KA, KL, kc, aks, aold, anew, an⟩ : CmdV) (OKA5.out.below h1.below) NGA.out
                        rw [RR.out.1, LL.out.1, ← YY.out.1, ← YY.out.2.2.2.1] at hd
                        exact hd.mono fun _ _ ⟨a1, a2, a3⟩ => ⟨a1, ⟨a2, h.2⟩, a3⟩)
                      (fun P W h => by
                        have h1 : KW K Wn (n + 1 + 1) R4 (upd l7 n y1) P W := h.1
                        have hd := h1.do_ HT5.out n (by omega) (by rw [upd_same]; exact LY.out.lim (by omega)) (⟨bcl, bsq, bkd, MA, ML, mc, bks, bold, bnew, bn⟩ : CmdV) (OKB5.out.below h1.below) NGB.out
                        rw [RR.out.1, upd_same, ← YY.out.2.1, ← YY.out.2.2.2.2.1] at hd
                        exact hd.mono fun _ _ ⟨a1, a2, a3⟩ => ⟨a1, ⟨a2, h.2⟩, a3⟩) ?_
                    intro x0 y0 U3 hxy hI3 hrx hry
                    simp only [puts, List.foldl_cons, List.foldl_nil, Act.put, List.setIfInBounds_toArray, List.set_cons_succ, List.set_cons_zero]
                    obtain ⟨l8, hl8⟩ : ∃ l8, l8 = upd (upd l7 n y1) n y2 := ⟨_, rfl⟩
                    have k3 : KW K Wn (n + 1 + 1) R4 l8 (fun b => b = x0 ∨ b = y0) U3 := by rw [hl8]; exact hI3.1
                    have K3 := Lib.hid (k3.sub (Q := fun b => False ∨ (b = x0 ∨ b = y0)) (fun b hb => hb.elim (fun h => h.elim) id))
                    have LL8 := Lib.hid (show l8 n = y2 ∧ l8 (n + 1) = l0 by rw [hl8]; exact ⟨upd_same _ _ _, by rw [upd_other (by omega), upd_other (by omega)]; exact LL.out.2⟩)
                    have HR3 := Lib.hid (And.intro hrx hry)
                    clear hI3 k3 hl8 hrx hry
                    go_upto_region 33 with (fail)
                    refine pqc_region (fun k P W => (KW K Wn (n + 1 + 1) R4 (st3 l8 (upd l8 (n + 1) z1) (upd (upd l8 (n + 1) z1) (n + 1) y2) k) (fun b => P b ∨ (b = x0 ∨ b = y0)) W ∧ ∀ b, P b → Wn.heap.size ≤ b ∧ b ≠ x0 ∧ b ≠ y0) ∧ RepAt W x0 ra.1 ra.2 ∧ RepAt W y0 rb.1 rb.2) (pqi_kw2 K Wn (n + 1 + 1) R4 _ x0 y0 ra rb) S4 S4 (⟨bcl, bsq, bkd, MA, ML, mc, bks, bold, bnew, bn⟩ : CmdV) (⟨acl, asq, akd, KA, KL, kc, aks, aold, anew, an⟩ : CmdV) pb pa rb ra _ U3 _ rfl rfl rfl rfl rfl ⟨⟨K3.out, fun b h => h.elim⟩, HR3.out⟩
                      (fun k P W h i u hu => by rw [blk_cell ((h.1.1.below.block pb (Array.getElem?_eq_some_iff.1 HK5.out.2).1).trans HK5.out.2)]; exact hu)
                      (fun k P W h i u hu => by rw [blk_cell ((h.1.1.below.block pa (Array.getElem?_eq_some_iff.1 HK5.out.1).1).trans HK5.out.1)]; exact hu)
                      (fun P W h => by
                        have h1 : KW K Wn (n + 1 + 1) R4 l8 (fun b => P b ∨ (b = x0 ∨ b = y0)) W := h.1.1
                        have hd := h1.do_ HT5.out (n + 1) (by omega) (by rw [LL8.out.2]; exact LIM0.out.lim (by omega)) (⟨bcl, bsq, bkd, MA, ML, mc, bks, bold, bnew, bn⟩ : CmdV) (OKB5.out.below h1.below) NGB.out
                        rw [RR.out.2, LL8.out.2, ← YY.out.2.2.1, ← YY.out.2.2.2.2.2.2.2] at hd
                        exact hd.mono fun _ _ ⟨a1, a2, a3⟩ => ⟨a1, ⟨⟨a2, h.1.2⟩, rep_keep h.2.1 (a3 _ (.inr (.inl rfl))), rep_keep h.2.2 (a3 _ (.inr (.inr rfl)))⟩, fun b hb => a3 b (.inl hb)⟩)
                      (fun P W h => by
                        have h1 : KW K Wn (n + 1 + 1) R4 (upd l8 (n + 1) z1) (fun b => P b ∨ (b = x0 ∨ b = y0)) W := h.1.1
                        have hd := h1.do_ HT5.out (n + 1) (by omega) (by rw [upd_same]; exact LZ.out.lim (by omega)) (⟨acl, asq, akd, KA, KL, kc, aks, aold, anew, an⟩ : CmdV) (OKA5.out.below h1.below) NGA.out
                        rw [RR.out.2, upd_same, ← YY.out.2.2.2.2.2.1, ← YY.out.2.2.2.2.2.2.1] at hd
                        exact hd.mono fun _ _ ⟨a1, a2, a3⟩ => ⟨a1, ⟨⟨a2, h.1.2⟩, rep_keep h.2.1 (a3 _ (.inr (.inl rfl))), rep_keep h.2.2 (a3 _ (.inr (.inr rfl)))⟩, fun b hb => a3 b (.inl hb)⟩) ?_
                    intro x9 y9 U4 hxy2 hI4 hrx2 hry2
                    simp only [puts, List.foldl_cons, List.foldl_nil, Act.put, List.setIfInBounds_toArray, List.set_cons_succ, List.set_cons_zero]
                    obtain ⟨l9, hl9⟩ : ∃ l9, l9 = upd (upd l8 (n + 1) z1) (n + 1) y2 := ⟨_, rfl⟩
                    have k4 : KW K Wn (n + 1 + 1) R4 l9 (fun b => (b = x9 ∨ b = y9) ∨ (b = x0 ∨ b = y0)) U4 := by rw [hl9]; exact hI4.1.1
                    have hl9n : l9 n = y2 := by rw [hl9, upd_other (by omega), upd_other (by omega)]; exact LL8.out.1
                    have hl9m : l9 (n + 1) = y2 := by rw [hl9]; exact upd_same _ _ _
                    obtain ⟨bs, hbs, hsm⟩ := k4.same HT5.out n (n + 1) (by omega) (by omega) (by rw [hl9n]; exact LY2.out.lim (by omega)) (by rw [hl9m]; exact LY2.out.lim (by omega))
                    have hbt : bs = true := hbs.2 (by rw [hl9n, hl9m])
                    subst hbt
                    rw [RR.out.1, RR.out.2] at hsm
                    have HSM := Lib.hid hsm
                    obtain ⟨pc, hpc⟩ : ∃ pc, pc = ra.1 := ⟨_, rfl⟩
                    obtain ⟨pt, hpt⟩ : ∃ pt, pt = ra.2 := ⟨_, rfl⟩
                    obtain ⟨qc, hqc⟩ : ∃ qc, qc = rb.1 := ⟨_, rfl⟩
                    obtain ⟨qt, hqt⟩ : ∃ qt, qt = rb.2 := ⟨_, rfl⟩
                    have e1 : U4.heap[x0]? = _ := hI4.2.1
                    have e2 : U4.heap[y0]? = _ := hI4.2.2
                    have e3 : U4.heap[x9]? = _ := hrx2
                    have e4 : U4.heap[y9]? = _ := hry2
                    have c10 : U4.cell? ⟨x0, 0, none⟩ = some (.int .u8 (pc : Int)) := by rw [blk_cell e1 0, hpc]; rfl
                    have c11' : U4.cell? ⟨x0, 1, none⟩ = some (.string pt) := by rw [blk_cell e1 1, hpt]; rfl
                    have c20 : U4.cell? ⟨y0, 0, none⟩ = some (.int .u8 (qc : Int)) := by rw [blk_cell e2 0, hqc]; rfl
                    have c21 : U4.cell? ⟨y0, 1, none⟩ = some (.string qt) := by rw [blk_cell e2 1, hqt]; rfl
                    have c30 : U4.cell? ⟨x9, 0, none⟩ = some (.int .u8 (qc : Int)) := by rw [blk_cell e3 0, hqc]; rfl
                    have c31 : U4.cell? ⟨x9, 1, none⟩ = some (.string qt) := by rw [blk_cell e3 1, hqt]; rfl
                    have c40 : U4.cell? ⟨y9, 0, none⟩ = some (.int .u8 (pc : Int)) := by rw [blk_cell e4 0, hpc]; rfl
                    have c41 : U4.cell? ⟨y9, 1, none⟩ = some (.string pt) := by rw [blk_cell e4 1, hpt]; rfl
                    clear hI4 hrx2 hry2 k4 hl9 hl9n hl9m hbs hsm hpc hpt hqc hqt e1 e2 e3 e4
                    go_upto_region 34 with (fail)
                    go_wp2_with fail
                    refine HSM.out.mono ?_
                    rintro e U5 ⟨rfl, k5, -⟩
                    have B55 := Lib.hid (B5.out.trans (Below.mono k5.below B5.out.size))
                    clear k5 HSM c10 c11' c20 c21 c30 c31 c40 c41
                    go_wp2_with fail
                    refine (wakes9_any K _ (K.grew HT.out B55.out)).mono ?_
                    rintro e V9 ⟨rfl, hb9⟩
                    have B9 := Lib.hid (B55.out.trans (Below.mono hb9 B55.out.size))
                    clear hb9
                    go_wp2
                    go_ret
                    exact ⟨rfl, B9.out⟩
end Go.Proofs.YtfkdlmokigeemaaDoor
