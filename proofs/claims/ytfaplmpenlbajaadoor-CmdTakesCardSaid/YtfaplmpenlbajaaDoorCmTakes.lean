/- The walk of the law CmdTakes. -/
import Derived.Test.YtfaplmpenlbajaaDoorCmTakesR
import Derived.Deep.DeepCutAuto
namespace Go.Proofs.YtfaplmpenlbajaaDoor
open Go.RowKit

set_option maxRecDepth 100000 in
set_option maxHeartbeats 8000000 in
theorem Takes_any {T : World → Prop} (K : CmdK T) (xa : CmdV) (A : Option Addr) (L c : Nat) (more : List UInt8) (w : World) (hT : T w) (ha : xa.ok w) (hL : L = more.length) (hLc : L ≤ c) (hLm : L ≤ maxLen) (hA : HasA w w.heap.size A more) :
    Calls Tryd.prog 4 #[xa.val, .slice A L c] w fun e W' => e = .returned (.bool true) ∧ Below w.heap.size w W' := by
  obtain ⟨i0, hi, hz0, hz1, hz2⟩ := info_parts info5
  have HL := Lib.hid (And.intro hL hLc)
  have HA := Lib.hid hA
  have OKA := Lib.hid ha
  have HT := Lib.hid hT
  clear hT
  have hLi : (L : Int) ≤ 9223372036854775807 := by simp only [maxLen] at hLm; omega
  clear hL hLc hA ha
  obtain ⟨acl, asq, akd, KA, KL, kc, aks, aold, anew, an⟩ := xa
  simp only [CmdV.val, CmdV.cells]
  go_enter Tryd.func4, Tryd.ntmps4
  go_upto_region 1 with (fail)
  obtain ⟨W0, hW0⟩ : ∃ W0, W0 = w.alloc (Obj.cells #[.int .u32 (acl : Int), .int .u32 (asq : Int), .int .u8 (akd : Int), .slice KA KL kc, .string aold, .string anew, .int .i64 an] 26) := ⟨_, rfl⟩
  rw [← hW0]
  obtain ⟨pc, hpc⟩ : ∃ pc, pc = w.heap.size := ⟨_, rfl⟩
  have hB : Below w.heap.size w W0 := by rw [hW0]; exact (Below.refl _ w).alloc (Nat.le_refl _) _
  have k1 : W0.heap[pc]? = some (.cells #[.int .u32 (acl : Int), .int .u32 (asq : Int), .int .u8 (akd : Int), .slice KA KL kc, .string aold, .string anew, .int .i64 an] 26 (0, 0)) := by
    rw [hW0, hpc]
    exact World.alloc_heap_new w _
  rw [← hpc]
  have x0 := blk_cell k1 0
  have x1 := blk_cell k1 1
  have x2 := blk_cell k1 2
  have x3 := blk_cell k1 3
  have x4 := blk_cell k1 4
  have x5 := blk_cell k1 5
  have x6 := blk_cell k1 6
  simp at x0 x1 x2 x3 x4 x5 x6
  have B0 := Lib.hid hB
  have HK := Lib.hid k1
  have OKA0 := Lib.hid (OKA.out.below hB)
  clear hW0 hpc hB k1
  go_wp2_with fail
  refine (GreatC_any (some ⟨W0.heap.size, 0, none⟩) 1 1 [(⟨acl, asq, akd, KA, KL, kc, aks, aold, anew, an⟩ : CmdV)] rfl (by omega) _ (HasC.one (b := W0.heap.size) (World.alloc_heap_new W0 _) (OKA0.out.below ((Below.refl _ W0).alloc (Nat.le_refl _) _)))).mono ?_
  rintro e V1 ⟨he, hb⟩
  have hb1 : Below W0.heap.size W0 V1 := ((Below.refl W0.heap.size W0).alloc (Nat.le_refl _) _).trans (Below.mono hb (by simp))
  have B1 := Lib.hid (B0.out.trans (Below.mono hb1 B0.out.size))
  have B01 := Lib.hid hb1
  clear x0 x1 x2 x3 x4 x5 x6
  cases hg : GreatB [(⟨acl, asq, akd, KA, KL, kc, aks, aold, anew, an⟩ : CmdV)] with
  | true =>
    rw [hg] at he
    subst he
    clear hb hb1 hg
    go_wp2_with fail
    refine (wakes8 K _ (K.grew HT.out B1.out)).mono ?_
    rintro e V9 ⟨rfl, hb9⟩
    have B9 := Lib.hid (B1.out.trans (Below.mono hb9 B1.out.size))
    clear hb9
    go_wp2
    go_ret
    exact ⟨rfl, B9.out⟩
  | false =>
    rw [hg] at he
    subst he
    have hng : ¬ GreatC [(⟨acl, asq, akd, KA, KL, kc, aks, aold, anew, an⟩ : CmdV)] := fun h => by have := GreatB_iff.2 h; rw [hg] at this; cases this
    have SHA := Lib.hid (CmdV.short (a := (⟨acl, asq, akd, KA, KL, kc, aks, aold, anew, an⟩ : CmdV)) (fun h => hng (.inr ⟨0, by simp, h⟩)))
    have k1 := (hb1.block pc (Array.getElem?_eq_some_iff.1 HK.out).1).trans HK.out
    have HK1 := Lib.hid k1
    clear hb hb1 hg hng
    by_cases hL1000 : 1000 < L
    · have hL1 : (1000 : Int) < L := by omega
      clear hL1000 k1
      go_wp2_with fail
      refine (wakes8 K _ (K.grew HT.out B1.out)).mono ?_
      rintro e V9 ⟨rfl, hb9⟩
      have B9 := Lib.hid (B1.out.trans (Below.mono hb9 B1.out.size))
      clear hb9
      go_wp2
      go_ret
      exact ⟨rfl, B9.out⟩
    have hL1 : ¬ (1000 : Int) < L := by omega
    have x0 := blk_cell k1 0
    have x1 := blk_cell k1 1
    have x2 := blk_cell k1 2
    have x3 := blk_cell k1 3
    have x4 := blk_cell k1 4
    have x5 := blk_cell k1 5
    have x6 := blk_cell k1 6
    simp at x0 x1 x2 x3 x4 x5 x6
    clear k1
    go_wp2_with fail
    refine (refMay_any (⟨acl, asq, akd, KA, KL, kc, aks, aold, anew, an⟩ : CmdV) V1 (OKA.out.below B1.out)).mono ?_
    rintro e V2 ⟨he, hb⟩
    have B2 := Lib.hid (B1.out.trans (Below.mono hb B1.out.size))
    have B12 := Lib.hid hb
    clear x0 x1 x2 x3 x4 x5 x6
    cases hm : (CmdV.m (⟨acl, asq, akd, KA, KL, kc, aks, aold, anew, an⟩ : CmdV)).may with
    | false =>
      rw [hm] at he
      subst he
      clear hb hm
      go_wp2_with fail
      refine (wakes8 K _ (K.grew HT.out B2.out)).mono ?_
      rintro e V9 ⟨rfl, hb9⟩
      have B9 := Lib.hid (B2.out.trans (Below.mono hb9 B2.out.size))
      clear hb9
      go_wp2
      go_ret
      exact ⟨rfl, B9.out⟩
    | true =>
      rw [hm] at he
      subst he
      have MY := Lib.hid (CM.may_iff.1 hm)
      have k1 := (hb.block pc (Array.getElem?_eq_some_iff.1 HK1.out).1).trans HK1.out
      have HK2 := Lib.hid k1
      have x0 := blk_cell k1 0
      have x1 := blk_cell k1 1
      have x2 := blk_cell k1 2
      have x3 := blk_cell k1 3
      have x4 := blk_cell k1 4
      have x5 := blk_cell k1 5
      have x6 := blk_cell k1 6
      simp at x0 x1 x2 x3 x4 x5 x6
      have hone := CM.one_len (CM.may_iff.1 hm) (CmdV.ok.wf OKA.out)
      clear hb hm k1
      obtain ⟨one, ho⟩ : ∃ one, one = (CmdV.m (⟨acl, asq, akd, KA, KL, kc, aks, aold, anew, an⟩ : CmdV)).one := ⟨_, rfl⟩
      have HONE := Lib.hid ho
      rw [← ho] at hone
      clear ho
      go_wp2_with fail
      refine (K.put none 0 0 [] (⟨acl, asq, akd, KA, KL, kc, aks, aold, anew, an⟩ : CmdV) V2 (K.grew HT.out B2.out) rfl (by omega) (by omega) (HasA.nil _ _ _) (OKA.out.below B2.out) SHA.out).mono ?_
      rintro e V3 ⟨v3, n3, rfl, hown, hb⟩
      rw [List.nil_append, ← HONE.out] at hown
      obtain ⟨A3, c3, rfl⟩ := own_form hown
      have hn3 : n3 ≤ 898 := by have := own_len hown; omega
      have O3 := Lib.hid hown
      have B3 := Lib.hid (B2.out.trans (Below.mono hb B2.out.size))
      have B23 := Lib.hid hb
      have HA3 := Lib.hid ((HA.out.below' B2.out).below' hb)
      have hszv := hb.size
      clear hown hb x0 x1 x2 x3 x4 x5 x6
      go_wp2_with (first | (at_builtin; go_loud (refine wpList_append_has rfl (.tmp 23) (.tmp 24) 29 rfl V2.heap.size 5 i0 Tryd.underlying29 hi hz0 hz1 hz2 (.slice A3 n3 c3) n3 one rfl O3.out _ A L c more rfl HL.out.1 HA3.out (by omega) hszv ?_; intro u4 U4 hown4 hg4; have hb4 : Below V2.heap.size V2 U4 := B23.out.grown hg4 B23.out.size (fun k e => (O3.out.lt k e).1); obtain ⟨A4, c4, rfl⟩ := own_form hown4; have O4 := Lib.hid hown4; have B24 := Lib.hid hb4; clear hown4 hg4 hb4)) | fail)
      have hlen : (one ++ more).length ≤ 10000 := by have := HL.out.1; rw [List.length_append]; omega
      refine (NewR_q A4 (n3 + L) c4 (one ++ more) (own_len O4.out) (by omega) (HasA.of_own O4.out) (lim := 64)).mono ?_
      rintro e V5 ⟨R, rfl, hq, hR, hb⟩
      have B5 := Lib.hid ((B2.out.trans (Below.mono B24.out B2.out.size)).trans (Below.mono hb (Nat.le_trans B2.out.size B24.out.size)))
      have B25 := Lib.hid (B24.out.trans (Below.mono hb B24.out.size))
      have HQ := Lib.hid hq
      have hRw : w.heap.size ≤ R := Nat.le_trans B2.out.size (Nat.le_trans B24.out.size hR)
      have hR2 : V2.heap.size ≤ R := Nat.le_trans B24.out.size hR
      clear hq hb hR
      go_wp2_with fail
      refine (K.take R (CmdV.m (⟨acl, asq, akd, KA, KL, kc, aks, aold, anew, an⟩ : CmdV)) more V5 (K.grew HT.out B5.out) MY.out (CmdV.ok.wf OKA.out) (by rw [← HONE.out]; rw [List.length_append] at hlen; exact hlen) (by rw [← HONE.out]; exact HQ.out)).mono ?_
      rintro e V6 ⟨xt, rfl, hok, hxm, hq, hg⟩
      have hB26 : Below V2.heap.size V2 V6 := below_grown B25.out B25.out.size hR2 hg
      have hB6 : Below w.heap.size w V6 := B2.out.trans (Below.mono hB26 B2.out.size)
      have HXM := Lib.hid hxm
      have OKT := Lib.hid hok
      have HQ6 := Lib.hid hq
      have B26 := Lib.hid hB26
      have B6 := Lib.hid hB6
      clear hq hg hok hxm hB26 hB6 hlen
      obtain ⟨tcl, tsq, tkd, TA, TL, tc, tks, told, tnew, tn⟩ := xt
      simp only [CmdV.val, CmdV.cells]
      go_upto_region 5 with (fail)
      obtain ⟨V7, hV7⟩ : ∃ V7, V7 = V6.alloc (Obj.cells #[.int .u32 (tcl : Int), .int .u32 (tsq : Int), .int .u8 (tkd : Int), .slice TA TL tc, .string told, .string tnew, .int .i64 tn] 26) := ⟨_, rfl⟩
      rw [← hV7]
      obtain ⟨px, hpx⟩ : ∃ px, px = V6.heap.size := ⟨_, rfl⟩
      rw [← hpx]
      have hB7 : Below V6.heap.size V6 V7 := by rw [hV7]; exact (Below.refl _ V6).alloc (Nat.le_refl _) _
      have k2 : V7.heap[px]? = some (.cells #[.int .u32 (tcl : Int), .int .u32 (tsq : Int), .int .u8 (tkd : Int), .slice TA TL tc, .string told, .string tnew, .int .i64 tn] 26 (0, 0)) := by
        rw [hV7, hpx]
        exact World.alloc_heap_new V6 _
      have k1 := ((B26.out.trans (Below.mono hB7 B26.out.size)).block pc (Array.getElem?_eq_some_iff.1 HK2.out).1).trans HK2.out
      have x0 := blk_cell k1 0
      have x1 := blk_cell k1 1
      have x2 := blk_cell k1 2
      have x3 := blk_cell k1 3
      have x4 := blk_cell k1 4
      have x5 := blk_cell k1 5
      have x6 := blk_cell k1 6
      simp at x0 x1 x2 x3 x4 x5 x6
      have y0 := blk_cell k2 0
      have y1 := blk_cell k2 1
      have y2 := blk_cell k2 2
      have y3 := blk_cell k2 3
      have y4 := blk_cell k2 4
      have y5 := blk_cell k2 5
      have y6 := blk_cell k2 6
      simp at y0 y1 y2 y3 y4 y5 y6
      have B7 := Lib.hid (B6.out.trans (Below.mono hB7 B6.out.size))
      have HQ7 := Lib.hid (HQ6.out.below hB7)
      have OKT7 := Lib.hid (OKT.out.below hB7)
      clear hV7 hpx hB7 k1 k2
      go_wp2_with fail
      refine (refSame_any (⟨tcl, tsq, tkd, TA, TL, tc, tks, told, tnew, tn⟩ : CmdV) (⟨acl, asq, akd, KA, KL, kc, aks, aold, anew, an⟩ : CmdV) V7 OKT7.out (OKA.out.below B7.out)).mono ?_
      rintro e V8 ⟨he, hb⟩
      rw [CmdV.same_m.2 HXM.out] at he
      subst he
      have B8 := Lib.hid (B7.out.trans (Below.mono hb B7.out.size))
      have HQ8 := Lib.hid (HQ7.out.below hb)
      clear hb x0 y0 x1 y1 x2 y2 x3 y3 x4 y4 x5 y5 x6 y6
      go_wp2_with fail
      refine (ErrR_q HQ8.out).mono ?_
      rintro e W8 ⟨rfl, rfl⟩
      go_wp2
      go_loopw [7] (fun i wr => ∃ k : Nat, k ≤ L ∧ i = .int .i64 (k : Int) ∧ Hid (Below w.heap.size w wr) ∧ Hid (RdQ wr R 64 ⟨0, more.drop k⟩)) (fun i _ => L - (intOf i).toNat)
      case atStart => exact ⟨0, Nat.zero_le _, rfl, B8, Lib.hid (by rw [List.drop_zero]; exact HQ8.out)⟩
      case round =>
        obtain ⟨k, hk, rfl, HB, HR⟩ := hrel
        by_cases hlt : k < L
        · have hki : (k : Int) < L := by omega
          have hk1 : k < more.length := by have := HL.out.1; omega
          obtain ⟨bm, om, e1, l1, f1⟩ := HA.out (by rintro rfl; simp at hk1)
          subst e1
          have g1 := f1 k hk1
          obtain ⟨x, hx⟩ : ∃ x, x = more[k] := ⟨_, rfl⟩
          have hd : more.drop k = x :: more.drop (k + 1) := by rw [hx]; exact List.drop_eq_getElem_cons hk1
          rw [hd] at HR
          rw [← hx] at g1
          have HG := Lib.hid (And.intro l1 g1)
          clear hx hd f1 g1 l1
          go_wp2
          refine takes_byte w R bm om L c k x (more.drop (k + 1)) hlt hRw _ _ _ rfl rfl rfl rfl HB.out HR.out HG.out.1 HG.out.2 ?_
          rintro W9 ⟨h9, hq9⟩
          have H9 := Lib.hid h9
          have HQ9 := Lib.hid hq9
          clear h9 hq9
          simp only [puts, List.foldl_cons, List.foldl_nil, Act.put, List.setIfInBounds_toArray, List.set_cons_succ, List.set_cons_zero]
          go_wp2
          exact ⟨⟨k + 1, by omega, by congr 1, H9, HQ9⟩, by simp only [intOf]; omega⟩
        · have hki : ¬ (k : Int) < L := by omega
          obtain rfl : k = L := by omega
          have hnil : more.drop k = [] := List.drop_eq_nil_of_le (by have := HL.out.1; omega)
          rw [hnil] at HR
          clear hnil hlt hk
          go_wp2_with fail
          refine (DoneR_q HR.out).mono ?_
          rintro e W9 ⟨he, hg⟩
          have e0 : RdS.done ⟨0, []⟩ = 0 := rfl
          rw [e0] at he
          subst he
          have B9 := Lib.hid (below_grown HB.out HB.out.size hRw hg)
          clear hg
          go_wp2_with fail
          refine (wakes8 K _ (K.grew HT.out B9.out)).mono ?_
          rintro e W10 ⟨rfl, hb⟩
          have B10 := Lib.hid (B9.out.trans (Below.mono hb B9.out.size))
          clear hb
          go_wp2
          go_ret
          exact ⟨rfl, B10.out⟩
end Go.Proofs.YtfaplmpenlbajaaDoor
