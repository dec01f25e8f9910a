/- The walk of the law that what is synced stays, over a disk of the program. -/
import Derived.Test.YteiednjhliobeaaDkR15
import Derived.Test.YteiednjhliobeaaDkWakes
import Derived.Deep.DeepCutAuto
import Derived.Deep.CutBlock
import Derived.Deep.RegionHeld3
namespace Go.Proofs.Yteiednjhliobeaa
open Go.RowKit

set_option maxRecDepth 100000 in
set_option maxHeartbeats 8000000 in
theorem keeps_any (P : DiskK) (A : Option Addr) (L c : Nat) (l : List ActD) (hL : L = l.length) (hLm : L ≤ 140737488351232) (w : World) (hA : InActsD w A l) :
    Calls Try.prog 3 #[.slice A L c] w fun e W' => e = .returned (.bool true) ∧ Below w.heap.size w W' := by
  have HL := Lib.hid hL
  have HA := Lib.hid hA
  clear hL hA
  go_enter Try.func3, Try.ntmps3
  go_wp2_with fail
  refine (Great_any A L c l HL.out hLm w HA.out).mono ?_
  rintro e w' ⟨rfl, rfl⟩
  cases hgr : great l with
  | true =>
    clear hgr
    go_wp2_with fail
    refine (wakes5 P w).mono ?_
    rintro e W1 ⟨rfl, hb⟩
    have HB := Lib.hid hb
    clear hb
    go_wp2
    go_ret
    exact ⟨rfl, HB.out⟩
  | false =>
    have hgl : l.length ≤ 200 ∧ sumTo l l.length ≤ 10000 := by
      simp [great] at hgr; exact hgr
    have hL200 : (L : Int) ≤ 200 := by rw [HL.out]; omega
    have HG := Lib.hid hgl
    clear hgr hgl
    go_wp2_with fail
    refine (LiveD.new P w).mono ?_
    rintro e W1 ⟨R, rfl, hl1⟩
    have H1 := Lib.hid hl1
    clear hl1
    go_wp2
    go_loopw [4, 5] (fun v i wr => ∃ k : Nat, k ≤ L ∧ i = .int .i64 (k : Int) ∧ ∃ sure : List UInt8, v = .string (str sure) ∧ Hid (∃ s, LiveD P w R s wr ∧ Sure sure s ∧ s.A.length ≤ sumTo l k)) (fun _ i _ => L - (intOf i).toNat)
    case atStart => exact ⟨0, Nat.zero_le _, rfl, [], rfl, Lib.hid ⟨DS.new, H1.out, ⟨Nat.zero_le _, rfl⟩, Nat.zero_le _⟩⟩
    case round =>
      obtain ⟨k, hk, rfl, sure, rfl, hs⟩ := hrel
      by_cases hlt : k < L
      · have hki : (k : Int) < L := by omega
        have hkl : k < l.length := by rw [← HL.out]; exact hlt
        obtain ⟨lb, lo, e, hlb, hc⟩ := HA.out (by rintro rfl; simp at hkl)
        subst e
        obtain ⟨s, hl, hsu, hsl⟩ := hs.out
        obtain ⟨f0, f1, f2, hok⟩ := hc k hkl
        obtain ⟨a, ha⟩ : ∃ a, a = l[k] := ⟨_, rfl⟩
        rw [← ha] at f0 f1 f2 hok
        have hsm : sumTo l k + a.L = sumTo l (k + 1) := by rw [ha, sumTo_succ l k hkl]
        have hsT : sumTo l (k + 1) ≤ 10000 := Nat.le_trans (sumTo_le l (k + 1) (by omega)) HG.out.2
        have g0 := (hl.below.cell (p := ⟨lb, lo + k * 3, none⟩) hlb).trans f0
        have hd256 : (a.d : Int) < 256 := by have := hok.1; omega
        have HS := Lib.hid (And.intro hl (And.intro hsu hsl))
        have HM := Lib.hid (And.intro hsm hsT)
        have HOK := Lib.hid hok
        have HF := Lib.hid (And.intro f0 (And.intro f1 f2))
        clear hl hsu hsl hc hok ha f0 f1 f2 hsm hsT
        by_cases h5 : a.d % 7 = 5
        · have hdi : (a.d : Int) % 7 = 5 := by omega
          clear h5
          go_wp2
          exact ⟨⟨k + 1, by omega, by congr 1, sure, rfl, Lib.hid ⟨s, HS.out.1, HS.out.2.1, Nat.le_trans HS.out.2.2 (by have := HM.out.1; omega)⟩⟩, by simp only [intOf]; omega⟩
        · obtain ⟨q, hq⟩ : ∃ q, q = a.d % 7 := ⟨_, rfl⟩
          have hqi : (a.d : Int) % 7 = (q : Int) := by omega
          have hq7 : q < 7 := by omega
          have hqn5 : ¬ (q : Int) = 5 := by omega
          have HQ := Lib.hid hq
          have H5 := Lib.hid h5
          clear hq h5
          go_upto_region 9 with (fail)
          refine keeps_before P w R s _ _ _ rfl rfl HS.out.1 ?_
          intro v29 W2 _ hg2
          simp only [puts, List.foldl_cons, List.foldl_nil, Act.put, List.setIfInBounds_toArray, List.set_cons_succ, List.set_cons_zero]
          obtain ⟨dd, hdd⟩ : ∃ d, d = s.dead := ⟨_, rfl⟩
          rw [← hdd]
          have HDD := Lib.hid hdd
          clear hdd
          have hl2 := HS.out.1.grew hg2
          have k0 := (hl2.below.cell (p := ⟨lb, lo + k * 3, none⟩) hlb).trans HF.out.1
          have k1 := (hl2.below.cell (p := ⟨lb, lo + k * 3 + 1, none⟩) hlb).trans HF.out.2.1
          have k2 := (hl2.below.cell (p := ⟨lb, lo + k * 3 + 2, none⟩) hlb).trans HF.out.2.2
          have HL2 := Lib.hid hl2
          clear hg2 hl2 g0
          go_wp2_with fail
          refine (Does_any P w R s W2 HL2.out a HOK.out H5.out (by have := HS.out.2.2; have := HM.out; have := HOK.out.2.2.1; omega)).mono ?_
          rintro e W3 ⟨rfl, hl3⟩
          obtain ⟨t, ht⟩ : ∃ t, t = (s.act a).1 := ⟨_, rfl⟩
          obtain ⟨er, her⟩ : ∃ er, er = (s.act a).2 := ⟨_, rfl⟩
          rw [← ht] at hl3
          rw [← her]
          have HT := Lib.hid (And.intro ht her)
          have HL3 := Lib.hid hl3
          clear hl3 ht her k0 k1 k2
          go_wp2_with fail
          refine HL3.out.bytes.mono ?_
          rintro e W4 ⟨v, L4, rfl, ho, hl4, -⟩
          obtain ⟨A4, c4, rfl⟩ := own_form ho
          have hconv := run_conv (P := Try.prog) (w := W4) (HasA.of_own ho) c4 Try.underlying27 Try.underlying5 Try.underlying9 (n := L4) (own_len ho)
          have HL4 := Lib.hid hl4
          clear hl4 HL3 ho
          obtain ⟨N, hN⟩ : ∃ N, N = t.A := ⟨_, rfl⟩
          obtain ⟨B, hB⟩ : ∃ B, B = s.A := ⟨_, rfl⟩
          rw [← hN] at hconv
          rw [← hB]
          have zN := str_size N
          have zB := str_size B
          have zS := str_size sure
          have HN := Lib.hid hN
          have HB := Lib.hid hB
          clear hN hB
          have hsu3 : Sure sure t := by rw [HT.out.1]; exact HS.out.2.1.act HS.out.1.sy a H5.out
          have hsl3 : (sure.length : Int) ≤ N.length := by have := hsu3.len; rw [HN.out]; omega
          have hn1 : ¬ (N.length : Int) < sure.length := by omega
          have hcutS : (str N).extract 0 sure.length = str sure := by rw [str_extract, HN.out]; simp only [List.drop_zero, Nat.sub_zero]; rw [hsu3.2]
          have hy3 : ¬ (t.y : Int) < sure.length := by have := hsu3.1; omega
          have hdead : dd = true → N = B := fun h => by rw [HN.out, HB.out, HT.out.1]; exact act_dead (HDD.out.symm.trans h) a H5.out
          have HD := Lib.hid hdead
          have HSU := Lib.hid hsu3
          clear hdead hsu3
          go_upto_region 12 with (fail)
          clear hconv
          go_cut [69] (fun v wx => v = .bool false ∧ Hid (LiveD P w R t wx))
          case first =>
            go_wp2_with fail
            refine HL4.out.synced.mono ?_
            rintro e W5 ⟨rfl, hl5, -⟩
            have HL5 := Lib.hid hl5
            clear hl5
            cases dd with
            | true =>
              have hNB := HD.out rfl
              subst hNB
              go_wp2
              go_meet
              exact ⟨by first | rfl | (congr 1; simp only [Bool.or_eq_false_iff, decide_eq_false_iff_not]; omega) | (congr 1; simp; omega), HL5.out⟩
            | false =>
              go_wp2
              go_meet
              exact ⟨by first | rfl | (congr 1; simp only [Bool.or_eq_false_iff, decide_eq_false_iff_not]; omega) | (congr 1; simp; omega), HL5.out⟩
          case rest =>
            obtain ⟨rfl, hl5⟩ := hcut
            clear hcutS hy3 hn1 hsl3
            have k0 := (hl5.out.below.cell (p := ⟨lb, lo + k * 3, none⟩) hlb).trans HF.out.1
            have k2 := (hl5.out.below.cell (p := ⟨lb, lo + k * 3 + 2, none⟩) hlb).trans HF.out.2.2
            have hbl : B.length ≤ 10000 := by have h1 := HS.out.2.2; have h2 := HM.out; rw [HB.out]; omega
            have hal : a.L ≤ 10000 := by have h2 := HM.out; omega
            have hbli : (B.length : Int) ≤ 10000 := by omega
            have hali : (a.L : Int) ≤ 10000 := by omega
            have happ : q = 0 → (er = 20 ∧ N = B) ∨ (er = 0 ∧ N = B ++ a.x) ∨ (er = 21 ∧ (∃ f, f < a.x.length ∧ N = B ++ a.x.take f) ∧ t.dead = true) := fun h => by
              rw [HT.out.2, HN.out, HB.out, HT.out.1]
              exact act_app a (HQ.out.symm.trans h)
            have hlong : q = 0 → B.length ≤ N.length ∧ N.length ≤ B.length + a.L ∧ N.take B.length = B := fun h => by
              have hL := HOK.out.2.2.1
              rcases happ h with ⟨_, e⟩ | ⟨_, e⟩ | ⟨_, ⟨f, hf, e⟩, _⟩
              · rw [e]; exact ⟨Nat.le_refl _, by omega, List.take_length⟩
              · rw [e]; exact ⟨by simp, by simp; omega, by simp⟩
              · rw [e]; exact ⟨by simp, by simp; omega, by simp⟩
            have HAP := Lib.hid happ
            have HLG := Lib.hid hlong
            clear happ hlong
            go_upto_region 14 with (fail)
            go_cut [10] (fun v wx => wc = wx ∧ ∃ b, v = .bool b ∧ (q = 0 → b = true))
            case first =>
              have hcutB : (str N).extract 0 B.length = str (N.take B.length) := by rw [str_extract]; simp
              by_cases h1 : B.length ≤ N.length
              · have h1i : (B.length : Int) ≤ N.length := by omega
                by_cases h2 : N.length ≤ B.length + a.L
                · have h2i : (N.length : Int) ≤ B.length + a.L := by omega
                  by_cases hE : N.take B.length = B
                  · rw [hE] at hcutB
                    have HE := Lib.hid hE
                    clear hE
                    go_wp2
                    go_meet
                    exact ⟨rfl, _, rfl, fun _ => by simp [h1, h2]⟩
                  · have HE := Lib.hid hE
                    obtain ⟨Y, hY⟩ : ∃ Y, Y = N.take B.length := ⟨_, rfl⟩
                    rw [← hY] at hcutB hE
                    have hYB : ((str Y).toList == (str B).toList) = false := by rw [str_toList, str_toList]; exact beq_eq_false_iff_ne.2 hE
                    clear hY hE
                    go_wp2
                    go_meet
                    exact ⟨rfl, _, rfl, fun h => absurd (HLG.out h).2.2 HE.out⟩
                · have h2i : ¬ (N.length : Int) ≤ B.length + a.L := by omega
                  go_wp2
                  go_meet
                  exact ⟨rfl, _, rfl, fun h => absurd (HLG.out h).2.1 h2⟩
              · have h1i : ¬ (B.length : Int) ≤ N.length := by omega
                go_wp2
                go_meet
                exact ⟨rfl, _, rfl, fun h => absurd (HLG.out h).1 h1⟩
            case rest =>
              obtain ⟨rfl, b, rfl, hb⟩ := hcut
              have HBq := Lib.hid hb
              have hlbc : lb < wc.heap.size := Nat.lt_of_lt_of_le hlb hl5.out.below.size
              have hd8 : a.d < 256 := HOK.out.1
              have hLx := HOK.out.2.2.1
              have hLc := HOK.out.2.2.2.2.2
              clear hb
              go_upto_region 15 with (fail)
              go_cut [157] (fun v wx => v = .bool false ∧ Hid (LiveD P w R t wx))
              case first =>
                by_cases hq0 : q = 0
                · obtain rfl := HBq.out hq0
                  rcases HAP.out hq0 with ⟨he, hN⟩ | ⟨he, hN⟩ | ⟨he, ⟨f, hf, hN⟩, hdd⟩
                  · subst he
                    have HNN := Lib.hid hN
                    clear hN
                    refine keeps_dead P w R t lb lo L c k a.d q N B a.x a.A a.L a.c 0 true hlt hd8 HQ.out.symm hq0 _ _ _ rfl rfl rfl rfl rfl rfl rfl rfl hlbc k0 k2 (HOK.out.2.2.2.2.1.below' hl5.out.below) hl5.out ?_
                    intro W9 hg9
                    simp only [puts, List.foldl_cons, List.foldl_nil, Act.put, List.setIfInBounds_toArray, List.set_cons_succ, List.set_cons_zero]
                    go_wp2
                    go_meet
                    exact ⟨rfl, hl5.out.grew hg9⟩
                  · subst he
                    have HNN := Lib.hid hN
                    clear hN
                    refine keeps_ok P w R t lb lo L c k a.d q N B a.x a.A a.L a.c a.L true hlt hd8 HQ.out.symm hq0 (by rw [HNN.out, List.length_append, hLx]) (Nat.le_refl _) hLc hLx hbl hal (by rw [HNN.out, hLx]; simp) rfl _ _ _ rfl rfl rfl rfl rfl rfl rfl rfl hlbc k0 k2 (HOK.out.2.2.2.2.1.below' hl5.out.below) hl5.out ?_
                    intro W9 hg9
                    simp only [puts, List.foldl_cons, List.foldl_nil, Act.put, List.setIfInBounds_toArray, List.set_cons_succ, List.set_cons_zero]
                    go_wp2
                    go_meet
                    exact ⟨rfl, hl5.out.grew hg9⟩
                  · subst he
                    have HNN := Lib.hid hN
                    clear hN
                    refine keeps_torn P w R t lb lo L c k a.d q N B a.x a.A a.L a.c f true hlt hd8 HQ.out.symm hq0 (by rw [HNN.out, List.length_append, List.length_take]; omega) (by omega) hLc hLx hbl hal (by rw [HNN.out]; simp) hdd _ _ _ rfl rfl rfl rfl rfl rfl rfl rfl hlbc k0 k2 (HOK.out.2.2.2.2.1.below' hl5.out.below) hl5.out ?_
                    intro W9 hg9
                    simp only [puts, List.foldl_cons, List.foldl_nil, Act.put, List.setIfInBounds_toArray, List.set_cons_succ, List.set_cons_zero]
                    go_wp2
                    go_meet
                    exact ⟨rfl, hl5.out.grew hg9⟩
                · refine keeps_other P w R t lb lo L c k a.d q N B a.x a.A a.L a.c 0 b er hlt hd8 HQ.out.symm hq0 _ _ _ rfl rfl rfl rfl rfl rfl rfl rfl hlbc k0 k2 (HOK.out.2.2.2.2.1.below' hl5.out.below) hl5.out ?_
                  intro W9 hg9
                  simp only [puts, List.foldl_cons, List.foldl_nil, Act.put, List.setIfInBounds_toArray, List.set_cons_succ, List.set_cons_zero]
                  go_wp2
                  go_meet
                  exact ⟨rfl, hl5.out.grew hg9⟩
              case rest =>
                obtain ⟨rfl, hl7⟩ := hcut
                have j0 := (hl7.out.below.cell (p := ⟨lb, lo + k * 3, none⟩) hlb).trans HF.out.1
                have hyN : ¬ (N.length : Int) < (t.y : Int) := by have := hl7.out.sy; rw [HN.out]; omega
                have htl : t.A.length ≤ sumTo l (k + 1) := by
                  have h1 := act_len s a H5.out
                  rw [← HT.out.1] at h1
                  have h2 := HS.out.2.2
                  have h3 := HM.out.1
                  omega
                have hsync : q = 1 → er = 0 → Sure N t := fun h1 h2 => by
                  have := act_sync a (HQ.out.symm.trans h1) (HT.out.2.symm.trans h2)
                  rw [← HT.out.1] at this
                  exact ⟨by rw [HN.out, this]; exact Nat.le_refl _, by rw [HN.out, List.take_length]⟩
                have HSY := Lib.hid hsync
                have HTL := Lib.hid htl
                clear hsync htl hal hbl hali hbli k0 k2 hlbc hd8 hLx hLc
                have fin : ∀ (su : List UInt8) (W9 : World), LiveD P w R t W9 → Sure su t → Hid (∃ s, LiveD P w R s W9 ∧ Sure su s ∧ s.A.length ≤ sumTo l (k + 1)) := fun su W9 h1 h2 => Lib.hid ⟨t, h1, h2, HTL.out⟩
                have FIN := Lib.hid fin
                clear fin
                by_cases hq1 : q = 1
                · have hq1i : (q : Int) = 1 := by omega
                  by_cases he0 : er = 0
                  · have he0i : (er : Int) = 0 := by omega
                    have HSN := Lib.hid (HSY.out hq1 he0)
                    clear hq1 he0
                    go_wp2_with fail
                    refine hl7.out.synced.mono ?_
                    rintro e W8 ⟨rfl, hl8, -⟩
                    have HL8 := Lib.hid hl8
                    clear hl8
                    go_wp2
                    exact ⟨⟨k + 1, by omega, by congr 1, N, rfl, FIN.out _ _ HL8.out HSN.out⟩, by simp only [intOf]; omega⟩
                  · have he0i : ¬ (er : Int) = 0 := by omega
                    clear hq1 he0
                    go_wp2_with fail
                    refine hl7.out.synced.mono ?_
                    rintro e W8 ⟨rfl, hl8, -⟩
                    have HL8 := Lib.hid hl8
                    clear hl8
                    go_wp2
                    exact ⟨⟨k + 1, by omega, by congr 1, sure, rfl, FIN.out _ _ HL8.out HSU.out⟩, by simp only [intOf]; omega⟩
                · have hq1i : ¬ (q : Int) = 1 := by omega
                  clear hq1
                  go_wp2_with fail
                  refine hl7.out.synced.mono ?_
                  rintro e W8 ⟨rfl, hl8, -⟩
                  have HL8 := Lib.hid hl8
                  clear hl8
                  go_wp2
                  exact ⟨⟨k + 1, by omega, by congr 1, sure, rfl, FIN.out _ _ HL8.out HSU.out⟩, by simp only [intOf]; omega⟩
      · obtain rfl : L = k := by omega
        obtain ⟨s, hl, -, -⟩ := hs.out
        have B9 := Lib.hid hl.below
        clear hl
        go_wp2_with fail
        refine (wakes5 P _).mono ?_
        rintro e W7 ⟨rfl, hb7⟩
        have B7 := Lib.hid (B9.out.trans (Below.mono hb7 B9.out.size))
        clear hb7
        go_wp2
        go_ret
        exact ⟨rfl, B7.out⟩
end Go.Proofs.Yteiednjhliobeaa
