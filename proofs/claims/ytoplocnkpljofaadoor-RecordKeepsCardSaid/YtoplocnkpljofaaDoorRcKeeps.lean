/- The walk of the law that what was synced is told. -/
import Derived.Test.YtoplocnkpljofaaDoorRcKeepM
import Derived.Test.YtoplocnkpljofaaDoorMRc
import Derived.Deep.DeepCutAuto
import Derived.Deep.CutBlock
namespace Go.Proofs.YtoplocnkpljofaaDoor
open Go.RowKit

set_option maxRecDepth 100000 in
set_option maxHeartbeats 16000000 in
theorem Keeps_any (P : DiskK) (T : TurnK P) (K : RecK P) (A0 : Option Addr) (n0 c0 : Nat) (ls : List (List UInt8)) (hn0 : n0 = ls.length) (hcap : n0 ≤ c0) (hnm : n0 ≤ maxLen) (sy kp tn : Nat) (hsy : sy < 256) (hkp : kp < 65536) (htn : tn < 65536) (w : World) (hT : Tab w) (hA0 : InBB w A0 ls) :
    Calls Tryd.prog 5 #[.slice A0 n0 c0, .int .u8 (sy : Int), .int .u16 (kp : Int), .int .u16 (tn : Int)] w fun e W' => e = .returned (.bool true) ∧ Below w.heap.size w W' := by
  have HT := Lib.hid hT
  have KT := Lib.hid T
  have HN0 := Lib.hid hn0
  have HA := Lib.hid hA0
  have hnm' : (n0 : Int) ≤ 9223372036854775807 := by simp only [maxLen] at hnm; omega
  have hsy' : (sy : Int) ≤ 255 := by omega
  have hkp' : (kp : Int) ≤ 65535 := by omega
  have htn' : (tn : Int) ≤ 65535 := by omega
  have hcap' : (n0 : Int) ≤ c0 := by omega
  clear hT T hn0 hA0 hnm hsy hkp htn hcap
  go_enter Tryd.func5, Tryd.ntmps5
  go_wp2_with fail
  refine (LiveD.new P w).mono ?_
  rintro e W1 ⟨R, rfl, hl1⟩
  have L1 := Lib.hid hl1
  clear hl1
  go_wp2_with fail
  refine (L1.out.opens K HT.out rfl (by show (opn [] 0).2.2 = 0; rw [opn_nil]) (by decide)).mono ?_
  rintro e W2 ⟨B, v, F', G, rfl, -, -, -, -, hv, hl2⟩
  rw [new_opened] at hl2
  obtain ⟨A2, L2', c2, rfl, -, -, -⟩ := hv
  have L2 := Lib.hid hl2
  clear hl2 L1
  go_upto_region 6 with (fail)
  go_cut [41] (fun s41 wx => W2 = wx ∧ s41 = .bool (decide (0 < n0)))
  case first =>
    go_wp2
    go_meet
    exact ⟨rfl, rfl⟩
  obtain ⟨rfl, rfl⟩ := hcut
  apply_assumption
  go_cut [13] (fun s13 wx => W2 = wx ∧ ∃ sr : Nat, Hid (n0 ≤ 30 → sr ≤ n0) ∧ s13 = .int .i64 (sr : Int))
  case first =>
    by_cases hz : n0 = 0
    · subst hz
      go_wp2
      go_meet
      exact ⟨rfl, 0, Lib.hid (fun _ => Nat.zero_le _), rfl⟩
    · have hzi : (0 : Int) < (n0 : Int) := by omega
      have hz1 : (1 : Int) ≤ (n0 : Int) := by omega
      by_cases hmx : n0 = 9223372036854775807
      · have hwr : wrap64 ((n0 : Int) + 1) = -9223372036854775808 := by rw [hmx]; unfold wrap64; omega
        have htm : Int.tmod (sy : Int) (-9223372036854775808) = (sy : Int) := by
          rw [Int.tmod_neg, Int.tmod_eq_of_lt (by omega) (by omega)]
        have HZ := Lib.hid (show n0 ≤ 30 → sy ≤ n0 by intro h; omega)
        clear hmx hz
        go_wp2
        go_meet
        exact ⟨rfl, sy, HZ, rfl⟩
      · have hm2 : (n0 : Int) ≤ 9223372036854775806 := by omega
        obtain ⟨sr, hsr⟩ : ∃ sr : Nat, sr = sy % (n0 + 1) := ⟨_, rfl⟩
        have hsri : (sy : Int) % ((n0 : Int) + 1) = (sr : Int) := by rw [hsr]; rfl
        have hsrl : sr ≤ n0 := by have := Nat.mod_lt sy (show n0 + 1 > 0 by omega); omega
        have HS := Lib.hid (And.intro hsri hsrl)
        clear hsri hsrl hsr hmx hz
        go_wp2
        go_meet
        exact ⟨rfl, sr, Lib.hid (fun _ => HS.out.2), by rw [HS.out.1]⟩
  case rest =>
    obtain ⟨rfl, sr, hsr, rfl⟩ := hcut
    go_wp2
    go_loopw [14] (fun i wr => ∃ k : Nat, k ≤ n0 ∧ k ≤ 30 ∧ i = .int .i64 (k : Int) ∧ Hid (LiveL K w R B (KS ls sr k) wr ∧ Short (ls.take k))) (fun i _ => n0 - (intOf i).toNat)
    case atStart => exact ⟨0, Nat.zero_le _, Nat.zero_le _, rfl, Lib.hid ⟨by rw [KS_new]; exact L2.out, by intro x hx; simp at hx⟩⟩
    case round =>
      obtain ⟨k, hk, hk30, rfl, HS⟩ := hrel
      by_cases hlt : k < n0
      · have hki : (k : Int) < n0 := by omega
        have hkl : k < ls.length := by rw [← HN0.out]; exact hlt
        obtain ⟨b, o, e, hb, hc⟩ := HA.out (by rintro rfl; simp at hkl)
        subst e
        obtain ⟨A', L', c', f0, hL', hLc', hA'⟩ := hc k hkl
        obtain ⟨x, hx⟩ : ∃ x, x = ls[k] := ⟨_, rfl⟩
        rw [← hx] at hL' hA'
        have g0 := (HS.out.1.below.cell (p := ⟨b, o + k, none⟩) hb).trans f0
        have HX := Lib.hid hx
        have F0 := Lib.hid f0
        clear hx f0 hc
        by_cases h1 : L' = 0
        · have h1i : ((L' : Int) == 0) = true := by simp; omega
          clear hL' hA' hLc' h1
          go_wp2_with fail
          refine (wakes6 P KT.out K wr (HT.out.grew HS.out.1.below)).mono ?_
          rintro e W20 ⟨rfl, hb20⟩
          have HB := Lib.hid (HS.out.1.below.trans (Below.mono hb20 HS.out.1.below.size))
          clear hb20
          go_wp2
          go_ret
          exact ⟨rfl, HB.out⟩
        have h1i : ((L' : Int) == 0) = false := by simp; omega
        by_cases h2 : 100 < L'
        · have h2i : (100 : Int) < L' := by omega
          clear hL' hA' hLc' h1 h2
          go_wp2_with fail
          refine (wakes6 P KT.out K wr (HT.out.grew HS.out.1.below)).mono ?_
          rintro e W20 ⟨rfl, hb20⟩
          have HB := Lib.hid (HS.out.1.below.trans (Below.mono hb20 HS.out.1.below.size))
          clear hb20
          go_wp2
          go_ret
          exact ⟨rfl, HB.out⟩
        have h2i : ¬ (100 : Int) < L' := by omega
        by_cases h3 : 30 ≤ k
        · have h3i : (30 : Int) ≤ k := by omega
          clear hL' hA' hLc' h1 h2 h3
          go_wp2_with fail
          refine (wakes6 P KT.out K wr (HT.out.grew HS.out.1.below)).mono ?_
          rintro e W20 ⟨rfl, hb20⟩
          have HB := Lib.hid (HS.out.1.below.trans (Below.mono hb20 HS.out.1.below.size))
          clear hb20
          go_wp2
          go_ret
          exact ⟨rfl, HB.out⟩
        have h3i : ¬ (30 : Int) ≤ k := by omega
        have hfit : Fit x := ⟨by omega, by omega⟩
        have hshort : Short (ls.take (k + 1)) := by
          intro z hz
          rw [List.take_succ_eq_append_getElem hkl, List.mem_append, List.mem_singleton] at hz
          rcases hz with hz | hz
          · exact HS.out.2 z hz
          · rw [hz, ← HX.out]; exact ⟨by omega, by omega⟩
        have hlen : (frms (ls.take k)).length ≤ 105 * k := by
          have := frms_most (ls.take k) HS.out.2 k (by rw [List.length_take]; omega)
          rwa [List.take_take, Nat.min_self] at this
        have HSH := Lib.hid hshort
        have HR := Lib.hid (And.intro hL' (And.intro hLc' (And.intro (hA'.below' (Below.refl _ _)) (And.intro hfit hlen))))
        clear hL' hA' hLc' h1 h2 h3 hfit hshort hlen
        have hL1 : (1 : Int) ≤ L' := by simp at h1i; omega
        by_cases hks : k = sr
        · subst hks
          have hsy := KS_sync ls k
          go_wp2_with fail
          refine HS.out.1.sync.mono ?_
          rintro e W4 ⟨he, hl4⟩
          rw [hsy] at he hl4
          obtain rfl : e = .returned (.int .i64 0) := he
          have L4 := Lib.hid hl4
          have g4 := (hl4.below.cell (p := ⟨b, o + k, none⟩) hb).trans F0.out
          clear hl4 hsy
          go_wp2_with fail
          refine (L4.out.app A' L' c' x HT.out HR.out.1 HR.out.2.1 (by omega) (by show (frms (ls.take k)).length + _ ≤ _; have h1 := HR.out.2.2.2.2; have h2 := HR.out.1; omega) (HR.out.2.2.1.below' L4.out.below)).mono ?_
          rintro e W5 ⟨he, hl5⟩
          rw [HX.out, KY_step ls k hkl (by rw [← HX.out]; exact HR.out.2.2.2.1)] at he hl5
          obtain rfl : e = .returned (.int .i64 0) := he
          have L5 := Lib.hid (And.intro hl5 HSH.out)
          clear hl5
          go_wp2
          exact ⟨⟨k + 1, by omega, by omega, by congr 1, L5⟩, by simp only [intOf]; omega⟩
        · have hksi : ((k : Int) == (sr : Int)) = false := by simp; omega
          have HKS := Lib.hid hks
          clear hks
          go_wp2_with fail
          refine (HS.out.1.app A' L' c' x HT.out HR.out.1 HR.out.2.1 (by omega) (by show (frms (ls.take k)).length + _ ≤ _; have h1 := HR.out.2.2.2.2; have h2 := HR.out.1; omega) (HR.out.2.2.1.below' HS.out.1.below)).mono ?_
          rintro e W5 ⟨he, hl5⟩
          rw [HX.out, KS_step ls sr k hkl HKS.out (by rw [← HX.out]; exact HR.out.2.2.2.1)] at he hl5
          obtain rfl : e = .returned (.int .i64 0) := he
          have L5 := Lib.hid (And.intro hl5 HSH.out)
          clear hl5
          go_wp2
          exact ⟨⟨k + 1, by omega, by omega, by congr 1, L5⟩, by simp only [intOf]; omega⟩
      · obtain rfl : k = n0 := by omega
        have hshort : Short ls := by have := HS.out.2; rw [HN0.out, List.take_length] at this; exact this
        have hsrn : sr ≤ k := hsr.out hk30
        have HSH := Lib.hid hshort
        have HSR := Lib.hid hsrn
        clear hshort hsrn hsr hlt hk
        go_upto_region 15 with (fail)
        go_cut [98] (fun s98 wx => s98 = .bool false ∧ Hid (LiveD P w R (KF ls sr) wx))
        case first =>
          by_cases hks : sr = k
          · have hl := HS.out.1
            rw [← hks] at hl
            have HL := Lib.hid hl
            subst hks
            clear hl
            go_wp2_with fail
            refine HL.out.sync.mono ?_
            rintro e W4 ⟨he, hl4⟩
            rw [KS_sync] at he hl4
            obtain rfl : e = .returned (.int .i64 0) := he
            have e5 : KY ls sr = KF ls sr := by have := KY_last ls; rwa [← HN0.out] at this
            rw [e5] at hl4
            have L4 := Lib.hid hl4.disk
            clear hl4 e5
            go_wp2
            go_meet
            exact ⟨rfl, L4⟩
          · have hksi : ((sr : Int) == (k : Int)) = false := by simp; omega
            have hl := HS.out.1.disk
            have e5 : KS ls sr k = KF ls sr := by rw [HN0.out]; exact KS_last ls sr (by have := HSR.out; rw [← HN0.out]; omega)
            rw [e5] at hl
            have L4 := Lib.hid hl
            clear hl hks e5
            go_wp2
            go_meet
            exact ⟨rfl, L4⟩
        obtain ⟨rfl, L5⟩ := hcut
        clear HS L2
        apply_assumption
        have HLEN := Lib.hid (show (frms ls).length ≤ 105 * k ∧ k ≤ 30 from ⟨by have := frms_most ls HSH.out k (by rw [← HN0.out]; exact Nat.le_refl _); rw [HN0.out, List.take_length] at this; rw [HN0.out]; exact this, hk30⟩)
        go_wp2_with fail
        refine L5.out.bytes.mono ?_
        rintro e W6 ⟨v6, Lb, rfl, ho6, hl6, -⟩
        have hLb : Lb = (frms ls).length := own_len ho6
        obtain ⟨A6, c6, rfl⟩ := own_form ho6
        have L6 := Lib.hid hl6
        have HLB := Lib.hid hLb
        clear hl6 ho6 hLb L5
        go_wp2_with fail
        refine L6.out.synced.mono ?_
        rintro e W7 ⟨he, hl7, -⟩
        obtain ⟨y, hy⟩ : ∃ y, y = (frms (ls.take sr)).length := ⟨_, rfl⟩
        obtain rfl : e = .returned (.int .i64 (y : Int)) := he.trans (by rw [hy]; rfl)
        have hyL : y ≤ Lb := by rw [hy, HLB.out]; exact frms_take_le ls sr
        have hLbm : (Lb : Int) ≤ 3150 := by have h1 := HLEN.out; have h2 := HLB.out; omega
        have L7 := Lib.hid hl7
        obtain ⟨N, hN⟩ : ∃ N : Nat, N = kp % (Lb - y + 1) := ⟨_, rfl⟩
        have hNl : N ≤ Lb - y := by have := Nat.mod_lt kp (show Lb - y + 1 > 0 by omega); omega
        have hNi : (kp : Int) % ((Lb : Int) - (y : Int) + 1) = (N : Int) := by
          have e1 : (Lb : Int) - (y : Int) + 1 = ((Lb - y + 1 : Nat) : Int) := by omega
          rw [e1, hN]; rfl
        have hyi : (y : Int) ≤ Lb := by omega
        have HY := Lib.hid (And.intro hy (And.intro hNl (And.intro hNi hyL)))
        clear hl7 L6 hN hNi hy hNl hyL
        go_wp2_with fail
        rw [HY.out.2.2.1]
        refine (L7.out.crash (N : Int) ⟨by omega, by have := HY.out; omega⟩).mono ?_
        rintro e W8 ⟨he, hl8⟩
        rw [KF_crash ls sr N (by rw [← HY.out.1, ← HLB.out]; have := HY.out; omega)] at he hl8
        obtain rfl : e = .returned (.int .i64 0) := he
        have L8 := Lib.hid hl8
        clear hl8 L7
        go_wp2_with fail
        refine L8.out.restart.mono ?_
        rintro e W9 ⟨he, hl9⟩
        obtain rfl : e = .returned (.int .i64 0) := he
        obtain ⟨kept, hk1, hk2, hopn, htk⟩ := opn_torn ls HSH.out.fit sr ((frms (ls.take sr)).length + N) (by rw [← HN0.out]; exact HSR.out) (by omega) (by rw [← HY.out.1, ← HLB.out]; have := HY.out; omega)
        have hg0 := KG_torn ls kept _ _ hopn htk (by have := HLEN.out; omega)
        rw [← HN0.out] at hk2
        have hl9' : LiveD P w R ⟨(frms ls).take ((frms (ls.take sr)).length + N), (frms (ls.take sr)).length, false, none⟩ W9 := hl9
        have L9 := Lib.hid (And.intro hl9' hg0)
        have HGA := Lib.hid (KG_again ls HSH.out kept (by have := HLEN.out; omega))
        clear hl9 hl9' hg0 hopn htk L8
        go_wp2
        go_loopw [15, 16] (fun v15 i wx => ∃ j : Nat, j ≤ 2 ∧ i = .int .i64 (j : Int) ∧ ∃ kv : Nat, v15 = .int .i64 (kv : Int) ∧ Hid (∃ s, LiveD P w R s wx ∧ KG ls kept s ∧ (1 ≤ j → kv = kept ∧ s = KO ls kept))) (fun _ i _ => 2 - (intOf i).toNat)
        case atStart => exact ⟨0, by omega, rfl, 0, rfl, Lib.hid ⟨_, L9.out.1, L9.out.2, fun h => by omega⟩⟩
        case round =>
          obtain ⟨j, hj, rfl, kv, rfl, HS2⟩ := hrel
          by_cases hlt2 : j < 2
          · have hji : (j : Int) < 2 := by omega
            obtain ⟨s, hls, hgs, -⟩ := HS2.out
            have HG := Lib.hid hgs
            have LS := Lib.hid hls
            clear hls hgs HS2
            go_wp2_with fail
            refine (LS.out.opens K HT.out HG.out.1 (by rw [HG.out.2.1]) HG.out.2.2.2).mono ?_
            rintro e W10 ⟨B10, v10, F10, G10, rfl, -, -, -, -, hv10, hl10⟩
            rw [HG.out.2.1] at hv10
            rw [HG.out.2.2.1] at hl10
            obtain ⟨A10, L10', c10, rfl, hL10, -⟩ := id hv10
            obtain rfl : L10' = kept := hL10.trans (by rw [List.length_take, ← HN0.out]; omega)
            have L10 := Lib.hid hl10.disk
            have HV10 := Lib.hid hv10.isBB
            have hks : ¬ ((L10' : Int) < (sr : Int)) := by omega
            have hkn : ¬ ((k : Int) < (L10' : Int)) := by omega
            clear hv10 hl10 hL10 LS HG hlt2
            go_wp2
            go_loopw [20] (fun i wx => ∃ p : Nat, p ≤ L10' ∧ i = .int .i64 (p : Int) ∧ Hid (Below W10.heap.size W10 wx)) (fun i _ => L10' - (intOf i).toNat)
            case atStart => exact ⟨0, Nat.zero_le _, rfl, Lib.hid (Below.refl _ _)⟩
            case round =>
              obtain ⟨p, hp, rfl, HB3⟩ := hrel
              by_cases hlt3 : p < L10'
              · have hpi : (p : Int) < L10' := by omega
                have hpk : (p : Int) < k := by omega
                have hpl : p < ls.length := by rw [← HN0.out]; omega
                have hpt : p < (ls.take L10').length := by rw [List.length_take]; omega
                obtain ⟨b1, o1, A1', M1, d1, e1, lb1, f1, m1, a1⟩ := HV10.out.at.2 p hpt
                obtain ⟨b2, o2, e2, lb2, hc2⟩ := HA.out (by rintro rfl; simp at hpl)
                obtain ⟨A2', M2, d2, f2, m2, -, a2⟩ := hc2 p hpl
                subst e1
                subst e2
                have hrow : (ls.take L10')[p] = ls[p] := by simp
                rw [hrow] at m1 a1
                obtain ⟨X, hX⟩ : ∃ X, X = ls[p] := ⟨_, rfl⟩
                rw [← hX] at m1 a1 m2 a2
                have hbw := L10.out.below.trans (Below.mono HB3.out L10.out.below.size)
                have g1 := (HB3.out.cell (p := ⟨b1, o1 + p, none⟩) lb1).trans f1
                have g2 := (hbw.cell (p := ⟨b2, o2 + p, none⟩) lb2).trans f2
                have q1 := run_conv (P := Tryd.prog) (a1.below' HB3.out.drew) d1 Tryd.underlying29 Tryd.underlying5 Tryd.underlying9 m1
                have q2 := run_conv (P := Tryd.prog) (a2.below' hbw.drew) d2 Tryd.underlying29 Tryd.underlying5 Tryd.underlying9 m2
                clear hX hrow a1 a2 m1 m2 f1 f2 hc2 hbw hpl hpt hlt3
                go_upto_region 29 with (fail)
                go_region
                all_goals go_wp2
                all_goals exact ⟨⟨p + 1, by omega, by congr 1, Lib.hid HB3.out.drew⟩, by simp only [intOf]; omega⟩
              · obtain rfl : p = L10' := by omega
                clear hlt3
                go_wp2
                exact ⟨⟨j + 1, by omega, by congr 1, p, rfl, Lib.hid ⟨KO ls p, L10.out.grew HB3.out, HGA.out, fun _ => ⟨rfl, rfl⟩⟩⟩, by simp only [intOf]; omega⟩
          · obtain rfl : j = 2 := by omega
            obtain ⟨s, hls, -, hkk⟩ := HS2.out
            obtain ⟨hkv, hso⟩ := hkk (by omega)
            subst hso
            have LS := Lib.hid hls
            have HKV := Lib.hid hkv
            have hkvk : kv ≤ k := by rw [hkv]; exact hk2
            have hkvi : (kv : Int) ≤ k := by omega
            clear hls hkk HS2 hlt2 hkv
            by_cases hz : kv = 0
            · have hzi : ((kv : Int) == 0) = true := by simp; omega
              clear hz
              go_wp2_with fail
              refine (wakes6 P KT.out K _ (HT.out.grew LS.out.below)).mono ?_
              rintro e W20 ⟨rfl, hb20⟩
              have HB := Lib.hid (LS.out.below.trans (Below.mono hb20 LS.out.below.size))
              clear hb20
              go_wp2
              go_ret
              exact ⟨rfl, HB.out⟩
            · have hzi : ((kv : Int) == 0) = false := by simp; omega
              have HZ := Lib.hid (show 1 ≤ kv by omega)
              have hsl : ∀ w' : World, (Instr.sliceAt 35 (.slice A0 k c0) none (some (.int .i64 (kv : Int))) none).run Tryd.prog w' = .ok (.slice A0 kv c0) w' := by
                intro w'
                have h1 : (kv : Int) ≤ c0 := by omega
                cases A0 <;> simp [go_sem, h1]
              clear hz
              go_wp2_with fail
              refine (LS.out.crash 0 ⟨by omega, by omega⟩).mono ?_
              rintro e W11 ⟨he, hl11⟩
              rw [KO_crash, ← HKV.out] at he hl11
              obtain rfl : e = .returned (.int .i64 0) := he
              have L11 := Lib.hid hl11
              clear hl11 LS
              go_wp2_with fail
              refine (Place_any A0 kv c0 (ls.take kv) (by rw [List.length_take, ← HN0.out]; omega) HZ.out (by have := HLEN.out.2; omega) (fun x hx => HSH.out x (List.mem_of_mem_take hx)) tn (by omega) W11 ((HA.out.below (Below.mono L11.out.below (Nat.le_refl _))).take kv)).mono ?_
              rintro e W12 ⟨⟨i, q, hi, hq, rfl⟩, rfl⟩
              have hkp := KT_place (ls.take kv) (fun x hx => HSH.out x (List.mem_of_mem_take hx)) i q hi hq
              have hbad := opn_turn (ls.take kv) (fun x hx => HSH.out.fit x (List.mem_of_mem_take hx)) i q hi hq
              obtain ⟨p, hp⟩ : ∃ p, p = 8 * ((frms ((ls.take kv).take (i + 1))).length - ((ls.take kv)[i]).length - 4) + q := ⟨_, rfl⟩
              rw [← hp] at hkp hbad ⊢
              have htl := frms_take_le ls kv
              have hpm : (p : Int) ≤ 100000 := by have := HLEN.out; omega
              have HBD := Lib.hid (And.intro hbad hkp)
              clear hp hi hq hbad hkp htl
              go_wp2_with fail
              refine (LiveD.turn KT.out (p : Int) L11.out ⟨by omega, by omega⟩).mono ?_
              rintro e W13 ⟨he, hl13⟩
              rw [turn_is _ _ _ HBD.out.2.1] at he hl13
              obtain rfl : e = .returned (.int .i64 0) := he
              have L13 := Lib.hid hl13
              clear hl13 L11
              go_wp2_with fail
              refine L13.out.restart.mono ?_
              rintro e W14 ⟨he, hl14⟩
              obtain rfl : e = .returned (.int .i64 0) := he
              have hl14' : LiveD P w R ⟨turn (frms (ls.take kv)) p, (frms (ls.take kv)).length, false, none⟩ W14 := hl14
              obtain ⟨Z, hZ⟩ : ∃ Z, Z = turn (frms (ls.take kv)) p := ⟨_, rfl⟩
              obtain ⟨E, hE⟩ : ∃ E, E = (frms (ls.take kv)).length := ⟨_, rfl⟩
              have hb22 : (opn Z E).2.2 = 22 := by rw [hZ, hE, HBD.out.1]
              have hZl : Z.length ≤ 100000 := by
                rw [hZ, turn_length]
                have := frms_take_le ls kv; have := HLEN.out; omega
              rw [← hZ, ← hE] at hl14'
              have L14 := Lib.hid hl14'
              have HB22 := Lib.hid (And.intro hb22 hZl)
              clear hl14 hl14' L13 hZ hE hb22 hZl hsl
              go_wp2_with fail
              refine L14.out.bytes.mono ?_
              rintro e W15 ⟨v15, Lz, rfl, ho15, hl15, -⟩
              obtain ⟨A15, c15, rfl⟩ := own_form ho15
              have hconv := run_conv (P := Tryd.prog) (w := W15) (HasA.of_own ho15) c15 Tryd.underlying29 Tryd.underlying5 Tryd.underlying9 (n := Lz) (own_len ho15)
              have L15 := Lib.hid hl15
              clear hl15 ho15 L14
              go_wp2
              go_loopw [22] (fun i wx => ∃ j : Nat, j ≤ 2 ∧ i = .int .i64 (j : Int) ∧ Hid (LiveD P w R ⟨Z, E, false, none⟩ wx)) (fun i _ => 2 - (intOf i).toNat)
              case atStart => exact ⟨0, by omega, rfl, L15⟩
              case round =>
                obtain ⟨j, hj4, rfl, L16⟩ := hrel
                by_cases hlt4 : j < 2
                · have hji : (j : Int) < 2 := by omega
                  clear hlt4 hconv
                  go_wp2_with fail
                  refine (L16.out.openBad K HT.out rfl HB22.out.1 HB22.out.2).mono ?_
                  rintro e W17 ⟨v17, rfl, -, hl17, -⟩
                  have L17 := Lib.hid hl17
                  clear hl17 L16
                  go_wp2_with fail
                  refine L17.out.bytes.mono ?_
                  rintro e W18 ⟨v18, Lz2, rfl, ho18, hl18, -⟩
                  obtain ⟨A18, c18, rfl⟩ := own_form ho18
                  have hconv := run_conv (P := Tryd.prog) (w := W18) (HasA.of_own ho18) c18 Tryd.underlying29 Tryd.underlying5 Tryd.underlying9 (n := Lz2) (own_len ho18)
                  have L18 := Lib.hid hl18
                  clear hl18 ho18 L17
                  go_wp2
                  exact ⟨⟨j + 1, by omega, by congr 1, L18⟩, by simp only [intOf]; omega⟩
                · obtain rfl : j = 2 := by omega
                  clear hlt4 hconv
                  go_wp2_with fail
                  refine (wakes6 P KT.out K _ (HT.out.grew L16.out.below)).mono ?_
                  rintro e W20 ⟨rfl, hb20⟩
                  have HB := Lib.hid (L16.out.below.trans (Below.mono hb20 L16.out.below.size))
                  clear hb20
                  go_wp2
                  go_ret
                  exact ⟨rfl, HB.out⟩
end Go.Proofs.YtoplocnkpljofaaDoor
