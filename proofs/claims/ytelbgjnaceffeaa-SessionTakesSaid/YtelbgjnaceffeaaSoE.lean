/- The partial insertion sort of a row of numbers; a part turned round. -/
import Derived.Test.YtelbgjnaceffeaaSoD
namespace Go.Proofs.Ytelbgjnaceffeaa
open Go.RowKit Go.Sort

section
variable (lt : Int → Int → Bool) {d : Array Int}
theorem scanS_on {e i : Nat} (h : i < e) (hp : (!lt d[i]! d[i - 1]!) = true) : scanSorted lt d e i = scanSorted lt d e (i + 1) := by
  conv => lhs; rw [scanSorted]
  rw [if_pos (by rw [hp, Bool.and_true]; exact decide_eq_true h)]
theorem scanS_off {e i : Nat} (h : (decide (i < e) && !lt d[i]! d[i - 1]!) = false) : scanSorted lt d e i = i := by
  rw [scanSorted, if_neg (by rw [h]; exact Bool.false_ne_true)]
theorem shiftD_on {j : Nat} (h1 : 1 ≤ j) (hp : lt d[j]! d[j - 1]! = true) : shiftDown lt j d = shiftDown lt (j - 1) (swp d j (j - 1)) := by
  cases j with
  | zero => omega
  | succ k =>
    have hp' : lt d[k + 1]! d[k]! = true := hp
    conv => lhs; rw [shiftDown]
    rw [if_neg (by rw [hp']; simp)]
    rfl
theorem shiftD_off {j : Nat} (h : j = 0 ∨ lt d[j]! d[j - 1]! = false) : shiftDown lt j d = d := by
  cases j with
  | zero => rfl
  | succ k =>
    have hp' : lt d[k + 1]! d[k]! = false := by
      rcases h with h | h
      · cases h
      · exact h
    rw [shiftDown, if_pos (by rw [hp']; rfl)]
theorem shiftU_on {e j : Nat} (h : j < e) (hp : lt d[j]! d[j - 1]! = true) : shiftUp lt e j d = shiftUp lt e (j + 1) (swp d j (j - 1)) := by
  conv => lhs; rw [shiftUp]
  rw [if_pos h, if_neg (by rw [hp]; simp)]
theorem shiftU_off {e j : Nat} (h : ¬ j < e ∨ lt d[j]! d[j - 1]! = false) : shiftUp lt e j d = d := by
  rw [shiftUp]
  by_cases hj : j < e
  · rw [if_pos hj, if_pos (by rcases h with h | h; exact absurd hj h; rw [h]; rfl)]
  · rw [if_neg hj]
end
set_option maxRecDepth 100000 in
set_option maxHeartbeats 16000000 in
theorem pins_n {w W0 : World} {b off n : Nat} {pre rest : List Value} {d : Array Int} (cap a e : Nat) (hs : SR w b off n pre rest d W0) (hae : a < e) (he : e ≤ n) (hsz : n < 1152921504606846976) :
    Calls Try.prog 48 #[.slice (some ⟨b, off, none⟩) n cap, .int .i64 (a : Int), .int .i64 (e : Int)] W0 fun x W => x = .returned (.bool (partialInsertionSort ltInt d a e).2) ∧ SR w b off n pre rest (partialInsertionSort ltInt d a e).1 W := by
  have HS := Lib.hid hs
  obtain ⟨r, hr⟩ : ∃ r, r = partialInsertionSort ltInt d a e := ⟨_, rfl⟩
  rw [← hr]
  have HR := Lib.hid hr
  clear hs hr
  go_enter Try.func48, Try.ntmps48
  go_wp2
  go_loopw [7, 8] (fun vi vs wr => ∃ (i s : Nat) (dk : Array Int), vi = .int .i64 (i : Int) ∧ vs = .int .i64 (s : Int) ∧ a < i ∧ i ≤ e ∧ s ≤ 5 ∧ Hid (SR w b off n pre rest dk wr ∧ partialIns ltInt a e (5 - s) i dk = r)) (fun _ vs _ => 5 - (intOf vs).toNat)
  case atStart => exact ⟨a + 1, 0, d, by go_num, rfl, by omega, by omega, by omega, Lib.hid ⟨HS.out, by rw [HR.out]; rfl⟩⟩
  case round =>
    obtain ⟨i, s, dk, rfl, rfl, hai, hie, hs5, HI⟩ := hrel
    by_cases hs4 : s < 5
    · have hsz4 : (s : Int) < 5 := by omega
      obtain ⟨m, hm⟩ : ∃ m, 5 - s = m + 1 := ⟨4 - s, by omega⟩
      have hm2 : 5 - (s + 1) = m := by omega
      have HM := Lib.hid hm2
      have hro : partialIns ltInt a e (m + 1) i dk = r := by rw [← hm]; exact HI.out.2
      have HRO := Lib.hid hro
      clear hm hm2 hro
      obtain ⟨G, hG⟩ : ∃ G : Nat → Int, ∀ t, G t = dk[t]! := ⟨fun t => dk[t]!, fun _ => rfl⟩
      have HG := Lib.hid hG
      clear hG
      go_wp2
      go_loopw [7] (fun vi wr => ∃ (z0 : Nat), vi = .int .i64 (z0 : Int) ∧ i ≤ z0 ∧ z0 ≤ e ∧ Hid (SR w b off n pre rest dk wr ∧ scanSorted ltInt dk e z0 = scanSorted ltInt dk e i)) (fun vi _ => e - (intOf vi).toNat)
      case atStart => exact ⟨i, rfl, Nat.le_refl _, hie, Lib.hid ⟨HI.out.1, rfl⟩⟩
      case round =>
        obtain ⟨x, rfl, hx1, hx2, HX⟩ := hrel
        have hcw : ∀ t, t < n → wr.cell? ⟨b, off + t, none⟩ = some (.int .u32 (G t)) := fun t ht => by rw [HG.out]; exact HX.out.1.cell ht
        have hfw : ∀ t, t < n → wr.frozen? ⟨b, off + t, none⟩ = false := fun t _ => HX.out.1.frozen t
        obtain ⟨tb, htb⟩ : ∃ t, t = (decide (x < e) && !ltInt (G x) (G (x - 1))) := ⟨_, rfl⟩
        have HXT := Lib.hid htb
        clear htb
        go_upto_region 5 with (fail)
        go_cut [32] (fun s wx => s = .bool tb ∧ Hid (SR w b off n pre rest dk wx))
        case first =>
          by_cases hxl : x < e
          · have hxz : (x : Int) < (e : Int) := by omega
            go_quiet (first | (go_at_call 49; refine Calls.quiet_of_same (less_n _ _ _)))
            go_wp2
            go_meet
            exact ⟨by rw [HXT.out, decide_eq_true hxl, Bool.true_and], Lib.hid (HX.out.1.drewN _)⟩
          · have hxz : ¬ (x : Int) < (e : Int) := by omega
            go_quiet (first | (go_at_call 49; refine Calls.quiet_of_same (less_n _ _ _)))
            go_wp2
            go_meet
            exact ⟨by rw [HXT.out, decide_eq_false hxl, Bool.false_and], Lib.hid (HX.out.1.drewN _)⟩
        case rest =>
          obtain ⟨rfl, HXW⟩ := hcut
          clear hcw hfw
          cases tb with
          | true =>
            obtain ⟨hxl, hxp⟩ := and_parts HXT.out.symm
            have HP := Lib.hid hxp
            clear hxp
            go_wp2
            go_roundw
            case rel => exact ⟨x + 1, by go_num, by omega, by omega, Lib.hid ⟨HXW.out, by rw [← HX.out.2, scanS_on ltInt (d := dk) hxl (by rw [← HG.out, ← HG.out]; exact HP.out)]⟩⟩
            case measure => simp [intOf]; omega
          | false =>
            have hxs : scanSorted ltInt dk e i = x := by
              rw [← HX.out.2, scanS_off ltInt (d := dk) (by have := HXT.out; rw [HG.out, HG.out] at this; exact this.symm)]
            have HXS := Lib.hid hxs
            have hst := partialIns_succ (lt := ltInt) a e m i dk
            rw [hxs, HRO.out] at hst
            have HST := Lib.hid hst
            clear hxs hst
            by_cases hxe : x = e
            · subst hxe
              have hf : r = (dk, true) := by rw [HST.out, if_pos rfl]
              have HF := Lib.hid hf
              clear hf
              go_wp2
              go_ret
              rw [HF.out]
              exact ⟨rfl, HXW.out⟩
            · have hxez : ¬ (x : Int) = (e : Int) := by omega
              by_cases h50 : e - a < 50
              · have h50z : (e : Int) - (a : Int) < 50 := by omega
                have hf : r = (dk, false) := by rw [HST.out, if_neg hxe, if_pos h50]
                have HF := Lib.hid hf
                clear hf
                go_wp2
                go_ret
                rw [HF.out]
                exact ⟨rfl, HXW.out⟩
              · have h50z : ¬ (e : Int) - (a : Int) < 50 := by omega
                obtain ⟨y, hy⟩ : ∃ y, y = x - 1 := ⟨_, rfl⟩
                have hyz : (x : Int) - 1 = (y : Int) := by omega
                have hyx : y < x := by omega
                have hay : a ≤ y := by omega
                obtain ⟨d1, hd1⟩ : ∃ q, q = swp dk x y := ⟨_, rfl⟩
                obtain ⟨d2, hd2⟩ : ∃ q, q = if x - a ≥ 2 then shiftDown ltInt y d1 else d1 := ⟨_, rfl⟩
                obtain ⟨d3, hd3⟩ : ∃ q, q = if e - x ≥ 2 then shiftUp ltInt e (x + 1) d2 else d2 := ⟨_, rfl⟩
                have hgo : partialIns ltInt a e m x d3 = r := by
                  rw [HST.out, if_neg hxe, if_neg h50, hd3, hd2, hd1, hy]
                  rfl
                have HGO := Lib.hid hgo
                have HD1 := Lib.hid hd1
                have HD2 := Lib.hid hd2
                have HD3 := Lib.hid hd3
                have hxn : x < e := by omega
                clear hgo hd1 hd2 hd3 hy HST HXS HXT h50 hxe
                go_upto_region 11 with (fail)
                go_cut [] (fun wx => Hid (SR w b off n pre rest (swp dk x y) wx))
                case first =>
                  have hcw : ∀ t, t < n → wc.cell? ⟨b, off + t, none⟩ = some (.int .u32 (G t)) := fun t ht => by rw [HG.out]; exact HXW.out.cell ht
                  have hfw : ∀ t, t < n → wc.frozen? ⟨b, off + t, none⟩ = false := fun t _ => HXW.out.frozen t
                  have HW := Lib.hid (HXW.out.swap (j := x) (k := y) (by omega) (by omega) 1)
                  go_region
                  all_goals go_wp2
                  go_meet
                  refine Lib.hid ?_
                  rw [HG.out, HG.out]
                  exact HW.out
                case rest =>
                  have HZ := hcut
                  clear hcut
                  rw [← HD1.out] at HZ
                  clear HG HX HI HRO HXW HD1
                  go_upto_if 61 with (fail)
                  go_cut [9] (fun _ wx => Hid (SR w b off n pre rest d2 wx))
                  case first =>
                    by_cases hx2a : x - a ≥ 2
                    · have hx2z : 2 ≤ (x : Int) - (a : Int) := by omega
                      have hdd : d2 = shiftDown ltInt y d1 := by rw [HD2.out, if_pos hx2a]
                      have HDD := Lib.hid hdd
                      clear hdd
                      go_wp2
                      go_loopw [9] (fun vj wr => ∃ (z0 : Nat) (dj : Array Int), vj = .int .i64 (z0 : Int) ∧ z0 ≤ y ∧ Hid (SR w b off n pre rest dj wr ∧ shiftDown ltInt z0 dj = d2)) (fun vj _ => (intOf vj).toNat)
                      case atStart => exact ⟨y, d1, rfl, Nat.le_refl _, Lib.hid ⟨HZ.out, HDD.out.symm⟩⟩
                      case round =>
                        obtain ⟨u, dk, rfl, huy, HU⟩ := hrel
                        by_cases hu1 : 1 ≤ u
                        · have hu1z : (1 : Int) ≤ (u : Int) := by omega
                          obtain ⟨v, hv⟩ : ∃ v, v = u - 1 := ⟨_, rfl⟩
                          have hvz : (u : Int) - 1 = (v : Int) := by omega
                          have hvu : v < u := by omega
                          have HV := Lib.hid hv
                          clear hv
                          obtain ⟨G, hG⟩ : ∃ G : Nat → Int, ∀ t, G t = dk[t]! := ⟨fun t => dk[t]!, fun _ => rfl⟩
                          have HG := Lib.hid hG
                          clear hG
                          have hcw : ∀ t, t < n → wr.cell? ⟨b, off + t, none⟩ = some (.int .u32 (G t)) := fun t ht => by rw [HG.out]; exact HU.out.1.cell ht
                          have hfw : ∀ t, t < n → wr.frozen? ⟨b, off + t, none⟩ = false := fun t _ => HU.out.1.frozen t
                          go_upto_region 16 with (fail)
                          cases hl : ltInt (G u) (G v) with
                          | true =>
                            have hstep : shiftDown ltInt v (swp dk u v) = d2 := by
                              rw [← HU.out.2, shiftD_on ltInt (d := dk) hu1 (by rw [← HV.out, ← HG.out, ← HG.out]; exact hl), HV.out]
                            have HSTP := Lib.hid hstep
                            clear hstep
                            go_quiet (first | (go_at_call 49; refine Calls.quiet_of_same (less_n _ _ _)))
                            go_wp2
                            go_region
                            all_goals go_wp2
                            go_roundw
                            case rel =>
                              refine ⟨v, swp dk u v, rfl, by omega, Lib.hid ⟨?_, HSTP.out⟩⟩
                              rw [HG.out, HG.out]
                              exact HU.out.1.swap (by omega) (by omega) (nq + 1)
                            case measure => simp [intOf]; omega
                          | false =>
                            have hstep : dk = d2 := by
                              rw [← HU.out.2, shiftD_off ltInt (d := dk) (.inr (by rw [← HV.out, ← HG.out, ← HG.out]; exact hl))]
                            have HSTP := Lib.hid hstep
                            clear hstep
                            go_quiet (first | (go_at_call 49; refine Calls.quiet_of_same (less_n _ _ _)))
                            go_wp2
                            go_meet
                            exact Lib.hid (by rw [← HSTP.out]; exact HU.out.1.drewN _)
                        · have hu1z : ¬ (1 : Int) ≤ (u : Int) := by omega
                          have hstep : dk = d2 := by
                            rw [← HU.out.2, shiftD_off ltInt (d := dk) (.inl (by omega))]
                          have HSTP := Lib.hid hstep
                          clear hstep
                          go_wp2
                          go_meet
                          exact Lib.hid (by rw [← HSTP.out]; exact HU.out.1)
                    · have hx2z : ¬ 2 ≤ (x : Int) - (a : Int) := by omega
                      have hdd : d1 = d2 := by rw [HD2.out, if_neg hx2a]
                      have HDD := Lib.hid hdd
                      clear hdd
                      go_wp2
                      go_meet
                      exact Lib.hid (by rw [← HDD.out]; exact HZ.out)
                  case rest =>
                    have HZ2 := hcut
                    clear hcut HZ HD2 hyz
                    by_cases hx2a : e - x ≥ 2
                    · have hx2z : 2 ≤ (e : Int) - (x : Int) := by omega
                      have hdd : d3 = shiftUp ltInt e (x + 1) d2 := by rw [HD3.out, if_pos hx2a]
                      have HDD := Lib.hid hdd
                      clear hdd
                      go_wp2
                      go_loopw [10] (fun vj wr => ∃ (z0 : Nat) (dj : Array Int), vj = .int .i64 (z0 : Int) ∧ x < z0 ∧ z0 ≤ e ∧ Hid (SR w b off n pre rest dj wr ∧ shiftUp ltInt e z0 dj = d3)) (fun vj _ => e - (intOf vj).toNat)
                      case atStart => exact ⟨x + 1, d2, by go_num, by omega, by omega, Lib.hid ⟨HZ2.out, HDD.out.symm⟩⟩
                      case round =>
                        obtain ⟨u, dk, rfl, hux, hue, HU⟩ := hrel
                        by_cases hu1 : u < e
                        · have hu1z : (u : Int) < (e : Int) := by omega
                          obtain ⟨v, hv⟩ : ∃ v, v = u - 1 := ⟨_, rfl⟩
                          have hvz : (u : Int) - 1 = (v : Int) := by omega
                          have hvu : v < u := by omega
                          have HV := Lib.hid hv
                          clear hv
                          obtain ⟨G, hG⟩ : ∃ G : Nat → Int, ∀ t, G t = dk[t]! := ⟨fun t => dk[t]!, fun _ => rfl⟩
                          have HG := Lib.hid hG
                          clear hG
                          have hcw : ∀ t, t < n → wr.cell? ⟨b, off + t, none⟩ = some (.int .u32 (G t)) := fun t ht => by rw [HG.out]; exact HU.out.1.cell ht
                          have hfw : ∀ t, t < n → wr.frozen? ⟨b, off + t, none⟩ = false := fun t _ => HU.out.1.frozen t
                          go_upto_region 22 with (fail)
                          cases hl : ltInt (G u) (G v) with
                          | true =>
                            have hstep : shiftUp ltInt e (u + 1) (swp dk u v) = d3 := by
                              rw [← HU.out.2, shiftU_on ltInt (d := dk) hu1 (by rw [← HV.out, ← HG.out, ← HG.out]; exact hl), HV.out]
                            have HSTP := Lib.hid hstep
                            clear hstep
                            go_quiet (first | (go_at_call 49; refine Calls.quiet_of_same (less_n _ _ _)))
                            go_wp2
                            go_region
                            all_goals go_wp2
                            go_roundw
                            case rel =>
                              refine ⟨u + 1, swp dk u v, by go_num, by omega, by omega, Lib.hid ⟨?_, HSTP.out⟩⟩
                              rw [HG.out, HG.out]
                              exact HU.out.1.swap (by omega) (by omega) (nq + 1)
                            case measure => simp [intOf]; omega
                          | false =>
                            have hstep : dk = d3 := by
                              rw [← HU.out.2, shiftU_off ltInt (d := dk) (.inr (by rw [← HV.out, ← HG.out, ← HG.out]; exact hl))]
                            have HSTP := Lib.hid hstep
                            clear hstep
                            go_quiet (first | (go_at_call 49; refine Calls.quiet_of_same (less_n _ _ _)))
                            go_wp2
                            go_roundw
                            case rel => exact ⟨x, s + 1, d3, rfl, by go_num, by omega, by omega, by omega, Lib.hid ⟨(by rw [← HSTP.out]; exact HU.out.1.drewN _), by rw [HM.out]; exact HGO.out⟩⟩
                            case measure => simp [intOf]; omega
                        · have hu1z : ¬ (u : Int) < (e : Int) := by omega
                          have hstep : dk = d3 := by
                            rw [← HU.out.2, shiftU_off ltInt (d := dk) (.inl hu1)]
                          have HSTP := Lib.hid hstep
                          clear hstep
                          go_wp2
                          go_roundw
                          case rel => exact ⟨x, s + 1, d3, rfl, by go_num, by omega, by omega, by omega, Lib.hid ⟨(by rw [← HSTP.out]; exact HU.out.1), by rw [HM.out]; exact HGO.out⟩⟩
                          case measure => simp [intOf]; omega
                    · have hx2z : ¬ 2 ≤ (e : Int) - (x : Int) := by omega
                      have hdd : d2 = d3 := by rw [HD3.out, if_neg hx2a]
                      have HDD := Lib.hid hdd
                      clear hdd
                      go_wp2
                      go_roundw
                      case rel => exact ⟨x, s + 1, d3, rfl, by go_num, by omega, by omega, by omega, Lib.hid ⟨(by rw [← HDD.out]; exact HZ2.out), by rw [HM.out]; exact HGO.out⟩⟩
                      case measure => simp [intOf]; omega
    · have hsz4 : ¬ (s : Int) < 5 := by omega
      have hf : r = (dk, false) := by
        rw [← HI.out.2, show 5 - s = 0 by omega]
        rfl
      have HF := Lib.hid hf
      clear hf
      go_wp2
      go_ret
      rw [HF.out]
      exact ⟨rfl, HI.out.1⟩
set_option maxRecDepth 100000 in
set_option maxHeartbeats 4000000 in
theorem rev_n {w W0 : World} {b off n : Nat} {pre rest : List Value} {d : Array Int} (cap a e : Nat) (hs : SR w b off n pre rest d W0) (hae : a < e) (he : e ≤ n) (hsz : n < 1152921504606846976) :
    Calls Try.prog 47 #[.slice (some ⟨b, off, none⟩) n cap, .int .i64 (a : Int), .int .i64 (e : Int)] W0 fun x W => x = .returned (.tuple #[]) ∧ SR w b off n pre rest (reverseRange d a e) W := by
  have HS := Lib.hid hs
  clear hs
  go_enter Try.func47, Try.ntmps47
  go_wp2
  go_loopw [6, 7] (fun vi vj wr => ∃ (i j : Nat) (dk : Array Int), vi = .int .i64 (i : Int) ∧ vj = .int .i64 (j : Int) ∧ j < e ∧ i ≤ e ∧ Hid (SR w b off n pre rest dk wr ∧ reverseLoop i j dk = reverseRange d a e)) (fun vi vj _ => (intOf vj).toNat - (intOf vi).toNat)
  case atStart => exact ⟨a, e - 1, d, rfl, by congr 1; omega, by omega, by omega, Lib.hid ⟨HS.out, rfl⟩⟩
  case round =>
    obtain ⟨i, j, dk, rfl, rfl, hje, hie, HI⟩ := hrel
    by_cases hlt : i < j
    · have hlz : (i : Int) < (j : Int) := by omega
      obtain ⟨G, hG⟩ : ∃ G : Nat → Int, ∀ t, G t = dk[t]! := ⟨fun t => dk[t]!, fun _ => rfl⟩
      have HG := Lib.hid hG
      clear hG
      have hcw : ∀ t, t < n → wr.cell? ⟨b, off + t, none⟩ = some (.int .u32 (G t)) := fun t ht => by rw [HG.out]; exact HI.out.1.cell ht
      have hfw : ∀ t, t < n → wr.frozen? ⟨b, off + t, none⟩ = false := fun t _ => HI.out.1.frozen t
      go_wp2
      go_region
      all_goals go_wp2
      go_roundw
      case rel =>
        refine ⟨i + 1, j - 1, swp dk i j, by go_num, by congr 1; omega, by omega, by omega, Lib.hid ⟨?_, ?_⟩⟩
        · rw [HG.out, HG.out]
          exact HI.out.1.swap (by omega) (by omega) 1
        · rw [← HI.out.2]
          conv => rhs; rw [reverseLoop, if_pos hlt]
      case measure => simp [intOf]; omega
    · have hlz : ¬ (i : Int) < (j : Int) := by omega
      have hstep : dk = reverseRange d a e := by
        rw [← HI.out.2, reverseLoop, if_neg hlt]
      have HST := Lib.hid hstep
      clear hstep
      go_wp2
      go_end0
      exact ⟨rfl, by rw [← HST.out]; exact HI.out.1⟩
end Go.Proofs.Ytelbgjnaceffeaa
