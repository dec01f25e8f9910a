/- The partition of a row of numbers. -/
import Derived.Test.YtelbgjnaceffeaaSoC
namespace Go.Proofs.Ytelbgjnaceffeaa
open Go.RowKit Go.Sort

theorem part_step (lt : Int → Int → Bool) {d d0 : Array Int} {a e p x y : Nat} (hd : d0 = swp d a p) (hx : scanUp (fun z => lt z d0[a]!) d0 (e - 1) (a + 1) = x) (hy : scanDown (fun z => !lt z d0[a]!) d0 x (e - 1) = y) :
    partition lt d a e p = if x > y then (y, true, swp d0 y a) else ((partLoop lt a (x + 1) (y - 1) (swp d0 x y)).1, false, swp (partLoop lt a (x + 1) (y - 1) (swp d0 x y)).2 (partLoop lt a (x + 1) (y - 1) (swp d0 x y)).1 a) := by
  subst hd hx hy
  rfl
set_option maxRecDepth 100000 in
set_option maxHeartbeats 16000000 in
theorem par_n {w W0 : World} {b off n : Nat} {pre rest : List Value} {dk : Array Int} (cap a e p : Nat) (hs : SR w b off n pre rest dk W0) (hap : a ≤ p) (hpe : p < e) (he : e ≤ n) (hsz : n < 1152921504606846976) :
    Calls Try.prog 51 #[.slice (some ⟨b, off, none⟩) n cap, .int .i64 (a : Int), .int .i64 (e : Int), .int .i64 (p : Int)] W0 fun x W => x = .returned (.tuple #[.int .i64 ((partition ltInt dk a e p).1 : Int), .bool (partition ltInt dk a e p).2.1]) ∧ SR w b off n pre rest (partition ltInt dk a e p).2.2 W := by
  have HS := Lib.hid hs
  obtain ⟨d0, hd0⟩ : ∃ x, x = swp dk a p := ⟨_, rfl⟩
  obtain ⟨r, hr⟩ : ∃ r, r = partition ltInt dk a e p := ⟨_, rfl⟩
  rw [← hr]
  have HR := Lib.hid (And.intro hr hd0)
  clear hs hr
  obtain ⟨G, hG⟩ : ∃ G : Nat → Int, ∀ t, G t = dk[t]! := ⟨fun t => dk[t]!, fun _ => rfl⟩
  have HG := Lib.hid hG
  clear hG
  go_enter Try.func51, Try.ntmps51
  go_upto_region 1 with (fail)
  go_cut [] (fun wx => Hid (SR w b off n pre rest (swp dk a p) wx))
  case first =>
    have hcw : ∀ t, t < n → W0.cell? ⟨b, off + t, none⟩ = some (.int .u32 (G t)) := fun t ht => by rw [HG.out]; exact HS.out.cell ht
    have hfw : ∀ t, t < n → W0.frozen? ⟨b, off + t, none⟩ = false := fun t _ => HS.out.frozen t
    have HW := Lib.hid (HS.out.swap (j := a) (k := p) (by omega) (by omega) 1)
    by_cases hpq : a = p
    · subst hpq
      go_region
      all_goals go_wp2
      go_meet
      refine Lib.hid ?_
      rw [HG.out]
      exact HW.out
    · have hpq2 : a < p := by omega
      go_region
      all_goals go_wp2
      go_meet
      refine Lib.hid ?_
      rw [HG.out, HG.out]
      exact HW.out
  case rest =>
    have H0 := hcut
    clear hcut
    have HH0 : Hid (∃ dz, dz = swp dk a p ∧ r = partition ltInt dk a e p ∧ SR w b off n pre rest dz wc) := Lib.hid ⟨_, rfl, HR.out.1, H0.out⟩
    have HPS := Lib.hid (fun x y (hx : scanUp (fun z => ltInt z d0[a]!) d0 (e - 1) (a + 1) = x) (hy : scanDown (fun z => !ltInt z d0[a]!) d0 x (e - 1) = y) => HR.out.1.trans (part_step ltInt (d := dk) HR.out.2 hx hy))
    rw [← HR.out.2] at H0
    clear HG HS HH0 HR hd0
    clear dk
    obtain ⟨dk, hdk⟩ : ∃ x, x = d0 := ⟨_, rfl⟩
    obtain ⟨i, hi⟩ : ∃ i, i = a + 1 := ⟨_, rfl⟩
    obtain ⟨j, hj⟩ : ∃ j, j = e - 1 := ⟨_, rfl⟩
    rw [← hdk] at H0
    rw [← hdk, ← hi, ← hj] at HPS
    have hiz : (a : Int) + 1 = (i : Int) := by omega
    have hjz : (e : Int) - 1 = (j : Int) := by omega
    have hai : a < i := by omega
    have hij : i ≤ j + 1 := by omega
    have hje : j < e := by omega
    clear hdk hi hj
    obtain ⟨G, hG⟩ : ∃ G : Nat → Int, ∀ t, G t = dk[t]! := ⟨fun t => dk[t]!, fun _ => rfl⟩
    have HG := Lib.hid hG
    clear hG
    go_wp2
    go_loopw [10] (fun vi wr => ∃ (z0 : Nat), vi = .int .i64 (z0 : Int) ∧ i ≤ z0 ∧ z0 ≤ j + 1 ∧ Hid (SR w b off n pre rest dk wr ∧ scanUp (fun z => ltInt z dk[a]!) dk j z0 = scanUp (fun z => ltInt z dk[a]!) dk j i)) (fun vi _ => j + 1 - (intOf vi).toNat)
    case atStart => exact ⟨i, by first | rfl | (congr 1; omega), Nat.le_refl _, by omega, Lib.hid ⟨H0.out, rfl⟩⟩
    case round =>
      obtain ⟨x, rfl, hx1, hx2, HX⟩ := hrel
      have hcw : ∀ t, t < n → wr.cell? ⟨b, off + t, none⟩ = some (.int .u32 (G t)) := fun t ht => by rw [HG.out]; exact HX.out.1.cell ht
      have hfw : ∀ t, t < n → wr.frozen? ⟨b, off + t, none⟩ = false := fun t _ => HX.out.1.frozen t
      obtain ⟨tb, htb⟩ : ∃ t, t = (decide (x ≤ j) && ltInt (G x) (G a)) := ⟨_, rfl⟩
      have HXT := Lib.hid htb
      clear htb
      go_upto_region 3 with (fail)
      go_cut [43] (fun s wx => s = .bool tb ∧ Hid (SR w b off n pre rest dk wx))
      case first =>
        by_cases hxl : x ≤ j
        · have hxz : (x : Int) ≤ (j : Int) := by omega
          go_quiet (first | (go_at_call 49; refine Calls.quiet_of_same (less_n _ _ _)))
          go_wp2
          go_meet
          exact ⟨by rw [HXT.out, decide_eq_true hxl, Bool.true_and], Lib.hid (HX.out.1.drewN _)⟩
        · have hxz : ¬ (x : Int) ≤ (j : Int) := by omega
          go_quiet (first | (go_at_call 49; refine Calls.quiet_of_same (less_n _ _ _)))
          go_wp2
          go_meet
          exact ⟨by rw [HXT.out, decide_eq_false hxl, Bool.false_and], Lib.hid (HX.out.1.drewN _)⟩
      case rest =>
        obtain ⟨rfl, HXW⟩ := hcut
        clear hcw hfw
        cases tb with
        | true =>
          obtain ⟨hxl, hxp⟩ := and_parts HXT.out.symm
          have HP := Lib.hid hxp
          clear hxp
          go_wp2
          go_roundw
          case rel => exact ⟨x + 1, by go_num, by omega, by omega, Lib.hid ⟨HXW.out, by rw [← HX.out.2, scanUp_on (fun z => ltInt z dk[a]!) (d := dk) hxl (by rw [← HP.out, HG.out, HG.out])]⟩⟩
          case measure => simp [intOf]; omega
        | false =>
          have hxs : scanUp (fun z => ltInt z dk[a]!) dk j i = x := by
            rw [← HX.out.2, scanUp_off (fun z => ltInt z dk[a]!) (d := dk) (by have := HXT.out; rw [HG.out, HG.out] at this; exact this.symm)]
          have HXS := Lib.hid hxs
          clear hxs
          go_wp2
          go_loopw [11] (fun vj wr => ∃ (z0 : Nat), vj = .int .i64 (z0 : Int) ∧ z0 ≤ j ∧ x ≤ z0 + 1 ∧ Hid (SR w b off n pre rest dk wr ∧ scanDown (fun z => !ltInt z dk[a]!) dk x z0 = scanDown (fun z => !ltInt z dk[a]!) dk x j)) (fun vj _ => (intOf vj).toNat)
          case atStart => exact ⟨j, by first | rfl | (congr 1; omega), Nat.le_refl _, by omega, Lib.hid ⟨HXW.out, rfl⟩⟩
          case round =>
            obtain ⟨y, rfl, hy1, hy2, HY⟩ := hrel
            have hcw : ∀ t, t < n → wr.cell? ⟨b, off + t, none⟩ = some (.int .u32 (G t)) := fun t ht => by rw [HG.out]; exact HY.out.1.cell ht
            have hfw : ∀ t, t < n → wr.frozen? ⟨b, off + t, none⟩ = false := fun t _ => HY.out.1.frozen t
            obtain ⟨tb, htb⟩ : ∃ t, t = (decide (x ≤ y) && !ltInt (G y) (G a)) := ⟨_, rfl⟩
            have HYT := Lib.hid htb
            clear htb
            go_upto_region 5 with (fail)
            go_cut [60] (fun s wx => s = .bool tb ∧ Hid (SR w b off n pre rest dk wx))
            case first =>
              by_cases hxl : x ≤ y
              · have hxz : (x : Int) ≤ (y : Int) := by omega
                go_quiet (first | (go_at_call 49; refine Calls.quiet_of_same (less_n _ _ _)))
                go_wp2
                go_meet
                exact ⟨by rw [HYT.out, decide_eq_true hxl, Bool.true_and], Lib.hid (HY.out.1.drewN _)⟩
              · have hxz : ¬ (x : Int) ≤ (y : Int) := by omega
                go_quiet (first | (go_at_call 49; refine Calls.quiet_of_same (less_n _ _ _)))
                go_wp2
                go_meet
                exact ⟨by rw [HYT.out, decide_eq_false hxl, Bool.false_and], Lib.hid (HY.out.1.drewN _)⟩
            case rest =>
              obtain ⟨rfl, HYW⟩ := hcut
              clear hcw hfw
              cases tb with
              | true =>
                obtain ⟨hxl, hxp⟩ := and_parts HYT.out.symm
                have HP := Lib.hid hxp
                clear hxp
                go_wp2
                go_roundw
                case rel => exact ⟨y - 1, by congr 1; omega, by omega, by omega, Lib.hid ⟨HYW.out, by rw [← HY.out.2, scanDown_on (fun z => !ltInt z dk[a]!) (d := dk) (by omega) hxl (by rw [← HP.out, HG.out, HG.out])]⟩⟩
                case measure => simp [intOf]; omega
              | false =>
                have hys : scanDown (fun z => !ltInt z dk[a]!) dk x j = y := by
                  rw [← HY.out.2, scanDown_off (fun z => !ltInt z dk[a]!) (d := dk) (by have := HYT.out; rw [HG.out, HG.out] at this; exact this.symm)]
                have HYS := Lib.hid hys
                clear hys
                have HQ := Lib.hid (HPS.out x y HXS.out HYS.out)
                by_cases hxy : y < x
                · have hxz : (y : Int) < (x : Int) := by omega
                  have hfin : r = (y, true, swp dk y a) := by
                    rw [HQ.out, if_pos hxy]
                  have HF := Lib.hid hfin
                  clear hfin
                  go_upto_region 8 with (fail)
                  go_cut [] (fun wx => Hid (SR w b off n pre rest (swp dk y a) wx))
                  case first =>
                    have hcw : ∀ t, t < n → wc.cell? ⟨b, off + t, none⟩ = some (.int .u32 (G t)) := fun t ht => by rw [HG.out]; exact HYW.out.cell ht
                    have hfw : ∀ t, t < n → wc.frozen? ⟨b, off + t, none⟩ = false := fun t _ => HYW.out.frozen t
                    have HW := Lib.hid (HYW.out.swap (j := y) (k := a) (by omega) (by omega) 1)
                    by_cases hpq : y = a
                    · subst hpq
                      go_region
                      all_goals go_wp2
                      go_meet
                      refine Lib.hid ?_
                      rw [HG.out]
                      exact HW.out
                    · have hpq2 : a < y := by omega
                      go_region
                      all_goals go_wp2
                      go_meet
                      refine Lib.hid ?_
                      rw [HG.out, HG.out]
                      exact HW.out
                  case rest =>
                    have HZ := hcut
                    clear hcut
                    go_wp2
                    go_ret2
                    rw [HF.out]
                    exact ⟨rfl, HZ.out⟩
                · have hxz : ¬ (y : Int) < (x : Int) := by omega
                  obtain ⟨pl, hpl⟩ : ∃ q, q = partLoop ltInt a (x + 1) (y - 1) (swp dk x y) := ⟨_, rfl⟩
                  have hgo : r = (pl.1, false, swp pl.2 pl.1 a) := by
                    rw [HQ.out, if_neg hxy, hpl]
                  have HGO := Lib.hid hgo
                  have HPL := Lib.hid hpl
                  clear hgo hpl
                  have hlt : x < y := by
                    have h1 := HXT.out
                    have h2 := HYT.out
                    rw [decide_eq_true (show x ≤ j by omega), Bool.true_and] at h1
                    rw [decide_eq_true (show x ≤ y by omega), Bool.true_and] at h2
                    rcases Nat.lt_or_ge x y with h | h
                    · exact h
                    · have e : x = y := by omega
                      rw [e] at h1
                      rw [← h1] at h2
                      cases h2
                  go_upto_region 10 with (fail)
                  go_cut [] (fun wx => Hid (SR w b off n pre rest (swp dk x y) wx))
                  case first =>
                    have hcw : ∀ t, t < n → wc.cell? ⟨b, off + t, none⟩ = some (.int .u32 (G t)) := fun t ht => by rw [HG.out]; exact HYW.out.cell ht
                    have hfw : ∀ t, t < n → wc.frozen? ⟨b, off + t, none⟩ = false := fun t _ => HYW.out.frozen t
                    have HW := Lib.hid (HYW.out.swap (j := x) (k := y) (by omega) (by omega) 1)
                    go_region
                    all_goals go_wp2
                    go_meet
                    refine Lib.hid ?_
                    rw [HG.out, HG.out]
                    exact HW.out
                  case rest =>
                    have HZ := hcut
                    clear hcut
                    obtain ⟨d1, hd1⟩ : ∃ q, q = swp dk x y := ⟨_, rfl⟩
                    rw [← hd1] at HZ HPL
                    have HX1 := Lib.hid (show x + 1 ≤ y - 1 + 1 by omega)
                    have HX2 := Lib.hid (show a < x + 1 ∧ y - 1 < e by omega)
                    have hyy : 1 ≤ y := by omega
                    clear hd1 HG hiz hjz
                    go_wp2
                    go_loopw [10, 11] (fun vi vj wr => ∃ (i j : Nat) (dk : Array Int), vi = .int .i64 (i : Int) ∧ vj = .int .i64 (j : Int) ∧ a < i ∧ i ≤ j + 1 ∧ j < e ∧ Hid (SR w b off n pre rest dk wr ∧ partLoop ltInt a i j dk = pl)) (fun vi vj _ => (intOf vj + 1 - intOf vi).toNat)
                    case atStart => exact ⟨x + 1, y - 1, d1, by go_num, by congr 1; omega, HX2.out.1, HX1.out, HX2.out.2, Lib.hid ⟨HZ.out, HPL.out.symm⟩⟩
                    case round =>
                      clear HXS HXT HXW HX HYS HYT HYW HY HPL HZ HX1 HX2 hyy hx1 hx2 hy1 hy2 hxy hxz hlt hai hij hje
                      obtain ⟨i, j, dk, rfl, rfl, hai, hij, hje, HI⟩ := hrel
                      obtain ⟨G, hG⟩ : ∃ G : Nat → Int, ∀ t, G t = dk[t]! := ⟨fun t => dk[t]!, fun _ => rfl⟩
                      have HG := Lib.hid hG
                      clear hG
                      go_wp2
                      go_loopw [10] (fun vi wr => ∃ (z0 : Nat), vi = .int .i64 (z0 : Int) ∧ i ≤ z0 ∧ z0 ≤ j + 1 ∧ Hid (SR w b off n pre rest dk wr ∧ scanUp (fun z => ltInt z dk[a]!) dk j z0 = scanUp (fun z => ltInt z dk[a]!) dk j i)) (fun vi _ => j + 1 - (intOf vi).toNat)
                      case atStart => exact ⟨i, by first | rfl | (congr 1; omega), Nat.le_refl _, by omega, Lib.hid ⟨HI.out.1, rfl⟩⟩
                      case round =>
                        obtain ⟨x, rfl, hx1, hx2, HX⟩ := hrel
                        have hcw : ∀ t, t < n → wr.cell? ⟨b, off + t, none⟩ = some (.int .u32 (G t)) := fun t ht => by rw [HG.out]; exact HX.out.1.cell ht
                        have hfw : ∀ t, t < n → wr.frozen? ⟨b, off + t, none⟩ = false := fun t _ => HX.out.1.frozen t
                        obtain ⟨tb, htb⟩ : ∃ t, t = (decide (x ≤ j) && ltInt (G x) (G a)) := ⟨_, rfl⟩
                        have HXT := Lib.hid htb
                        clear htb
                        go_upto_region 13 with (fail)
                        go_cut [112] (fun s wx => s = .bool tb ∧ Hid (SR w b off n pre rest dk wx))
                        case first =>
                          by_cases hxl : x ≤ j
                          · have hxz : (x : Int) ≤ (j : Int) := by omega
                            go_quiet (first | (go_at_call 49; refine Calls.quiet_of_same (less_n _ _ _)))
                            go_wp2
                            go_meet
                            exact ⟨by rw [HXT.out, decide_eq_true hxl, Bool.true_and], Lib.hid (HX.out.1.drewN _)⟩
                          · have hxz : ¬ (x : Int) ≤ (j : Int) := by omega
                            go_quiet (first | (go_at_call 49; refine Calls.quiet_of_same (less_n _ _ _)))
                            go_wp2
                            go_meet
                            exact ⟨by rw [HXT.out, decide_eq_false hxl, Bool.false_and], Lib.hid (HX.out.1.drewN _)⟩
                        case rest =>
                          obtain ⟨rfl, HXW⟩ := hcut
                          clear hcw hfw
                          cases tb with
                          | true =>
                            obtain ⟨hxl, hxp⟩ := and_parts HXT.out.symm
                            have HP := Lib.hid hxp
                            clear hxp
                            go_wp2
                            go_roundw
                            case rel => exact ⟨x + 1, by go_num, by omega, by omega, Lib.hid ⟨HXW.out, by rw [← HX.out.2, scanUp_on (fun z => ltInt z dk[a]!) (d := dk) hxl (by rw [← HP.out, HG.out, HG.out])]⟩⟩
                            case measure => simp [intOf]; omega
                          | false =>
                            have hxs : scanUp (fun z => ltInt z dk[a]!) dk j i = x := by
                              rw [← HX.out.2, scanUp_off (fun z => ltInt z dk[a]!) (d := dk) (by have := HXT.out; rw [HG.out, HG.out] at this; exact this.symm)]
                            have HXS := Lib.hid hxs
                            clear hxs
                            go_wp2
                            go_loopw [11] (fun vj wr => ∃ (z0 : Nat), vj = .int .i64 (z0 : Int) ∧ z0 ≤ j ∧ x ≤ z0 + 1 ∧ Hid (SR w b off n pre rest dk wr ∧ scanDown (fun z => !ltInt z dk[a]!) dk x z0 = scanDown (fun z => !ltInt z dk[a]!) dk x j)) (fun vj _ => (intOf vj).toNat)
                            case atStart => exact ⟨j, by first | rfl | (congr 1; omega), Nat.le_refl _, by omega, Lib.hid ⟨HXW.out, rfl⟩⟩
                            case round =>
                              obtain ⟨y, rfl, hy1, hy2, HY⟩ := hrel
                              have hcw : ∀ t, t < n → wr.cell? ⟨b, off + t, none⟩ = some (.int .u32 (G t)) := fun t ht => by rw [HG.out]; exact HY.out.1.cell ht
                              have hfw : ∀ t, t < n → wr.frozen? ⟨b, off + t, none⟩ = false := fun t _ => HY.out.1.frozen t
                              obtain ⟨tb, htb⟩ : ∃ t, t = (decide (x ≤ y) && !ltInt (G y) (G a)) := ⟨_, rfl⟩
                              have HYT := Lib.hid htb
                              clear htb
                              go_upto_region 15 with (fail)
                              go_cut [129] (fun s wx => s = .bool tb ∧ Hid (SR w b off n pre rest dk wx))
                              case first =>
                                by_cases hxl : x ≤ y
                                · have hxz : (x : Int) ≤ (y : Int) := by omega
                                  go_quiet (first | (go_at_call 49; refine Calls.quiet_of_same (less_n _ _ _)))
                                  go_wp2
                                  go_meet
                                  exact ⟨by rw [HYT.out, decide_eq_true hxl, Bool.true_and], Lib.hid (HY.out.1.drewN _)⟩
                                · have hxz : ¬ (x : Int) ≤ (y : Int) := by omega
                                  go_quiet (first | (go_at_call 49; refine Calls.quiet_of_same (less_n _ _ _)))
                                  go_wp2
                                  go_meet
                                  exact ⟨by rw [HYT.out, decide_eq_false hxl, Bool.false_and], Lib.hid (HY.out.1.drewN _)⟩
                              case rest =>
                                obtain ⟨rfl, HYW⟩ := hcut
                                clear hcw hfw
                                cases tb with
                                | true =>
                                  obtain ⟨hxl, hxp⟩ := and_parts HYT.out.symm
                                  have HP := Lib.hid hxp
                                  clear hxp
                                  go_wp2
                                  go_roundw
                                  case rel => exact ⟨y - 1, by congr 1; omega, by omega, by omega, Lib.hid ⟨HYW.out, by rw [← HY.out.2, scanDown_on (fun z => !ltInt z dk[a]!) (d := dk) (by omega) hxl (by rw [← HP.out, HG.out, HG.out])]⟩⟩
                                  case measure => simp [intOf]; omega
                                | false =>
                                  have hys : scanDown (fun z => !ltInt z dk[a]!) dk x j = y := by
                                    rw [← HY.out.2, scanDown_off (fun z => !ltInt z dk[a]!) (d := dk) (by have := HYT.out; rw [HG.out, HG.out] at this; exact this.symm)]
                                  have HYS := Lib.hid hys
                                  clear hys
                                  have hstep := partLoop_eq ltInt a i j dk
                                  rw [HXS.out, HYS.out] at hstep
                                  have HST := Lib.hid hstep
                                  clear hstep
                                  by_cases hxy : y < x
                                  · have hxz : (y : Int) < (x : Int) := by omega
                                    have hfin : r = (y, false, swp dk y a) := by
                                      rw [HGO.out, ← HI.out.2, HST.out, if_pos hxy]
                                    have HF := Lib.hid hfin
                                    clear hfin
                                    go_upto_region 21 with (fail)
                                    go_cut [] (fun wx => Hid (SR w b off n pre rest (swp dk y a) wx))
                                    case first =>
                                      have hcw : ∀ t, t < n → wc.cell? ⟨b, off + t, none⟩ = some (.int .u32 (G t)) := fun t ht => by rw [HG.out]; exact HYW.out.cell ht
                                      have hfw : ∀ t, t < n → wc.frozen? ⟨b, off + t, none⟩ = false := fun t _ => HYW.out.frozen t
                                      have HW := Lib.hid (HYW.out.swap (j := y) (k := a) (by omega) (by omega) 1)
                                      by_cases hpq : y = a
                                      · subst hpq
                                        go_region
                                        all_goals go_wp2
                                        go_meet
                                        refine Lib.hid ?_
                                        rw [HG.out]
                                        exact HW.out
                                      · have hpq2 : a < y := by omega
                                        go_region
                                        all_goals go_wp2
                                        go_meet
                                        refine Lib.hid ?_
                                        rw [HG.out, HG.out]
                                        exact HW.out
                                    case rest =>
                                      have HZ := hcut
                                      clear hcut
                                      go_wp2
                                      go_ret2
                                      rw [HF.out]
                                      exact ⟨rfl, HZ.out⟩
                                  · have hxz : ¬ (y : Int) < (x : Int) := by omega
                                    have hgo : partLoop ltInt a (x + 1) (y - 1) (swp dk x y) = pl := by
                                      rw [← HI.out.2, HST.out, if_neg hxy]
                                    have HGN := Lib.hid hgo
                                    clear hgo
                                    have hlt : x < y := by
                                      have h1 := HXT.out
                                      have h2 := HYT.out
                                      rw [decide_eq_true (show x ≤ j by omega), Bool.true_and] at h1
                                      rw [decide_eq_true (show x ≤ y by omega), Bool.true_and] at h2
                                      rcases Nat.lt_or_ge x y with h | h
                                      · exact h
                                      · have e : x = y := by omega
                                        rw [e] at h1
                                        rw [← h1] at h2
                                        cases h2
                                    go_upto_region 18 with (fail)
                                    go_cut [] (fun wx => Hid (SR w b off n pre rest (swp dk x y) wx))
                                    case first =>
                                      have hcw : ∀ t, t < n → wc.cell? ⟨b, off + t, none⟩ = some (.int .u32 (G t)) := fun t ht => by rw [HG.out]; exact HYW.out.cell ht
                                      have hfw : ∀ t, t < n → wc.frozen? ⟨b, off + t, none⟩ = false := fun t _ => HYW.out.frozen t
                                      have HW := Lib.hid (HYW.out.swap (j := x) (k := y) (by omega) (by omega) 1)
                                      go_region
                                      all_goals go_wp2
                                      go_meet
                                      refine Lib.hid ?_
                                      rw [HG.out, HG.out]
                                      exact HW.out
                                    case rest =>
                                      have HZ := hcut
                                      clear hcut
                                      go_wp2
                                      go_roundw
                                      case rel => exact ⟨x + 1, y - 1, swp dk x y, by go_num, by congr 1; omega, by omega, by omega, by omega, Lib.hid ⟨HZ.out, HGN.out⟩⟩
                                      case measure => simp [intOf]; omega
end Go.Proofs.Ytelbgjnaceffeaa
