/- The partitions of a row of numbers: partitionEqual, partition. -/
import Derived.Test.YtelbgjnaceffeaaSoB
namespace Go.Proofs.Ytelbgjnaceffeaa
open Go.RowKit Go.Sort

theorem and_parts {a : Prop} [Decidable a] {b : Bool} (h : (decide a && b) = true) : a ∧ b = true := by
  rw [Bool.and_eq_true, decide_eq_true_eq] at h
  exact h
section
variable (p : Int → Bool) {d : Array Int}
theorem scanUp_on {i j : Nat} (h : i ≤ j) (hp : p d[i]! = true) : scanUp p d j i = scanUp p d j (i + 1) := by
  conv => lhs; rw [scanUp]
  rw [if_pos (by rw [hp, Bool.and_true]; exact decide_eq_true h)]
theorem scanUp_off {i j : Nat} (h : (decide (i ≤ j) && p d[i]!) = false) : scanUp p d j i = i := by
  rw [scanUp, if_neg (by rw [h]; exact Bool.false_ne_true)]
theorem scanDown_on {i j : Nat} (h1 : 1 ≤ j) (h : i ≤ j) (hp : p d[j]! = true) : scanDown p d i j = scanDown p d i (j - 1) := by
  cases j with
  | zero => omega
  | succ k =>
    conv => lhs; rw [scanDown]
    rw [if_pos (by rw [hp, Bool.and_true]; exact decide_eq_true h)]
    rfl
theorem scanDown_off {i j : Nat} (h : (decide (i ≤ j) && p d[j]!) = false) : scanDown p d i j = j := by
  cases j with
  | zero => rfl
  | succ k => rw [scanDown, if_neg (by rw [h]; exact Bool.false_ne_true)]
end
set_option maxRecDepth 100000 in
set_option maxHeartbeats 8000000 in
theorem peq_n {w W0 : World} {b off n : Nat} {pre rest : List Value} {dk : Array Int} (cap a e p : Nat) (hs : SR w b off n pre rest dk W0) (hap : a ≤ p) (hpe : p < e) (he : e ≤ n) (hsz : n < 1152921504606846976) :
    Calls Try.prog 50 #[.slice (some ⟨b, off, none⟩) n cap, .int .i64 (a : Int), .int .i64 (e : Int), .int .i64 (p : Int)] W0 fun x W => x = .returned (.int .i64 ((partitionEqual ltInt dk a e p).1 : Int)) ∧ SR w b off n pre rest (partitionEqual ltInt dk a e p).2 W := by
  have HS := Lib.hid hs
  obtain ⟨d0, hd0⟩ : ∃ x, x = swp dk a p := ⟨_, rfl⟩
  obtain ⟨r, hr⟩ : ∃ r, r = partitionEqual ltInt dk a e p := ⟨_, rfl⟩
  rw [← hr]
  have HR := Lib.hid (show partEqLoop ltInt a (a + 1) (e - 1) d0 = r by rw [hr, hd0]; rfl)
  have HD0 := Lib.hid hd0
  clear hs hr hd0
  obtain ⟨G, hG⟩ : ∃ G : Nat → Int, ∀ t, G t = dk[t]! := ⟨fun t => dk[t]!, fun _ => rfl⟩
  have HG := Lib.hid hG
  clear hG
  go_enter Try.func50, Try.ntmps50
  go_upto_region 1 with (fail)
  go_cut [] (fun wx => Hid (SR w b off n pre rest (swp dk a p) wx))
  case first =>
    have hcw : ∀ t, t < n → W0.cell? ⟨b, off + t, none⟩ = some (.int .u32 (G t)) := fun t ht => by rw [HG.out]; exact HS.out.cell ht
    have hfw : ∀ t, t < n → W0.frozen? ⟨b, off + t, none⟩ = false := fun t _ => HS.out.frozen t
    have HW := Lib.hid (HS.out.swap (j := a) (k := p) (by omega) (by omega) 1)
    by_cases hpq : a = p
    · subst hpq
      go_region
      all_goals go_wp2
      go_meet
      refine Lib.hid ?_
      rw [HG.out]
      exact HW.out
    · have hpq2 : a < p := by omega
      go_region
      all_goals go_wp2
      go_meet
      refine Lib.hid ?_
      rw [HG.out, HG.out]
      exact HW.out
  case rest =>
    have H0 := hcut
    clear hcut
    rw [← HD0.out] at H0
    clear HG HD0 HS
    go_wp2
    go_loopw [9, 10] (fun vi vj wr => ∃ (i j : Nat) (dk : Array Int), vi = .int .i64 (i : Int) ∧ vj = .int .i64 (j : Int) ∧ a < i ∧ i ≤ j + 1 ∧ j < e ∧ Hid (SR w b off n pre rest dk wr ∧ partEqLoop ltInt a i j dk = r)) (fun vi vj _ => (intOf vj + 1 - intOf vi).toNat)
    case atStart => exact ⟨a + 1, e - 1, d0, by go_num, by congr 1; omega, by omega, by omega, by omega, Lib.hid ⟨H0.out, HR.out⟩⟩
    case round =>
      obtain ⟨i, j, dk, rfl, rfl, hai, hij, hje, HI⟩ := hrel
      obtain ⟨G, hG⟩ : ∃ G : Nat → Int, ∀ t, G t = dk[t]! := ⟨fun t => dk[t]!, fun _ => rfl⟩
      have HG := Lib.hid hG
      clear hG
      go_wp2
      go_loopw [9] (fun vi wr => ∃ (z0 : Nat), vi = .int .i64 (z0 : Int) ∧ i ≤ z0 ∧ z0 ≤ j + 1 ∧ Hid (SR w b off n pre rest dk wr ∧ scanUp (fun x => !ltInt dk[a]! x) dk j z0 = scanUp (fun x => !ltInt dk[a]! x) dk j i)) (fun vi _ => j + 1 - (intOf vi).toNat)
      case atStart => exact ⟨i, by first | rfl | (congr 1; omega), Nat.le_refl _, by omega, Lib.hid ⟨HI.out.1, rfl⟩⟩
      case round =>
        obtain ⟨x, rfl, hx1, hx2, HX⟩ := hrel
        have hcw : ∀ t, t < n → wr.cell? ⟨b, off + t, none⟩ = some (.int .u32 (G t)) := fun t ht => by rw [HG.out]; exact HX.out.1.cell ht
        have hfw : ∀ t, t < n → wr.frozen? ⟨b, off + t, none⟩ = false := fun t _ => HX.out.1.frozen t
        obtain ⟨tb, htb⟩ : ∃ t, t = (decide (x ≤ j) && !ltInt (G a) (G x)) := ⟨_, rfl⟩
        have HXT := Lib.hid htb
        clear htb
        go_upto_region 3 with (fail)
        go_cut [43] (fun s wx => s = .bool tb ∧ Hid (SR w b off n pre rest dk wx))
        case first =>
          by_cases hxl : x ≤ j
          · have hxz : (x : Int) ≤ (j : Int) := by omega
            go_quiet (first | (go_at_call 49; refine Calls.quiet_of_same (less_n _ _ _)))
            go_wp2
            go_meet
            exact ⟨by rw [HXT.out, decide_eq_true hxl, Bool.true_and], Lib.hid (HX.out.1.drewN _)⟩
          · have hxz : ¬ (x : Int) ≤ (j : Int) := by omega
            go_quiet (first | (go_at_call 49; refine Calls.quiet_of_same (less_n _ _ _)))
            go_wp2
            go_meet
            exact ⟨by rw [HXT.out, decide_eq_false hxl, Bool.false_and], Lib.hid (HX.out.1.drewN _)⟩
        case rest =>
          obtain ⟨rfl, HXW⟩ := hcut
          clear hcw hfw
          cases tb with
          | true =>
            obtain ⟨hxl, hxp⟩ := and_parts HXT.out.symm
            have HP := Lib.hid hxp
            clear hxp
            go_wp2
            go_roundw
            case rel => exact ⟨x + 1, by go_num, by omega, by omega, Lib.hid ⟨HXW.out, by rw [← HX.out.2, scanUp_on (fun x => !ltInt dk[a]! x) (d := dk) hxl (by rw [← HP.out, HG.out, HG.out])]⟩⟩
            case measure => simp [intOf]; omega
          | false =>
            have hxs : scanUp (fun x => !ltInt dk[a]! x) dk j i = x := by
              rw [← HX.out.2, scanUp_off (fun x => !ltInt dk[a]! x) (d := dk) (by have := HXT.out; rw [HG.out, HG.out] at this; exact this.symm)]
            have HXS := Lib.hid hxs
            clear hxs
            go_wp2
            go_loopw [10] (fun vj wr => ∃ (z0 : Nat), vj = .int .i64 (z0 : Int) ∧ z0 ≤ j ∧ x ≤ z0 + 1 ∧ Hid (SR w b off n pre rest dk wr ∧ scanDown (fun x => ltInt dk[a]! x) dk x z0 = scanDown (fun x => ltInt dk[a]! x) dk x j)) (fun vj _ => (intOf vj).toNat)
            case atStart => exact ⟨j, by first | rfl | (congr 1; omega), Nat.le_refl _, by omega, Lib.hid ⟨HXW.out, rfl⟩⟩
            case round =>
              obtain ⟨y, rfl, hy1, hy2, HY⟩ := hrel
              have hcw : ∀ t, t < n → wr.cell? ⟨b, off + t, none⟩ = some (.int .u32 (G t)) := fun t ht => by rw [HG.out]; exact HY.out.1.cell ht
              have hfw : ∀ t, t < n → wr.frozen? ⟨b, off + t, none⟩ = false := fun t _ => HY.out.1.frozen t
              obtain ⟨tb, htb⟩ : ∃ t, t = (decide (x ≤ y) && ltInt (G a) (G y)) := ⟨_, rfl⟩
              have HYT := Lib.hid htb
              clear htb
              go_upto_region 5 with (fail)
              go_cut [59] (fun s wx => s = .bool tb ∧ Hid (SR w b off n pre rest dk wx))
              case first =>
                by_cases hxl : x ≤ y
                · have hxz : (x : Int) ≤ (y : Int) := by omega
                  go_quiet (first | (go_at_call 49; refine Calls.quiet_of_same (less_n _ _ _)))
                  go_wp2
                  go_meet
                  exact ⟨by rw [HYT.out, decide_eq_true hxl, Bool.true_and], Lib.hid (HY.out.1.drewN _)⟩
                · have hxz : ¬ (x : Int) ≤ (y : Int) := by omega
                  go_quiet (first | (go_at_call 49; refine Calls.quiet_of_same (less_n _ _ _)))
                  go_wp2
                  go_meet
                  exact ⟨by rw [HYT.out, decide_eq_false hxl, Bool.false_and], Lib.hid (HY.out.1.drewN _)⟩
              case rest =>
                obtain ⟨rfl, HYW⟩ := hcut
                clear hcw hfw
                cases tb with
                | true =>
                  obtain ⟨hxl, hxp⟩ := and_parts HYT.out.symm
                  have HP := Lib.hid hxp
                  clear hxp
                  go_wp2
                  go_roundw
                  case rel => exact ⟨y - 1, by congr 1; omega, by omega, by omega, Lib.hid ⟨HYW.out, by rw [← HY.out.2, scanDown_on (fun x => ltInt dk[a]! x) (d := dk) (by omega) hxl (by rw [← HP.out, HG.out, HG.out])]⟩⟩
                  case measure => simp [intOf]; omega
                | false =>
                  have hys : scanDown (fun x => ltInt dk[a]! x) dk x j = y := by
                    rw [← HY.out.2, scanDown_off (fun x => ltInt dk[a]! x) (d := dk) (by have := HYT.out; rw [HG.out, HG.out] at this; exact this.symm)]
                  have HYS := Lib.hid hys
                  clear hys
                  have hstep := partEqLoop_eq ltInt a i j dk
                  rw [HXS.out, HYS.out] at hstep
                  have HST := Lib.hid hstep
                  clear hstep
                  by_cases hxy : y < x
                  · have hxz : (y : Int) < (x : Int) := by omega
                    have hfin : r = (x, dk) := by
                      rw [← HI.out.2, HST.out, if_pos hxy]
                    have HF := Lib.hid hfin
                    clear hfin
                    go_wp2
                    go_ret
                    rw [HF.out]
                    exact ⟨rfl, HYW.out⟩
                  · have hxz : ¬ (y : Int) < (x : Int) := by omega
                    have hgo : partEqLoop ltInt a (x + 1) (y - 1) (swp dk x y) = r := by
                      rw [← HI.out.2, HST.out, if_neg hxy]
                    have HGO := Lib.hid hgo
                    clear hgo
                    have hlt : x < y := by
                      have h1 := HXT.out
                      have h2 := HYT.out
                      rw [decide_eq_true (show x ≤ j by omega), Bool.true_and] at h1
                      rw [decide_eq_true (show x ≤ y by omega), Bool.true_and] at h2
                      rcases Nat.lt_or_ge x y with h | h
                      · exact h
                      · have e : x = y := by omega
                        rw [e, ← h2] at h1
                        cases h1
                    go_upto_region 8 with (fail)
                    go_cut [] (fun wx => Hid (SR w b off n pre rest (swp dk x y) wx))
                    case first =>
                      have hcw : ∀ t, t < n → wc.cell? ⟨b, off + t, none⟩ = some (.int .u32 (G t)) := fun t ht => by rw [HG.out]; exact HYW.out.cell ht
                      have hfw : ∀ t, t < n → wc.frozen? ⟨b, off + t, none⟩ = false := fun t _ => HYW.out.frozen t
                      have HW := Lib.hid (HYW.out.swap (j := x) (k := y) (by omega) (by omega) 1)
                      go_region
                      all_goals go_wp2
                      go_meet
                      refine Lib.hid ?_
                      rw [HG.out, HG.out]
                      exact HW.out
                    case rest =>
                      have HZ := hcut
                      clear hcut
                      go_wp2
                      go_roundw
                      case rel => exact ⟨x + 1, y - 1, swp dk x y, by go_num, by congr 1; omega, by omega, by omega, by omega, Lib.hid ⟨HZ.out, HGO.out⟩⟩
                      case measure => simp [intOf]; omega
end Go.Proofs.Ytelbgjnaceffeaa
