/- The library's sort of a row of numbers: what it leaves is an exchange of places, sorted. -/
import Derived.Test.YtelbgjnaceffeaaSoH
import Derived.Sort.LotD3
namespace Go.Proofs.Ytelbgjnaceffeaa
open Go.RowKit Go.Sort

/-- The row behind a sort from a to e. -/
def SortSR (w : World) (b off n : Nat) (pre rest : List Value) (a e : Nat) (d : Array Int) (W : World) : Prop := ∃ d', PermIn a e d d' ∧ SortedIn ltInt a e d' ∧ SR w b off n pre rest d' W
/-- What a round of the sort may lean on: whoever sorts what is left from a2 to e2 has sorted all. -/
structure GoodQ (a e : Nat) (d : Array Int) (a2 e2 : Nat) (dk : Array Int) : Prop where
  size : dk.size = d.size
  le : a2 ≤ e2
  hi : e2 ≤ d.size
  below : Go.Sort.Below ltInt a2 e2 dk
  all : ∀ R, PermIn a2 e2 dk R → SortedIn ltInt a2 e2 R → PermIn a e d R ∧ SortedIn ltInt a e R
theorem GoodQ.start {a e : Nat} {d : Array Int} (h : a ≤ e) (he : e ≤ d.size) (hb : Go.Sort.Below ltInt a e d) : GoodQ a e d a e d := ⟨rfl, h, he, hb, fun _ h1 h2 => ⟨h1, h2⟩⟩
theorem GoodQ.perm {a e a2 e2 : Nat} {d dk dj : Array Int} (h : GoodQ a e d a2 e2 dk) (hp : PermIn a2 e2 dk dj) : GoodQ a e d a2 e2 dj :=
  ⟨hp.1.trans h.size, h.le, h.hi, Go.Sort.Below.perm h.below (by rw [h.size]; exact h.hi) hp, fun R h1 h2 => h.all R (permIn_trans _ _ _ _ _ hp h1) h2⟩
theorem GoodQ.sorted {w W : World} {b off n a e a2 e2 : Nat} {pre rest : List Value} {d dk dj : Array Int} (h : GoodQ a e d a2 e2 dk) (hp : PermIn a2 e2 dk dj) (hs : SortedIn ltInt a2 e2 dj) (hr : SR w b off n pre rest dj W) : SortSR w b off n pre rest a e d W :=
  ⟨dj, (h.all dj hp hs).1, (h.all dj hp hs).2, hr⟩
set_option maxRecDepth 100000 in
set_option maxHeartbeats 16000000 in
theorem pdq_n {w : World} {b off n : Nat} {pre rest : List Value} (hsz : n < 1152921504606846976) : ∀ (N cap a e lim : Nat) (d : Array Int) (W0 : World), e - a < N → SR w b off n pre rest d W0 → a ≤ e → e ≤ n → lim < 1152921504606846976 → Go.Sort.Below ltInt a e d →
    Calls Try.prog 41 #[.slice (some ⟨b, off, none⟩) n cap, .int .i64 (a : Int), .int .i64 (e : Int), .int .i64 (lim : Int)] W0 fun x W => x = .returned (.tuple #[]) ∧ SortSR w b off n pre rest a e d W := by
  intro N
  induction N with
  | zero => intro _ _ _ _ _ _ h; exact absurd h (Nat.not_lt_zero _)
  | succ N ih =>
    intro cap a e lim d W0 hN hs hae he hlim hbel
    have HIH := Lib.hid ih
    have HG := Lib.hid (GoodQ.start hae (by rw [hs.size]; exact he) hbel)
    have HS := Lib.hid hs
    have HN := Lib.hid hN
    have HE := Lib.hid (And.intro hae he)
    have HLM := Lib.hid hlim
    clear ih hs hN hbel hae he hlim
    go_enter Try.func41, Try.ntmps41
    go_wp2
    go_loopw [1, 2, 3, 8, 9] (fun s1 s2 s3 s8 s9 wr => ∃ (x y k : Nat) (wb wp : Bool) (dk : Array Int), s1 = .int .i64 (x : Int) ∧ s2 = .int .i64 (y : Int) ∧ s3 = .int .i64 (k : Int) ∧ s8 = .bool wb ∧ s9 = .bool wp ∧ x ≤ y ∧ y ≤ n ∧ Hid (y - x ≤ e - a ∧ k < 1152921504606846976) ∧ Hid (GoodQ a e d x y dk ∧ SR w b off n pre rest dk wr)) (fun s1 s2 _ _ _ _ => (intOf s2).toNat - (intOf s1).toNat)
    case atStart => exact ⟨a, e, lim, true, true, d, rfl, rfl, rfl, rfl, rfl, HE.out.1, HE.out.2, Lib.hid ⟨Nat.le_refl _, HLM.out⟩, Lib.hid ⟨HG.out, HS.out⟩⟩
    case round =>
      obtain ⟨x, y, k, wb, wp, dk, rfl, rfl, rfl, rfl, rfl, hxy, hyn, HXY, HI⟩ := hrel
      have hyd : y ≤ dk.size := by rw [HI.out.2.size]; exact hyn
      have HYD := Lib.hid hyd
      clear hyd
      by_cases h12 : y - x ≤ 12
      · have h12z : (y : Int) - (x : Int) ≤ 12 := by omega
        have HC := Lib.hid (ins_n cap x y HI.out.2 hxy hyn (by omega))
        have HP := Lib.hid (insertionSort_holds swo_ltInt dk x y hxy HYD.out)
        go_wp2_with (go_at_call 43; refine HC.out.mono ?_; rintro e1 W1 ⟨rfl, hs1⟩)
        go_returns
        exact ⟨rfl, HI.out.1.sorted HP.out.1 HP.out.2 hs1⟩
      · have h12z : ¬ (y : Int) - (x : Int) ≤ 12 := by omega
        have hxy13 : x + 13 ≤ y := by omega
        by_cases hk0 : k = 0
        · subst hk0
          have HC := Lib.hid (heap_n cap x y HI.out.2 (by omega) hyn hsz)
          have HP := Lib.hid (heapSort_holds (lt := ltInt) swo_ltInt dk x y hxy HYD.out)
          go_wp2_with (go_at_call 44; refine HC.out.mono ?_; rintro e1 W1 ⟨rfl, hs1⟩)
          go_returns
          exact ⟨rfl, HI.out.1.sorted HP.out.1 HP.out.2 hs1⟩
        · have hk0z : ¬ (k : Int) = 0 := by omega
          have hk60 : k < 1152921504606846976 := HXY.out.2
          have HX13 := Lib.hid hxy13
          go_upto_if 35 with (fail)
          go_cut [3] (fun s3 wx => ∃ (k2 : Nat) (d2 : Array Int), s3 = .int .i64 (k2 : Int) ∧ Hid (k2 < 1152921504606846976) ∧ Hid (GoodQ a e d x y d2 ∧ SR w b off n pre rest d2 wx))
          case first =>
            cases wb with
            | false =>
              have HC := Lib.hid (brk_n cap x y HI.out.2 hxy13 hyn hsz)
              go_wp2_with (go_at_call 45; refine HC.out.mono ?_; rintro e1 W1 ⟨rfl, d2, hp2, hs2⟩)
              go_meet
              exact ⟨k - 1, d2, by congr 1; omega, Lib.hid (by have := HXY.out.2; omega), Lib.hid ⟨HI.out.1.perm hp2, hs2⟩⟩
            | true =>
              go_wp2
              go_meet
              exact ⟨k, dk, rfl, Lib.hid HXY.out.2, HI⟩
          case rest =>
            obtain ⟨k2, d2, rfl, HK2, HI2⟩ := hcut
            clear hk0z hk0 hk60
            have HC := Lib.hid (piv_n cap x y HI2.out.2 hxy13 hyn hsz)
            go_upto_if 50 with (go_at_call 46; refine HC.out.mono ?_; rintro e1 W2 ⟨p, h, rfl, hp1, hp2, hh, hs3⟩)
            have HS3 := Lib.hid hs3
            clear hs3
            go_cut [11, 12] (fun s11 s12 wx => ∃ (p2 h2 : Nat) (d3 : Array Int), s11 = .int .i64 (p2 : Int) ∧ s12 = .int .i64 (h2 : Int) ∧ x ≤ p2 ∧ p2 < y ∧ Hid (GoodQ a e d x y d3 ∧ SR w b off n pre rest d3 wx))
            case first =>
              by_cases hh2 : h = 2
              · subst hh2
                have HC2 := Lib.hid (rev_n cap x y HS3.out (by omega) hyn hsz)
                have HP := Lib.hid (reverseRange_holds d2 x y hxy (by rw [HS3.out.size]; exact hyn))
                go_wp2_with (go_at_call 47; refine HC2.out.mono ?_; rintro e2 W3 ⟨rfl, hs4⟩)
                go_meet
                exact ⟨y - 1 - (p - x), 1, _, by congr 1; omega, rfl, by omega, by omega, Lib.hid ⟨HI2.out.1.perm HP.out, hs4⟩⟩
              · have hh2z : ((h : Int) == 2) = false := by
                  have : ¬ (h : Int) = 2 := by omega
                  simpa using this
                have hh2y : ¬ (h : Int) = 2 := by omega
                go_wp2
                go_meet
                exact ⟨p, h, d2, rfl, rfl, hp1, hp2, Lib.hid ⟨HI2.out.1, HS3.out⟩⟩
            case rest =>
              obtain ⟨p2, h2, d3, rfl, rfl, hp3, hp4, HI3⟩ := hcut
              clear hp1 hp2 hh
              go_upto_region 15 with (fail)
              go_cut [68] (fun s68 wx => wc = wx ∧ ∃ t : Bool, s68 = .bool t)
              case first =>
                cases wb <;> cases wp <;> (go_wp2; go_meet; exact ⟨rfl, _, rfl⟩)
              case rest =>
                obtain ⟨rfl, t, rfl⟩ := hcut
                go_upto_if 68 with (fail)
                go_cut [] (fun wx => ∃ d4 : Array Int, Hid (GoodQ a e d x y d4 ∧ SR w b off n pre rest d4 wx))
                case first =>
                  cases t with
                  | false =>
                    go_wp2
                    go_meet
                    exact ⟨d3, HI3⟩
                  | true =>
                    have HC3 := Lib.hid (pins_n cap x y HI3.out.2 (by omega) hyn hsz)
                    have HP := Lib.hid (partialInsertionSort_holds swo_ltInt d3 x y (by omega) (by rw [HI3.out.2.size]; exact hyn) HI3.out.1.below)
                    obtain ⟨d4, hd4⟩ : ∃ q, q = partialInsertionSort ltInt d3 x y := ⟨_, rfl⟩
                    rw [← hd4] at HC3 HP
                    obtain ⟨d4, ok⟩ := d4
                    dsimp only at HC3 HP
                    clear hd4
                    cases ok with
                    | true =>
                      go_wp2_with (go_at_call 48; refine HC3.out.mono ?_; rintro e3 W4 ⟨rfl, hs5⟩)
                      go_returns
                      exact ⟨rfl, HI3.out.1.sorted HP.out.1 (HP.out.2 (by simp)) hs5⟩
                    | false =>
                      go_wp2_with (go_at_call 48; refine HC3.out.mono ?_; rintro e3 W4 ⟨rfl, hs5⟩)
                      go_meet
                      exact ⟨d4, Lib.hid ⟨HI3.out.1.perm HP.out.1, hs5⟩⟩
                case rest =>
                  obtain ⟨d4, HI4⟩ := hcut
                  clear HI3 HI2 HI
                  obtain ⟨G, hG⟩ : ∃ G : Nat → Int, ∀ t, G t = d4[t]! := ⟨fun t => d4[t]!, fun _ => rfl⟩
                  have HGG := Lib.hid hG
                  clear hG
                  have hcw : ∀ t, t < n → wc.cell? ⟨b, off + t, none⟩ = some (.int .u32 (G t)) := fun t ht => by rw [HGG.out]; exact HI4.out.2.cell ht
                  have hfw : ∀ t, t < n → wc.frozen? ⟨b, off + t, none⟩ = false := fun t _ => HI4.out.2.frozen t
                  obtain ⟨tb, htb⟩ : ∃ t, t = (decide (0 < x) && !ltInt (G (x - 1)) (G p2)) := ⟨_, rfl⟩
                  have HTB := Lib.hid htb
                  clear htb
                  go_upto_region 17 with (fail)
                  go_cut [87] (fun s87 wx => s87 = .bool tb ∧ Hid (SR w b off n pre rest d4 wx))
                  case first =>
                    by_cases hx0 : 0 < x
                    · have hx0z : (0 : Int) < (x : Int) := by omega
                      go_quiet (first | (go_at_call 49; refine Calls.quiet_of_same (less_n _ _ _)))
                      go_wp2
                      go_meet
                      exact ⟨by rw [HTB.out, decide_eq_true hx0, Bool.true_and], Lib.hid (HI4.out.2.drewN _)⟩
                    · have hx0z : ¬ (0 : Int) < (x : Int) := by omega
                      go_quiet (first | (go_at_call 49; refine Calls.quiet_of_same (less_n _ _ _)))
                      go_wp2
                      go_meet
                      exact ⟨by rw [HTB.out, decide_eq_false hx0, Bool.false_and], Lib.hid (HI4.out.2.drewN _)⟩
                  case rest =>
                    obtain ⟨rfl, HS6⟩ := hcut
                    clear hcw hfw
                    cases tb with
                    | true =>
                      obtain ⟨hx0, hnl⟩ := and_parts HTB.out.symm
                      have hnl2 : ltInt d4[x - 1]! d4[p2]! = false := by
                        rw [HGG.out, HGG.out] at hnl
                        simpa using hnl
                      have HC5 := Lib.hid (peq_n cap x y p2 HS6.out hp3 hp4 hyn hsz)
                      have HRE := Lib.hid (fun (mid : Nat) (d5 : Array Int) (hx : partitionEqual ltInt d4 x y p2 = (mid, d5)) => round_eq swo_ltInt (partitionEqual_holds ltInt) hx0 hp3 hp4 (by rw [HS6.out.size]; exact hyn) HI4.out.1.below hnl2 hx)
                      obtain ⟨⟨mid, d5⟩, hd5⟩ : ∃ q, q = partitionEqual ltInt d4 x y p2 := ⟨_, rfl⟩
                      rw [← hd5] at HC5
                      dsimp only at HC5
                      obtain ⟨r1, r2, r3, r4, r5⟩ := HRE.out mid d5 hd5.symm
                      have HRR := Lib.hid (And.intro r1 (And.intro r2 (And.intro r3 (And.intro r4 r5))))
                      clear hd5 hnl hnl2 r1 r2 r3 r4 r5
                      go_wp2_with (go_at_call 50; refine HC5.out.mono ?_; rintro e3 W5 ⟨rfl, hs7⟩)
                      obtain ⟨r1, r2, r3, r4, r5⟩ := HRR.out
                      go_roundw
                      case rel =>
                        refine ⟨mid, y, k2, wb, wp, d5, rfl, rfl, rfl, rfl, rfl, r2, hyn, Lib.hid ⟨by have := HXY.out.1; omega, HK2.out⟩, Lib.hid ⟨⟨r3.trans HI4.out.1.size, r2, HI4.out.1.hi, r4, fun R h1 h2 => ?_⟩, hs7⟩⟩
                        obtain ⟨u1, u2⟩ := r5 R h1 h2
                        exact HI4.out.1.all R u1 u2
                      case measure => simp [intOf]; omega
                    | false =>
                      have HC5 := Lib.hid (par_n cap x y p2 HS6.out hp3 hp4 hyn hsz)
                      have HRE := Lib.hid (fun (mid : Nat) (ap : Bool) (d5 : Array Int) (hx : partition ltInt d4 x y p2 = (mid, ap, d5)) => round_part swo_ltInt (partition_holds ltInt) hp3 hp4 (by rw [HS6.out.size]; exact hyn) HI4.out.1.below hx)
                      obtain ⟨⟨mid, ap, d5⟩, hd5⟩ : ∃ q, q = partition ltInt d4 x y p2 := ⟨_, rfl⟩
                      rw [← hd5] at HC5
                      dsimp only at HC5
                      obtain ⟨r1, r2, r3, r4, r5, r6, r7⟩ := HRE.out mid ap d5 hd5.symm
                      have HRR := Lib.hid (And.intro r3 (And.intro r4 (And.intro r5 (And.intro r6 r7))))
                      clear hd5 r3 r4 r5 r6 r7
                      go_upto_if 113 with (go_at_call 51; refine HC5.out.mono ?_; rintro e3 W5 ⟨rfl, hs7⟩)
                      have HS7 := Lib.hid hs7
                      clear hs7
                      have hxm : x + 13 ≤ y := HX13.out
                      by_cases hlr : mid - x < y - mid
                      · have hlrz : (mid : Int) - (x : Int) < (y : Int) - (mid : Int) := by omega
                        have HCR := Lib.hid (HIH.out cap x mid k2 d5 W5 (by have := HXY.out.1; have := HN.out; omega) HS7.out r1 (by omega) HK2.out HRR.out.2.1)
                        go_wp2_with (go_at_call 41; refine HCR.out.mono ?_; rintro e4 W6 ⟨rfl, d6, hp6, hs6, hs8⟩)
                        go_roundw
                        case rel =>
                          obtain ⟨u1, u2⟩ := HRR.out.2.2.2.1 d6 hp6 hs6
                          refine ⟨mid + 1, y, k2, _, ap, d6, by go_num, rfl, rfl, rfl, rfl, by omega, hyn, Lib.hid ⟨by have := HXY.out.1; omega, HK2.out⟩, Lib.hid ⟨⟨hp6.1.trans (HRR.out.1.trans HI4.out.1.size), by omega, HI4.out.1.hi, u1, fun R h1 h2 => ?_⟩, hs8⟩⟩
                          obtain ⟨v1, v2⟩ := u2 R h1 h2
                          exact HI4.out.1.all R v1 v2
                        case measure => simp [intOf]; omega
                      · have hlrz : ¬ (mid : Int) - (x : Int) < (y : Int) - (mid : Int) := by omega
                        obtain ⟨m1, hm1⟩ : ∃ m1, m1 = mid + 1 := ⟨_, rfl⟩
                        have hm1z : (mid : Int) + 1 = (m1 : Int) := by omega
                        have HCR := Lib.hid (HIH.out cap (mid + 1) y k2 d5 W5 (by have := HXY.out.1; have := HN.out; omega) HS7.out (by omega) hyn HK2.out HRR.out.2.2.1)
                        rw [← hm1] at HCR
                        have HM1 := Lib.hid hm1
                        clear hm1
                        go_wp2_with (go_at_call 41; refine HCR.out.mono ?_; rintro e4 W6 ⟨rfl, d6, hp6, hs6, hs8⟩)
                        go_roundw
                        case rel =>
                          rw [HM1.out] at hp6 hs6
                          obtain ⟨u1, u2⟩ := HRR.out.2.2.2.2 d6 hp6 hs6
                          refine ⟨x, mid, k2, _, ap, d6, rfl, rfl, rfl, rfl, rfl, r1, by omega, Lib.hid ⟨by have := HXY.out.1; omega, HK2.out⟩, Lib.hid ⟨⟨hp6.1.trans (HRR.out.1.trans HI4.out.1.size), r1, by have := HI4.out.1.hi; omega, u1, fun R h1 h2 => ?_⟩, hs8⟩⟩
                          obtain ⟨v1, v2⟩ := u2 R h1 h2
                          exact HI4.out.1.all R v1 v2
                        case measure => simp [intOf]; omega
end Go.Proofs.Ytelbgjnaceffeaa
