/- VotesMeet's walk. -/
import Derived.Test.YtnpkaljmncehhaaVoTw
namespace Go.Proofs.Ytnpkaljmncehhaa
open Go.RowKit

/-- Booleans that lie in a row. -/
def HasBo (w : World) (A : Option Addr) (l : List Bool) : Prop := l ≠ [] → ∃ b o, A = some ⟨b, o, none⟩ ∧ b < w.heap.size ∧ ∀ j (h : j < l.length), w.cell? ⟨b, o + j, none⟩ = some (.bool l[j])
/-- Which side a replica votes on. -/
def sideB (l : List Bool) (r : Nat) : Bool := l.getD r false
/-- The tally of those who vote on the side f, behind i of them. -/
def sidesT (n s : Nat) (f : Nat → Bool) : Nat → TM
  | 0 => TM.new n
  | i + 1 => if f i then (sidesT n s f i).addX (i : Int) s s else sidesT n s f i
theorem sidesT_is {n s : Nat} {f : Nat → Bool} (hs : 0 < s) : ∀ {i : Nat}, i ≤ n → (sidesT n s f i).n = n ∧ (sidesT n s f i).F = 0 ∧ (sidesT n s f i).c ≤ i ∧ ∀ q, (sidesT n s f i).S q s = (decide (q < i) && f q)
  | 0, _ => ⟨rfl, rfl, Nat.le_refl _, fun q => by simp [sidesT, TM.new]⟩
  | i + 1, hi => by
    obtain ⟨h1, h2, h3, h4⟩ := sidesT_is (n := n) (f := f) hs (i := i) (by omega)
    unfold sidesT
    by_cases hf : f i = true
    · rw [if_pos hf]
      unfold TM.addX
      rw [if_pos (by unfold TM.may; rw [h1, decide_eq_true_eq]; omega)]
      refine ⟨h1, h2, by show (sidesT n s f i).c + 1 ≤ i + 1; omega, fun q => ?_⟩
      show (if q = (i : Int).toNat ∧ s ≤ s ∧ s ≤ s ∧ (sidesT n s f i).F < s then true else (sidesT n s f i).S q s) = _
      rw [h2, Int.toNat_natCast]
      by_cases hq : q = i
      · subst hq
        rw [if_pos ⟨rfl, Nat.le_refl _, Nat.le_refl _, hs⟩, hf]
        simp
      · rw [if_neg (fun h => hq h.1), h4]
        by_cases hlt : q < i
        · rw [decide_eq_true hlt, decide_eq_true (by omega : q < i + 1)]
        · rw [decide_eq_false hlt, decide_eq_false (by omega : ¬ q < i + 1)]
    · rw [if_neg hf]
      refine ⟨h1, h2, by omega, fun q => ?_⟩
      rw [h4]
      by_cases hq : q = i
      · subst hq
        simp [hf]
      · by_cases hlt : q < i
        · rw [decide_eq_true hlt, decide_eq_true (by omega : q < i + 1)]
        · rw [decide_eq_false hlt, decide_eq_false (by omega : ¬ q < i + 1)]
theorem sidesT_count {n s : Nat} {f : Nat → Bool} (hs : 0 < s) : (sidesT n s f n).count s = cntF f n := by
  obtain ⟨h1, h2, _, h4⟩ := sidesT_is (n := n) (f := f) hs (Nat.le_refl n)
  unfold TM.count
  rw [h1]
  refine cntF_congr fun r hr => ?_
  unfold TM.has
  rw [h2, h4, decide_eq_false (by omega), decide_eq_true hr, Bool.false_or, Bool.true_and]
theorem sidesT_chosen {n s : Nat} {f : Nat → Bool} (hs : 0 < s) : (sidesT n s f n).chosen s = decide (n < 2 * cntF f n) := by
  unfold TM.chosen
  rw [sidesT_count hs, (sidesT_is hs (Nat.le_refl n)).1]
/-- The rounds: two tallies, and how many voted on the first side. -/
structure MtI {T : World → Prop} (K : VotK T) (w : World) (Ra Rb k s : Nat) (f : Nat → Bool) (i : Nat) (W : World) : Prop where
  two : TwoV K w Ra Rb (sidesT k s f i) (sidesT k s (fun r => !f r) i) W
set_option maxRecDepth 100000 in
set_option maxHeartbeats 1000000 in
theorem VotesMeet_any {T : World → Prop} (K : VotK T) (nn : Nat) (A : Option Addr) (L c : Nat) (l : List Bool) (s : Nat) (w : World) (hT : T w) (hn : nn < 256) (hL : L = l.length) (hLm : L ≤ 9223372036854775807) (hA : HasBo w A l) (hs : s < 18446744073709551616) :
    Calls Try.prog 4 #[.int .u8 (nn : Int), .slice A L c, .int .u64 (s : Int)] w fun e W' => e = .returned (.bool true) ∧ Below w.heap.size w W' := by
  have HT := Lib.hid hT
  obtain ⟨k, hk⟩ : ∃ k : Nat, k = 1 + nn % 7 := ⟨_, rfl⟩
  obtain ⟨m, hm⟩ : ∃ m : Nat, m = nn % 7 := ⟨_, rfl⟩
  have hmi : (nn : Int) % 7 = (m : Int) := by omega
  have hmt : (nn : Int).tmod 7 = (m : Int) := by rw [Int.tmod_eq_emod_of_nonneg (by omega)]; exact hmi
  have hki : 1 + (m : Int) = (k : Int) := by omega
  have hn2 : (nn : Int) < 256 := by omega
  have HK := Lib.hid (show 1 ≤ k ∧ k ≤ 7 by omega)
  have hk7 : (k : Int) ≤ 7 := by omega
  have HL := Lib.hid (And.intro hL (And.intro hA hs))
  have hLi : (L : Int) ≤ 9223372036854775807 := by omega
  have wk : ∀ W, Below w.heap.size w W → Calls Try.prog 7 #[] W fun e W' => e = .returned (.bool true) ∧ Below w.heap.size w W' := fun W hb => (wakes15_any K W (K.grew HT.out hb)).mono fun e W' ⟨h1, h2⟩ => ⟨h1, hb.trans (Below.mono h2 hb.size)⟩
  have HWK := Lib.hid wk
  have HNA := Lib.hid (LiveV.of_new K w w k HK.out.1 HK.out.2 hT (Below.refl _ _))
  clear hT hn hL hLm hA hs wk hk hm
  go_enter Try.func4, Try.ntmps4
  go_upto_region 2 with (fail)
  go_wp2_with fail
  refine HNA.out.mono ?_
  rintro e W1 ⟨Ra, rfl, l1, _⟩
  have HNB := Lib.hid (l1.two HT.out k HK.out.1 HK.out.2)
  clear l1 HNA
  go_wp2_with fail
  refine HNB.out.mono ?_
  rintro e W2 ⟨Rb, rfl, t2⟩
  obtain ⟨f, hf⟩ : ∃ f, f = sideB l := ⟨_, rfl⟩
  have HF := Lib.hid hf
  have H2 : Hid (MtI K w Ra Rb k s f 0 W2) := Lib.hid ⟨t2⟩
  clear t2 HNB hf
  by_cases hs0 : s = 0
  · subst hs0
    go_wp2_with fail
    refine (HWK.out _ H2.out.two.below).mono ?_
    rintro e W3 ⟨rfl, b3⟩
    have H3 := Lib.hid b3
    clear b3
    go_wp2
    go_ret
    exact ⟨rfl, H3.out⟩
  · have hsi : ((s : Int) == 0) = false := beq_eq_false_iff_ne.2 (by omega)
    have HS := Lib.hid (show 0 < s by omega)
    clear hs0
    go_wp2
    go_loopw [12, 13, 14] (fun v12 v13 v14 wr => ∃ i : Nat, i ≤ k ∧ v13 = .int .i64 (i : Int) ∧ v12 = .int .i64 (cntF f i : Int) ∧ Hid (MtI K w Ra Rb k s f i wr)) (fun _ i _ _ => k - (intOf i).toNat)
    case atStart => exact ⟨0, Nat.zero_le _, rfl, rfl, H2⟩
    case round =>
      obtain ⟨i, hi, rfl, rfl, HI⟩ := hrel
      obtain ⟨F1, hF1⟩ : ∃ x, x = cntF f i := ⟨_, rfl⟩
      rw [← hF1]
      have hF7 : F1 ≤ 7 := by rw [hF1]; have := cntF_le f i; have := HK.out.2; omega
      have hF7i : (F1 : Int) ≤ 7 := by omega
      have HF1 := Lib.hid hF1
      clear hF1 hF7
      by_cases hlt : i < k
      · have hii : (i : Int) < k := by omega
        have hca := (sidesT_is (n := k) (f := f) HS.out (Nat.le_of_lt hlt)).2.2.1
        have hcb := (sidesT_is (n := k) (f := fun r => !f r) HS.out (Nat.le_of_lt hlt)).2.2.1
        have hna := (sidesT_is (n := k) (f := f) HS.out (Nat.le_of_lt hlt)).1
        have hnb := (sidesT_is (n := k) (f := fun r => !f r) HS.out (Nat.le_of_lt hlt)).1
        have hea : (sidesT k s f i).addE (i : Int) s s = 0 := by unfold TM.addE; rw [if_pos (by unfold TM.may; rw [hna, decide_eq_true_eq]; omega)]
        have heb : (sidesT k s (fun r => !f r) i).addE (i : Int) s s = 0 := by unfold TM.addE; rw [if_pos (by unfold TM.may; rw [hnb, decide_eq_true_eq]; omega)]
        have HA : f i = true → Hid (∀ W, Below wr.heap.size wr W → Calls Try.prog 12 #[.pointer (some ⟨Ra, 0, none⟩), .int .i64 (i : Int), .agg #[.int .u64 (s : Int), .int .u64 (s : Int)]] W fun e W' => e = .returned (.int .i64 0) ∧ MtI K w Ra Rb k s f (i + 1) W') := fun hfi => Lib.hid fun W hW => ((HI.out.two.grew hW).add HT.out (by have := HK.out.2; omega) (i : Int) s s HL.out.2.2 HL.out.2.2).mono fun e W' ⟨h1, h2⟩ => ⟨by rw [h1, hea]; rfl, ⟨by
          have e1 : sidesT k s f (i + 1) = (sidesT k s f i).addX (i : Int) s s := by rw [sidesT, if_pos hfi]
          have e2 : sidesT k s (fun r => !f r) (i + 1) = sidesT k s (fun r => !f r) i := by rw [sidesT, if_neg (by rw [hfi]; decide)]
          rw [e1, e2]
          exact h2⟩⟩
        have HB : f i = false → Hid (∀ W, Below wr.heap.size wr W → Calls Try.prog 12 #[.pointer (some ⟨Rb, 0, none⟩), .int .i64 (i : Int), .agg #[.int .u64 (s : Int), .int .u64 (s : Int)]] W fun e W' => e = .returned (.int .i64 0) ∧ MtI K w Ra Rb k s f (i + 1) W') := fun hfi => Lib.hid fun W hW => ((HI.out.two.grew hW).swap.add HT.out (by have := HK.out.2; omega) (i : Int) s s HL.out.2.2 HL.out.2.2).mono fun e W' ⟨h1, h2⟩ => ⟨by rw [h1, heb]; rfl, ⟨by
          have e1 : sidesT k s (fun r => !f r) (i + 1) = (sidesT k s (fun r => !f r) i).addX (i : Int) s s := by rw [sidesT, if_pos (by rw [hfi]; rfl)]
          have e2 : sidesT k s f (i + 1) = sidesT k s f i := by rw [sidesT, if_neg (by rw [hfi]; decide)]
          rw [e1, e2]
          exact h2.swap⟩⟩
        have HAH := Lib.hid HA
        have HBH := Lib.hid HB
        clear hca hcb hna hnb hea heb HA HB
        by_cases hfi : f i = true
        · have hli : i < l.length := by
            refine Nat.lt_of_not_le fun h => ?_
            rw [HF.out, sideB, List.getD_eq_getElem?_getD, List.getElem?_eq_none h] at hfi
            cases hfi
          have hlL : (i : Int) < L := by have := HL.out.1; omega
          obtain ⟨bb, o, e1, l1, f1⟩ := HL.out.2.1 (by rintro rfl; simp at hli)
          subst e1
          have hl : l[i] = true := by
            rw [HF.out, sideB, List.getD_eq_getElem?_getD, List.getElem?_eq_getElem hli] at hfi
            exact hfi
          have d0 : wr.cell? ⟨bb, o + i, none⟩ = some (.bool true) := (HI.out.two.below.cell (p := ⟨bb, _, none⟩) l1).trans (by rw [f1 i hli, hl])
          have HX := Lib.hid ((HAH.out hfi).out)
          have hsuc : cntF f (i + 1) = F1 + 1 := by rw [cntF, ← HF1.out, if_pos hfi]
          have HSU := Lib.hid hsuc
          clear hsuc hl f1 l1 hli HAH HBH hfi
          go_wp2_with fail
          refine (span_any _ _ _).mono ?_
          rintro e W4 ⟨rfl, b4⟩
          have H4 := Lib.hid (HX.out _ b4)
          clear b4 HX d0
          go_wp2_with fail
          refine H4.out.mono ?_
          rintro e W5 ⟨rfl, h5⟩
          have H5 := Lib.hid h5
          clear h5 H4
          go_wp2
          exact ⟨⟨i + 1, by omega, by congr 1, by rw [HSU.out]; congr 1, H5⟩, by simp only [intOf]; omega⟩
        · have hff : f i = false := by cases h : f i; rfl; exact absurd h hfi
          have HX := Lib.hid ((HBH.out hff).out)
          have hsuc : cntF f (i + 1) = F1 := by rw [cntF, ← HF1.out, if_neg hfi]; rfl
          have HSU := Lib.hid hsuc
          by_cases hli : i < l.length
          · have hlL : (i : Int) < L := by have := HL.out.1; omega
            obtain ⟨bb, o, e1, l1, f1⟩ := HL.out.2.1 (by rintro rfl; simp at hli)
            subst e1
            have hl : l[i] = false := by
              rw [HF.out, sideB, List.getD_eq_getElem?_getD, List.getElem?_eq_getElem hli] at hff
              exact hff
            have d0 : wr.cell? ⟨bb, o + i, none⟩ = some (.bool false) := (HI.out.two.below.cell (p := ⟨bb, _, none⟩) l1).trans (by rw [f1 i hli, hl])
            clear hsuc hl f1 l1 hli HAH HBH hfi hff
            go_wp2_with fail
            refine (span_any _ _ _).mono ?_
            rintro e W4 ⟨rfl, b4⟩
            have H4 := Lib.hid (HX.out _ b4)
            clear b4 HX d0
            go_wp2_with fail
            refine H4.out.mono ?_
            rintro e W5 ⟨rfl, h5⟩
            have H5 := Lib.hid h5
            clear h5 H4
            go_wp2
            exact ⟨⟨i + 1, by omega, by congr 1, by rw [HSU.out], H5⟩, by simp only [intOf]; omega⟩
          · have hlL : ¬ (i : Int) < L := by have := HL.out.1; omega
            clear hsuc hli HAH HBH hfi hff
            go_wp2_with fail
            refine (span_any _ _ _).mono ?_
            rintro e W4 ⟨rfl, b4⟩
            have H4 := Lib.hid (HX.out _ b4)
            clear b4 HX
            go_wp2_with fail
            refine H4.out.mono ?_
            rintro e W5 ⟨rfl, h5⟩
            have H5 := Lib.hid h5
            clear h5 H4
            go_wp2
            exact ⟨⟨i + 1, by omega, by congr 1, by rw [HSU.out], H5⟩, by simp only [intOf]; omega⟩
      · have hii : ¬ (i : Int) < k := by omega
        have hik : i = k := by omega
        subst hik
        obtain ⟨F2, hF2⟩ : ∃ x, x = cntF (fun r => !f r) i := ⟨_, rfl⟩
        have hsum : F1 + F2 = i := by rw [HF1.out, hF2]; exact cntF_not f i
        have hca := (sidesT_is (n := i) (f := f) HS.out (Nat.le_refl i)).2.2.1
        have hcb := (sidesT_is (n := i) (f := fun r => !f r) HS.out (Nat.le_refl i)).2.2.1
        have hcha := sidesT_chosen (n := i) (f := f) HS.out
        have hchb := sidesT_chosen (n := i) (f := fun r => !f r) HS.out
        rw [← HF1.out] at hcha
        rw [← hF2] at hchb
        have HCA := Lib.hid (show ∀ W, Below wr.heap.size wr W → Calls Try.prog 15 #[.pointer (some ⟨Ra, 0, none⟩), .int .u64 (s : Int)] W fun e W' => e = .returned (.bool (decide (i < 2 * F1))) ∧ Below W.heap.size W W' from fun W hW => by
          rw [← hcha]
          exact (HI.out.two.left.grew hW).chosen HT.out (by have := HK.out.2; omega) s HL.out.2.2)
        have HCB := Lib.hid (show ∀ W, Below wr.heap.size wr W → Calls Try.prog 15 #[.pointer (some ⟨Rb, 0, none⟩), .int .u64 (s : Int)] W fun e W' => e = .returned (.bool (decide (i < 2 * F2))) ∧ Below W.heap.size W W' from fun W hW => by
          rw [← hchb]
          exact (HI.out.two.right.grew hW).chosen HT.out (by have := HK.out.2; omega) s HL.out.2.2)
        have HMJ := Lib.hid (show ∀ W, Below wr.heap.size wr W → Calls Try.prog 16 #[.int .i64 (i : Int)] W fun e W' => e = .returned (.int .i64 ((i / 2 + 1 : Nat) : Int)) ∧ Below W.heap.size W W' from fun W hW => K.maj i W (K.grew HT.out (HI.out.two.grew hW).below) HK.out.1 (by have := HK.out.2; omega))
        have HW := Lib.hid (show ∀ W, Below wr.heap.size wr W → Calls Try.prog 7 #[] W fun e W' => e = .returned (.bool true) ∧ Below w.heap.size w W' from fun W hW => HWK.out W (HI.out.two.grew hW).below)
        have B0 := Lib.hid (Below.refl wr.heap.size wr)
        have hsub : (i : Int) - (F1 : Int) = (F2 : Int) := by omega
        obtain ⟨mj, hmj⟩ : ∃ x : Nat, x = i / 2 + 1 := ⟨_, rfl⟩
        rw [← hmj] at HMJ
        have hF2i : (F2 : Int) ≤ 7 := by have := HK.out.2; omega
        obtain ⟨ca, hcaE⟩ : ∃ x, x = decide (i < 2 * F1) := ⟨_, rfl⟩
        obtain ⟨cb, hcbE⟩ : ∃ x, x = decide (i < 2 * F2) := ⟨_, rfl⟩
        rw [← hcaE] at HCA
        rw [← hcbE] at HCB
        have HE := Lib.hid (And.intro hcaE (And.intro hcbE (And.intro hmj hsum)))
        clear hca hcb hcha hchb hF2 hsum hmj hcaE hcbE HI HF1 HL HF
        cases ca with
        | true =>
          have h1 : i < 2 * F1 := by simpa using HE.out.1.symm
          have h2 : cb = false := by rw [HE.out.2.1]; have := HE.out.2.2.2; simp; omega
          subst h2
          have g1 : (mj : Int) ≤ (F1 : Int) := by have := HE.out.2.2.1; omega
          have g2 : ¬ (mj : Int) ≤ (F2 : Int) := by have := HE.out.2.2.1; have := HE.out.2.2.2; omega
          clear h1
          go_wp2_with fail
          refine (HCA.out _ B0.out).mono ?_
          rintro e U1 ⟨rfl, b1⟩
          have B1 := Lib.hid (B0.out.trans (Below.mono b1 B0.out.size))
          clear b1
          go_wp2_with fail
          refine (HCB.out _ B1.out).mono ?_
          rintro e U2 ⟨rfl, b2⟩
          have B2 := Lib.hid (B1.out.trans (Below.mono b2 B1.out.size))
          clear b2
          go_wp2_with fail
          refine (HCA.out _ B2.out).mono ?_
          rintro e U3 ⟨rfl, b3⟩
          have B3 := Lib.hid (B2.out.trans (Below.mono b3 B2.out.size))
          clear b3
          go_wp2_with fail
          refine (HMJ.out _ B3.out).mono ?_
          rintro e U4 ⟨rfl, b4⟩
          have B4 := Lib.hid (B3.out.trans (Below.mono b4 B3.out.size))
          clear b4
          go_wp2_with fail
          refine (HCB.out _ B4.out).mono ?_
          rintro e U5 ⟨rfl, b5⟩
          have B5 := Lib.hid (B4.out.trans (Below.mono b5 B4.out.size))
          clear b5
          go_wp2_with fail
          refine (HMJ.out _ B5.out).mono ?_
          rintro e U6 ⟨rfl, b6⟩
          have B6 := Lib.hid (B5.out.trans (Below.mono b6 B5.out.size))
          clear b6
          by_cases hev : i % 2 = 0
          · have hevi : (i : Int) % 2 = 0 := by omega
            have hevt : (i : Int).tmod 2 = 0 := by rw [Int.tmod_eq_emod_of_nonneg (by omega)]; exact hevi
            clear hev
            go_wp2_with fail
            refine (HW.out _ B6.out).mono ?_
            rintro e U9 ⟨rfl, b9⟩
            have B9 := Lib.hid b9
            clear b9
            go_wp2
            go_ret
            exact ⟨rfl, B9.out⟩
          · have hevi : (i : Int) % 2 = 1 := by omega
            have hevt : (i : Int).tmod 2 = 1 := by rw [Int.tmod_eq_emod_of_nonneg (by omega)]; exact hevi
            clear hev
            go_wp2_with fail
            refine (HCA.out _ B6.out).mono ?_
            rintro e U7 ⟨rfl, b7⟩
            have B7 := Lib.hid (B6.out.trans (Below.mono b7 B6.out.size))
            clear b7
            go_wp2_with fail
            refine (HCB.out _ B7.out).mono ?_
            rintro e U8 ⟨rfl, b8⟩
            have B8 := Lib.hid (B7.out.trans (Below.mono b8 B7.out.size))
            clear b8
            go_wp2_with fail
            refine (HW.out _ B8.out).mono ?_
            rintro e U9 ⟨rfl, b9⟩
            have B9 := Lib.hid b9
            clear b9
            go_wp2
            go_ret
            exact ⟨rfl, B9.out⟩
        | false =>
          have h1 : ¬ i < 2 * F1 := by simpa using HE.out.1.symm
          have g1 : ¬ (mj : Int) ≤ (F1 : Int) := by have := HE.out.2.2.1; omega
          go_wp2_with fail
          refine (HCA.out _ B0.out).mono ?_
          rintro e U1 ⟨rfl, b1⟩
          have B1 := Lib.hid (B0.out.trans (Below.mono b1 B0.out.size))
          clear b1
          go_wp2_with fail
          refine (HCA.out _ B1.out).mono ?_
          rintro e U3 ⟨rfl, b3⟩
          have B3 := Lib.hid (B1.out.trans (Below.mono b3 B1.out.size))
          clear b3
          go_wp2_with fail
          refine (HMJ.out _ B3.out).mono ?_
          rintro e U4 ⟨rfl, b4⟩
          have B4 := Lib.hid (B3.out.trans (Below.mono b4 B3.out.size))
          clear b4
          go_wp2_with fail
          refine (HCB.out _ B4.out).mono ?_
          rintro e U5 ⟨rfl, b5⟩
          have B5 := Lib.hid (B4.out.trans (Below.mono b5 B4.out.size))
          clear b5
          go_wp2_with fail
          refine (HMJ.out _ B5.out).mono ?_
          rintro e U6 ⟨rfl, b6⟩
          have B6 := Lib.hid (B5.out.trans (Below.mono b6 B5.out.size))
          clear b6
          cases cb with
          | true =>
            have h2 : i < 2 * F2 := by simpa using HE.out.2.1.symm
            have g2 : (mj : Int) ≤ (F2 : Int) := by have := HE.out.2.2.1; omega
            clear h1 h2
            by_cases hev : i % 2 = 0
            · have hevi : (i : Int) % 2 = 0 := by omega
              have hevt : (i : Int).tmod 2 = 0 := by rw [Int.tmod_eq_emod_of_nonneg (by omega)]; exact hevi
              clear hev
              go_wp2_with fail
              refine (HW.out _ B6.out).mono ?_
              rintro e U9 ⟨rfl, b9⟩
              have B9 := Lib.hid b9
              clear b9
              go_wp2
              go_ret
              exact ⟨rfl, B9.out⟩
            · have hevi : (i : Int) % 2 = 1 := by omega
              have hevt : (i : Int).tmod 2 = 1 := by rw [Int.tmod_eq_emod_of_nonneg (by omega)]; exact hevi
              clear hev
              go_wp2_with fail
              refine (HCA.out _ B6.out).mono ?_
              rintro e U7 ⟨rfl, b7⟩
              have B7 := Lib.hid (B6.out.trans (Below.mono b7 B6.out.size))
              clear b7
              go_wp2_with fail
              refine (HCB.out _ B7.out).mono ?_
              rintro e U8 ⟨rfl, b8⟩
              have B8 := Lib.hid (B7.out.trans (Below.mono b8 B7.out.size))
              clear b8
              go_wp2_with fail
              refine (HW.out _ B8.out).mono ?_
              rintro e U9 ⟨rfl, b9⟩
              have B9 := Lib.hid b9
              clear b9
              go_wp2
              go_ret
              exact ⟨rfl, B9.out⟩
          | false =>
            have h2 : ¬ i < 2 * F2 := by simpa using HE.out.2.1.symm
            have g2 : ¬ (mj : Int) ≤ (F2 : Int) := by have := HE.out.2.2.1; omega
            have hev : i % 2 = 0 := by have := HE.out.2.2.2; omega
            clear h1 h2
            have hevi : (i : Int) % 2 = 0 := by omega
            have hevt : (i : Int).tmod 2 = 0 := by rw [Int.tmod_eq_emod_of_nonneg (by omega)]; exact hevi
            clear hev
            go_wp2_with fail
            refine (HW.out _ B6.out).mono ?_
            rintro e U9 ⟨rfl, b9⟩
            have B9 := Lib.hid b9
            clear b9
            go_wp2
            go_ret
            exact ⟨rfl, B9.out⟩
end Go.Proofs.Ytnpkaljmncehhaa
