/- The walk of the law that a ring plays as a table does. -/
import Derived.Test.YteeiiaahhoeohaaRgSt
import Derived.Deep.CutBlock
namespace Go.Proofs.Yteeiiaahhoeohaa
open Go.RowKit

set_option maxRecDepth 100000 in
set_option maxHeartbeats 4000000 in
theorem rplays_bad (K : RingS) (hB : BaseS K) (hN : NilS) (n : Int) (hn : -9223372036854775808 ≤ n ∧ n ≤ 9223372036854775807) (hbad : n < 1 ∨ 4096 < n) (A : Option Addr) (L c : Nat) (w : World) :
    Calls Try.prog 3 #[.int .i64 n, .slice A L c] w fun e W' => e = .returned (.bool true) ∧ Below w.heap.size w W' := by
  have KB := Lib.hid hB
  have KN := Lib.hid hN
  have HBAD := Lib.hid hbad
  have HNN := Lib.hid hn
  clear hB hN hbad
  go_enter Try.func3, Try.ntmps3
  go_wp2_with fail
  refine (K.newBad w n HNN.out HBAD.out).mono ?_
  rintro e W1 ⟨rfl, hb⟩
  have HB := Lib.hid hb
  clear hb
  have rest : n < 1 ∨ (¬ n < 1 ∧ 4096 < n) := by have := HBAD.out; omega
  rcases rest with h1 | ⟨h1, h2⟩
  all_goals
    go_wp2_with fail
    refine (KN.out.get W1 1 (by omega)).mono ?_
    rintro e W2 ⟨rfl, hb⟩
    have HB2 := Lib.hid (HB.out.trans (Below.mono hb HB.out.size))
    clear hb
    go_wp2_with fail
    refine (KN.out.set W2 1 ⟨#[]⟩ (by omega)).mono ?_
    rintro e W3 ⟨rfl, hb⟩
    have HB3 := Lib.hid (HB2.out.trans (Below.mono hb HB2.out.size))
    clear hb
    go_wp2_with fail
    refine (KN.out.rel W3 1 (by omega)).mono ?_
    rintro e W4 ⟨rfl, hb⟩
    have HB4 := Lib.hid (HB3.out.trans (Below.mono hb HB3.out.size))
    clear hb
    go_wp2_with fail
    refine (KN.out.base W4).mono ?_
    rintro e W5 ⟨rfl, hb⟩
    have HB5 := Lib.hid (HB4.out.trans (Below.mono hb HB4.out.size))
    clear hb
    go_wp2_with fail
    refine (KN.out.last W5).mono ?_
    rintro e W6 ⟨rfl, hb⟩
    have HB6 := Lib.hid (HB5.out.trans (Below.mono hb HB5.out.size))
    clear hb
    go_wp2_with fail
    refine (wakes7 K KB.out W6).mono ?_
    rintro e W7 ⟨rfl, hb⟩
    have HB7 := Lib.hid (HB6.out.trans (Below.mono hb HB6.out.size))
    clear hb
    go_wp2
    go_ret
    exact ⟨rfl, HB7.out⟩

set_option maxRecDepth 100000 in
set_option maxHeartbeats 4000000 in
theorem rplays_big (K : RingS) (hB : BaseS K) (N : Nat) (h1 : 1 ≤ N) (h2 : N ≤ 4096) (A : Option Addr) (L c : Nat) (hLm : L ≤ 140737488351232) (hbig : 50 < N ∨ 200 < L) (w : World) :
    Calls Try.prog 3 #[.int .i64 (N : Int), .slice A L c] w fun e W' => e = .returned (.bool true) ∧ Below w.heap.size w W' := by
  have KB := Lib.hid hB
  have HBIG := Lib.hid hbig
  have h1i : ¬ (N : Int) < 1 := by omega
  have h2i : ¬ (4096 : Int) < N := by omega
  clear hB hbig
  go_enter Try.func3, Try.ntmps3
  go_wp2_with fail
  refine (LiveR.new K w N h1 h2).mono ?_
  rintro e W1 ⟨R, rfl, hl⟩
  have HB := Lib.hid hl.below
  clear hl
  have rest : (50 : Int) < N ∨ (¬ (50 : Int) < N ∧ (200 : Int) < L) := by have := HBIG.out; omega
  rcases rest with h3 | ⟨h3, h4⟩
  all_goals
    go_wp2_with fail
    refine (wakes7 K KB.out W1).mono ?_
    rintro e W7 ⟨rfl, hb⟩
    have HB7 := Lib.hid (HB.out.trans (Below.mono hb HB.out.size))
    clear hb
    go_wp2
    go_ret
    exact ⟨rfl, HB7.out⟩

set_option maxRecDepth 100000 in
set_option maxHeartbeats 16000000 in
theorem rplays_any (K : RingS) (hB : BaseS K) (hAl : AllS K) (N : Nat) (h1 : 1 ≤ N) (h2 : N ≤ 50) (A : Option Addr) (L c : Nat) (l : List ActR) (hL : L = l.length) (hLm : L ≤ 200) (w : World) (hA : InActsR w A l) :
    Calls Try.prog 3 #[.int .i64 (N : Int), .slice A L c] w fun e W' => e = .returned (.bool true) ∧ Below w.heap.size w W' := by
  have KB := Lib.hid hB
  have KA := Lib.hid hAl
  have HL := Lib.hid hL
  have HA := Lib.hid hA
  have h1i : ¬ (N : Int) < 1 := by omega
  have h2i : ¬ (4096 : Int) < N := by omega
  have h3i : ¬ (50 : Int) < N := by omega
  have hNi : (N : Int) ≤ 50 := by omega
  have hN0 : (1 : Int) ≤ N := by omega
  have h4i : ¬ (200 : Int) < L := by omega
  have hLi : (L : Int) ≤ 200 := by omega
  have hmm := @run_makeMap Try.prog
  clear hB hAl hL hA
  go_enter Try.func3, Try.ntmps3
  go_wp2_with fail
  refine (LiveR.new K w N h1 (by omega)).mono ?_
  rintro e W1 ⟨R, rfl, hl⟩
  have HS := Lib.hid (PlS.of_new hl)
  clear hl
  go_wp2
  go_loopw [10, 11] (fun v10 i wr => ∃ k b : Nat, k ≤ L ∧ i = .int .i64 (k : Int) ∧ v10 = .int .u64 (b : Int) ∧ b ≤ 1152921504606846976 ∧ Hid (PlS K w R W1.heap.size N b k wr)) (fun _ i _ => L - (intOf i).toNat)
  case atStart => exact ⟨0, 0, Nat.zero_le _, rfl, rfl, by omega, HS⟩
  case round =>
    obtain ⟨k, b, hk, rfl, rfl, hb, LS⟩ := hrel
    by_cases hlt : k < L
    · have hki : (k : Int) < L := by omega
      have hkl : k < l.length := by rw [← HL.out]; exact hlt
      obtain ⟨lb, lo, e, hlb, hc⟩ := HA.out (by rintro rfl; simp at hkl)
      subst e
      obtain ⟨f0, f1, f2, hok⟩ := hc k hkl
      obtain ⟨a, ha⟩ : ∃ a, a = l[k] := ⟨_, rfl⟩
      rw [← ha] at f0 f1 f2 hok
      obtain ⟨d, s, tx⟩ := a
      obtain ⟨hd, hs, htx⟩ := hok
      simp only at f0 f1 f2 hd hs htx
      have bl := LS.out.below
      have g0 := (bl.cell (p := ⟨lb, lo + k * 3, none⟩) hlb).trans f0
      have g1 := (bl.cell (p := ⟨lb, lo + k * 3 + 1, none⟩) hlb).trans f1
      have g2 := (bl.cell (p := ⟨lb, lo + k * 3 + 2, none⟩) hlb).trans f2
      have hd256 : (d : Int) < 256 := by omega
      have hbi : (b : Int) ≤ 1152921504606846976 := by omega
      have F2 := Lib.hid (And.intro hlb f2)
      have HTX := Lib.hid htx
      clear hc ha f0 f1 f2 bl hlb
      by_cases hbig : 1152921504606846976 < s
      · have hbigi : (1152921504606846976 : Int) < s := by omega
        have hs' : (s : Int) ≤ 18446744073709551615 := by omega
        clear hbig
        go_wp2_with fail
        refine (wakes7 K KB.out wr).mono ?_
        rintro e W7 ⟨rfl, hb7⟩
        have HB7 := Lib.hid (LS.out.below.trans (Below.mono hb7 LS.out.below.size))
        clear hb7
        go_wp2
        go_ret
        exact ⟨rfl, HB7.out⟩
      have hbigi : ¬ (1152921504606846976 : Int) < s := by omega
      have hsi : (s : Int) ≤ 1152921504606846976 := by omega
      have hs60 : s ≤ 1152921504606846976 := by omega
      clear hbig
      obtain ⟨q, hq⟩ : ∃ q, q = d % 3 := ⟨_, rfl⟩
      have hqi : (d : Int) % 3 = (q : Int) := by omega
      have hq3 : q = 0 ∨ q = 1 ∨ q = 2 := by omega
      have win : (s ≤ b ∧ ¬ (b : Int) < s ∧ (s : Int) ≤ b) ∨ (b < s ∧ s ≤ b + N ∧ (b : Int) < s ∧ (s : Int) ≤ (b : Int) + N ∧ ¬ (s : Int) ≤ b) ∨ (b + N < s ∧ (b : Int) < s ∧ ¬ (s : Int) ≤ (b : Int) + N ∧ ¬ (s : Int) ≤ b) := by omega
      clear hq
      rcases hq3 with rfl | rfl | rfl
      · rcases win with ⟨c1, c2, c3⟩ | ⟨c1, c2, c3, c4, c5⟩ | ⟨c1, c2, c3, c4⟩
        · go_wp2_with fail
          refine (LS.out.set1 tx c1 hs).mono ?_
          rintro e W2 ⟨rfl, hp2⟩
          have T1 := Lib.hid (hp2)
          go_wp2_with fail
          refine (T1.out.base KB.out).mono ?_
          rintro e Wb ⟨rfl, hpb⟩
          have T2 := Lib.hid hpb
          clear hpb T1
          go_wp2_with fail
          refine (T2.out.holds KA.out h1 h2 (by omega)).mono ?_
          rintro e Wh ⟨rfl, hph⟩
          have T3 := Lib.hid hph
          clear hph T2
          go_wp2
          exact ⟨⟨k + 1, b, by omega, by congr 1, rfl, by omega, Lib.hid (T3.out.more (Nat.le_succ k))⟩, by simp only [intOf]; omega⟩
        · go_wp2_with (at_mapUpdate; refine wpList_plays_put K w wr LS.out (by unfold maxLen; omega) rfl _ _ _ rfl s hs tx HTX.out rfl rfl rfl ?_; intro W2 hp2; have g3 := (hp2.below.cell (p := ⟨lb, lo + k * 3 + 2, none⟩) F2.out.1).trans F2.out.2; have P2 := Lib.hid hp2; clear hp2)
          refine (P2.out.set c1 c2 hs).mono ?_
          rintro e W3 ⟨rfl, hp2⟩
          have T1 := Lib.hid (hp2)
          go_wp2_with fail
          refine (T1.out.base KB.out).mono ?_
          rintro e Wb ⟨rfl, hpb⟩
          have T2 := Lib.hid hpb
          clear hpb T1
          go_wp2_with fail
          refine (T2.out.holds KA.out h1 h2 (by omega)).mono ?_
          rintro e Wh ⟨rfl, hph⟩
          have T3 := Lib.hid hph
          clear hph T2
          go_wp2
          exact ⟨⟨k + 1, b, by omega, by congr 1, rfl, by omega, Lib.hid (T3.out)⟩, by simp only [intOf]; omega⟩
        · go_wp2_with fail
          refine (LS.out.set2 tx c1 hs).mono ?_
          rintro e W2 ⟨rfl, hp2⟩
          have T1 := Lib.hid (hp2)
          go_wp2_with fail
          refine (T1.out.base KB.out).mono ?_
          rintro e Wb ⟨rfl, hpb⟩
          have T2 := Lib.hid hpb
          clear hpb T1
          go_wp2_with fail
          refine (T2.out.holds KA.out h1 h2 (by omega)).mono ?_
          rintro e Wh ⟨rfl, hph⟩
          have T3 := Lib.hid hph
          clear hph T2
          go_wp2
          exact ⟨⟨k + 1, b, by omega, by congr 1, rfl, by omega, Lib.hid (T3.out.more (Nat.le_succ k))⟩, by simp only [intOf]; omega⟩
      · obtain ⟨o, x, hx, ho, hget⟩ := LS.out.get (k := s) hs
        have HG := Lib.hid hget
        clear hget
        rcases win with ⟨c1, c2, c3⟩ | ⟨c1, c2, c3, c4, c5⟩ | ⟨c1, c2, c3, c4⟩
        · have hx' : x = none := by rw [hx, if_neg (by omega)]
          subst hx'
          clear hx
          rcases o with _ | y
          all_goals
            clear ho
            go_wp2_with fail
            refine HG.out.mono ?_
            rintro e W2 ⟨rfl, hp2, n', T', ht, hTo⟩
            have TB2 := Lib.hid ht
            have TO2 := Lib.hid hTo
            have P2 := Lib.hid hp2
            clear hp2 ht hTo
            go_wp2_with (at_lookup; refine wpList_tab_look _ rfl _ _ rfl W1.heap.size n' T' TB2.out s hs rfl rfl ?_; rw [TO2.out]; intro sx hsx)
            have T1 := Lib.hid (P2.out)
            go_wp2_with fail
            refine (T1.out.base KB.out).mono ?_
            rintro e Wb ⟨rfl, hpb⟩
            have T2 := Lib.hid hpb
            clear hpb T1
            go_wp2_with fail
            refine (T2.out.holds KA.out h1 h2 (by omega)).mono ?_
            rintro e Wh ⟨rfl, hph⟩
            have T3 := Lib.hid hph
            clear hph T2
            go_wp2
            exact ⟨⟨k + 1, b, by omega, by congr 1, rfl, by omega, Lib.hid (T3.out.more (Nat.le_succ k))⟩, by simp only [intOf]; omega⟩
        · have hx' : x = o := by rw [hx, if_pos (by omega)]
          subst hx'
          clear hx ho
          rcases x with _ | y
          · go_wp2_with fail
            refine HG.out.mono ?_
            rintro e W2 ⟨rfl, hp2, n', T', ht, hTo⟩
            have TB2 := Lib.hid ht
            have TO2 := Lib.hid hTo
            have P2 := Lib.hid hp2
            clear hp2 ht hTo
            go_wp2_with (at_lookup; refine wpList_tab_look _ rfl _ _ rfl W1.heap.size n' T' TB2.out s hs rfl rfl ?_; rw [TO2.out]; intro sx hsx)
            have T1 := Lib.hid (P2.out)
            go_wp2_with fail
            refine (T1.out.base KB.out).mono ?_
            rintro e Wb ⟨rfl, hpb⟩
            have T2 := Lib.hid hpb
            clear hpb T1
            go_wp2_with fail
            refine (T2.out.holds KA.out h1 h2 (by omega)).mono ?_
            rintro e Wh ⟨rfl, hph⟩
            have T3 := Lib.hid hph
            clear hph T2
            go_wp2
            exact ⟨⟨k + 1, b, by omega, by congr 1, rfl, by omega, Lib.hid (T3.out.more (Nat.le_succ k))⟩, by simp only [intOf]; omega⟩
          · go_wp2_with fail
            refine HG.out.mono ?_
            rintro e W2 ⟨rfl, hp2, n', T', ht, hTo⟩
            have TB2 := Lib.hid ht
            have TO2 := Lib.hid hTo
            have P2 := Lib.hid hp2
            clear hp2 ht hTo
            go_wp2_with (at_lookup; refine wpList_tab_look _ rfl _ _ rfl W1.heap.size n' T' TB2.out s hs rfl rfl ?_; rw [TO2.out]; intro sx hsx; rw [hsx y rfl])
            have T1 := Lib.hid (P2.out)
            go_wp2_with fail
            refine (T1.out.base KB.out).mono ?_
            rintro e Wb ⟨rfl, hpb⟩
            have T2 := Lib.hid hpb
            clear hpb T1
            go_wp2_with fail
            refine (T2.out.holds KA.out h1 h2 (by omega)).mono ?_
            rintro e Wh ⟨rfl, hph⟩
            have T3 := Lib.hid hph
            clear hph T2
            go_wp2
            exact ⟨⟨k + 1, b, by omega, by congr 1, rfl, by omega, Lib.hid (T3.out.more (Nat.le_succ k))⟩, by simp only [intOf]; omega⟩
        · have hx' : x = none := by rw [hx, if_neg (by omega)]
          have ho' : o = none := ho c1
          subst hx' ho'
          clear hx ho
          go_wp2_with fail
          refine HG.out.mono ?_
          rintro e W2 ⟨rfl, hp2, n', T', ht, hTo⟩
          have TB2 := Lib.hid ht
          have TO2 := Lib.hid hTo
          have P2 := Lib.hid hp2
          clear hp2 ht hTo
          go_wp2_with (at_lookup; refine wpList_tab_look _ rfl _ _ rfl W1.heap.size n' T' TB2.out s hs rfl rfl ?_; rw [TO2.out]; intro sx hsx)
          have T1 := Lib.hid (P2.out)
          go_wp2_with fail
          refine (T1.out.base KB.out).mono ?_
          rintro e Wb ⟨rfl, hpb⟩
          have T2 := Lib.hid hpb
          clear hpb T1
          go_wp2_with fail
          refine (T2.out.holds KA.out h1 h2 (by omega)).mono ?_
          rintro e Wh ⟨rfl, hph⟩
          have T3 := Lib.hid hph
          clear hph T2
          go_wp2
          exact ⟨⟨k + 1, b, by omega, by congr 1, rfl, by omega, Lib.hid (T3.out.more (Nat.le_succ k))⟩, by simp only [intOf]; omega⟩
      · have rel : (s < b ∧ (s : Int) < b) ∨ (b ≤ s ∧ ¬ (s : Int) < b) := by omega
        rcases win with ⟨c1, c2, c3⟩ | ⟨c1, c2, c3, c4, c5⟩ | ⟨c1, c2, c3, c4⟩
        · rcases rel with ⟨r1, r2⟩ | ⟨r1, r2⟩
          · go_wp2_with fail
            refine (LS.out.rel1 r1 hs).mono ?_
            rintro e W2 ⟨rfl, hp2⟩
            have T1 := Lib.hid (hp2)
            go_wp2_with fail
            refine (T1.out.base KB.out).mono ?_
            rintro e Wb ⟨rfl, hpb⟩
            have T2 := Lib.hid hpb
            clear hpb T1
            go_wp2_with fail
            refine (T2.out.holds KA.out h1 h2 (by omega)).mono ?_
            rintro e Wh ⟨rfl, hph⟩
            have T3 := Lib.hid hph
            clear hph T2
            go_wp2
            exact ⟨⟨k + 1, b, by omega, by congr 1, rfl, by omega, Lib.hid (T3.out.more (Nat.le_succ k))⟩, by simp only [intOf]; omega⟩
          · go_wp2_with fail
            refine (LS.out.rel0 r1 hs).mono ?_
            rintro e W2 ⟨rfl, hp2⟩
            have T1 := Lib.hid (hp2)
            go_wp2_with fail
            refine (T1.out.base KB.out).mono ?_
            rintro e Wb ⟨rfl, hpb⟩
            have T2 := Lib.hid hpb
            clear hpb T1
            go_wp2_with fail
            refine (T2.out.holds KA.out h1 h2 (by omega)).mono ?_
            rintro e Wh ⟨rfl, hph⟩
            have T3 := Lib.hid hph
            clear hph T2
            go_wp2
            exact ⟨⟨k + 1, s, by omega, by congr 1, rfl, by omega, Lib.hid (T3.out.more (Nat.le_succ k))⟩, by simp only [intOf]; omega⟩
        · have r1 : b ≤ s := by omega
          have r2 : ¬ (s : Int) < b := by omega
          clear rel
          go_wp2_with fail
          refine (LS.out.rel0 r1 hs).mono ?_
          rintro e W2 ⟨rfl, hp2⟩
          have T1 := Lib.hid (hp2)
          go_wp2_with fail
          refine (T1.out.base KB.out).mono ?_
          rintro e Wb ⟨rfl, hpb⟩
          have T2 := Lib.hid hpb
          clear hpb T1
          go_wp2_with fail
          refine (T2.out.holds KA.out h1 h2 (by omega)).mono ?_
          rintro e Wh ⟨rfl, hph⟩
          have T3 := Lib.hid hph
          clear hph T2
          go_wp2
          exact ⟨⟨k + 1, s, by omega, by congr 1, rfl, by omega, Lib.hid (T3.out.more (Nat.le_succ k))⟩, by simp only [intOf]; omega⟩
        · have r1 : b ≤ s := by omega
          have r2 : ¬ (s : Int) < b := by omega
          clear rel
          go_wp2_with fail
          refine (LS.out.rel0 r1 hs).mono ?_
          rintro e W2 ⟨rfl, hp2⟩
          have T1 := Lib.hid (hp2)
          go_wp2_with fail
          refine (T1.out.base KB.out).mono ?_
          rintro e Wb ⟨rfl, hpb⟩
          have T2 := Lib.hid hpb
          clear hpb T1
          go_wp2_with fail
          refine (T2.out.holds KA.out h1 h2 (by omega)).mono ?_
          rintro e Wh ⟨rfl, hph⟩
          have T3 := Lib.hid hph
          clear hph T2
          go_wp2
          exact ⟨⟨k + 1, s, by omega, by congr 1, rfl, by omega, Lib.hid (T3.out.more (Nat.le_succ k))⟩, by simp only [intOf]; omega⟩
    · obtain rfl : k = L := by omega
      have hnlt : ¬ (k : Int) < k := by omega
      clear hlt
      go_wp2_with fail
      refine (wakes7 K KB.out wr).mono ?_
      rintro e W7 ⟨rfl, hb7⟩
      have HB7 := Lib.hid (LS.out.below.trans (Below.mono hb7 LS.out.below.size))
      clear hb7
      go_wp2
      go_ret
      exact ⟨rfl, HB7.out⟩
end Go.Proofs.Yteeiiaahhoeohaa
