/- BallotReads' walk. -/
import Derived.Test.YtkeaeahiokgkiaaBlCa
namespace Go.Proofs.Ytkeaeahiokgkiaa
open Go.RowKit

set_option maxRecDepth 100000 in
set_option maxHeartbeats 4000000 in
theorem BallotReads_any (A : Option Addr) (L c : Nat) (bs : List UInt8) (w : World) (hL : L = bs.length) (hc : L ≤ c) (hLm : L ≤ 9223372036854775807) (hA : HasA w w.heap.size A bs) :
    Calls Try.prog 4 #[.slice A L c] w fun e W' => e = .returned (.bool true) ∧ Below w.heap.size w W' := by
  have HL := Lib.hid (And.intro hL (And.intro hA hc))
  have hLi : (L : Int) ≤ 9223372036854775807 := by omega
  clear hL hA hc hLm
  go_enter Try.func4, Try.ntmps4
  by_cases hbig : 100 < L
  · have hbi : (100 : Int) < L := by omega
    clear hbig
    go_wp2_with fail
    refine (wakes14_any _).mono ?_
    rintro e W2 ⟨rfl, b2⟩
    have H2 := Lib.hid b2
    clear b2
    go_wp2
    go_ret
    exact ⟨rfl, H2.out⟩
  · have hbi : ¬ (100 : Int) < L := by omega
    have HS := Lib.hid (show L ≤ 100 by omega)
    clear hbig
    have HNR := Lib.hid (NewR_q (w := w) (lim := 100) A L c bs HL.out.1 (by have := HS.out; have := HL.out.1; omega) HL.out.2.1)
    go_wp2_with fail
    refine HNR.out.mono ?_
    rintro e W1 ⟨R, rfl, q1, hR, b1⟩
    have H1 := Lib.hid (And.intro b1 (And.intro hR q1))
    have HR := Lib.hid hR
    clear b1 hR q1 HNR
    have HT := take_any H1.out.2.2
    have wk : ∀ W, Below w.heap.size w W → Calls Try.prog 8 #[] W fun e W' => e = .returned (.bool true) ∧ Below w.heap.size w W' := fun W hb => (wakes14_any W).mono fun e W' ⟨h1, h2⟩ => ⟨h1, hb.trans (Below.mono h2 hb.size)⟩
    have HWK := Lib.hid wk
    clear wk
    by_cases he : (takeBA ⟨0, bs⟩).1.2 = 0
    · obtain ⟨_, hok, hfit, hbs, he2⟩ := take_fit he
      rw [he] at HT
      obtain ⟨x, hx⟩ : ∃ x, x = (takeBA ⟨0, bs⟩).1.1 := ⟨_, rfl⟩
      obtain ⟨s, hs⟩ : ∃ x, x = (takeBA ⟨0, bs⟩).2 := ⟨_, rfl⟩
      rw [← hx, ← hs] at HT
      rw [← hx] at hok hfit
      rw [← hs] at he2
      have hbs : bs = bytesBA x ++ s.bs := by rw [hx, hs]; exact hbs
      have HTT := Lib.hid HT
      have HX := Lib.hid (And.intro hok (And.intro hfit (And.intro hbs he2)))
      clear HT he hok hfit hbs he2 hx hs
      go_wp2_with fail
      refine HTT.out.mono ?_
      rintro e W2 ⟨rfl, q2, g2⟩
      have hb2 := below_grown H1.out.1 H1.out.1.size H1.out.2.1 g2
      have H2 := Lib.hid (And.intro hb2 q2)
      clear hb2 q2 g2 HTT
      go_upto_region 5 with (fail)
      obtain ⟨W3, hW3⟩ : ∃ W, W = W2.alloc (.cells #[.int .u64 (x.n : Int), .int .i64 x.r] 25) := ⟨_, rfl⟩
      rw [← hW3]
      obtain ⟨hb3, kx, b3⟩ := alloc2 H2.out.1 hW3
      obtain ⟨px, hpx⟩ : ∃ p, p = W2.heap.size := ⟨_, rfl⟩
      rw [← hpx] at kx ⊢
      have H3 := Lib.hid (And.intro hb3 (And.intro kx (H2.out.2.below b3)))
      have z0 := blk_cell kx 0
      have z1 := blk_cell kx 1
      simp at z0 z1
      clear hb3 kx b3 hpx hW3 H2 H1
      go_wp2_with fail
      refine (refBytes_any x HX.out.1 HX.out.2.1 _).mono ?_
      rintro e W4 ⟨g, L2, c2, rfl, ho, b4⟩
      have hb4 := H3.out.1.trans (Below.mono b4 H3.out.1.size)
      have k4 := (b4.block px (Array.getElem?_eq_some_iff.1 H3.out.2.1).1).trans H3.out.2.1
      have H4 := Lib.hid (And.intro hb4 (And.intro (H3.out.2.2.below b4) (own_len ho)))
      have hA4 := HasA.of_own ho
      go_upto_region 8 with (fail)
      refine reads_cmp A L c px x bs s.bs (some ⟨g, 0, none⟩) L2 c2 _ W4 _ rfl rfl rfl rfl k4 HX.out.2.1 HL.out.1 HS.out HL.out.2.2 (HL.out.2.1.below' hb4) (own_len ho) hA4 HX.out.2.2.1 ?_
      intro W5 b5
      have H5 := Lib.hid (And.intro (H4.out.1.trans (Below.mono b5 H4.out.1.size)) (H4.out.2.1.below b5))
      simp only [puts, List.foldl_cons, List.foldl_nil, Act.put, List.setIfInBounds_toArray, List.set_cons_succ, List.set_cons_zero]
      have hlen : bs.length = L2 + s.bs.length := by
        have h := congrArg List.length HX.out.2.2.1
        rw [List.length_append] at h
        have := H4.out.2.2
        omega
      have hL2i : (L2 : Int) ≤ 100 := by have := HS.out; have := HL.out.1; omega
      clear hb4 k4 hA4 b5 b4 ho z0 z1 H3
      have HD := DoneR_q H5.out.2
      by_cases hr : s.bs = []
      · have e1 : s.done = 0 := by unfold RdS.done; rw [if_pos HX.out.2.2.2, if_pos hr]
        rw [e1] at HD
        have hll : (L2 : Int) = (L : Int) := by have := HL.out.1; rw [hr] at hlen; simp at hlen; omega
        have HDD := Lib.hid HD
        clear HD e1 hr hlen H4
        go_wp2_with fail
        refine HDD.out.mono ?_
        rintro e W6 ⟨rfl, g6⟩
        have H6 := Lib.hid (below_grown H5.out.1 H5.out.1.size HR.out g6)
        clear g6 HDD
        go_wp2_with fail
        refine (HWK.out _ H6.out).mono ?_
        rintro e W7 ⟨rfl, b7⟩
        have H7 := Lib.hid b7
        clear b7
        go_wp2
        go_ret
        exact ⟨rfl, H7.out⟩
      · have e1 : s.done = 11 := by unfold RdS.done; rw [if_pos HX.out.2.2.2, if_neg hr]
        rw [e1] at HD
        have hll : ((L2 : Int) == (L : Int)) = false := beq_eq_false_iff_ne.2 (by
          have := HL.out.1
          have := List.length_pos_iff.2 hr
          omega)
        have HDD := Lib.hid HD
        clear HD e1 hr hlen H4
        go_wp2_with fail
        refine HDD.out.mono ?_
        rintro e W6 ⟨rfl, g6⟩
        have H6 := Lib.hid (below_grown H5.out.1 H5.out.1.size HR.out g6)
        clear g6 HDD
        go_wp2_with fail
        refine (HWK.out _ H6.out).mono ?_
        rintro e W7 ⟨rfl, b7⟩
        have H7 := Lib.hid b7
        clear b7
        go_wp2
        go_ret
        exact ⟨rfl, H7.out⟩
    · obtain ⟨h0, h1⟩ := take_err (s := ⟨0, bs⟩) rfl he
      rw [h0] at HT
      have HZ : ∀ k : Int, ((takeBA ⟨0, bs⟩).1.2 : Int) = k → Hid (Calls Try.prog 18 #[.pointer (some ⟨R, 0, none⟩)] W1 fun e W' => e = .returned (.tuple #[.agg #[.int .u64 0, .int .i64 0], .int .i64 k]) ∧ W1.grownBy W' (some R)) := fun k hk => by
        rw [← hk]
        exact Lib.hid (HT.mono fun e W' ⟨a, _, b⟩ => ⟨a, b⟩)
      have hq : ∀ W, (binOp .eql 25 (.agg #[.int .u64 0, .int .i64 0]) (.agg #[.int .u64 0, .int .i64 0])).run Try.prog W = .ok (.bool true) W := fun W => eqL W 0 0
      rcases h1 with h1 | h1
      · have HTT := HZ 10 (by rw [h1]; rfl)
        clear HZ h0 h1 he HT
        go_wp2_with fail
        refine HTT.out.mono ?_
        rintro e W2 ⟨rfl, g2⟩
        have H2 := Lib.hid (below_grown H1.out.1 H1.out.1.size H1.out.2.1 g2)
        clear g2 HTT
        go_wp2_with fail
        refine (HWK.out _ (H2.out.alloc H2.out.size _)).mono ?_
        rintro e W7 ⟨rfl, b7⟩
        have H7 := Lib.hid b7
        clear b7
        go_wp2
        go_ret
        exact ⟨rfl, H7.out⟩
      · have HTT := HZ 11 (by rw [h1]; rfl)
        clear HZ h0 h1 he HT
        go_wp2_with fail
        refine HTT.out.mono ?_
        rintro e W2 ⟨rfl, g2⟩
        have H2 := Lib.hid (below_grown H1.out.1 H1.out.1.size H1.out.2.1 g2)
        clear g2 HTT
        go_wp2_with fail
        refine (HWK.out _ (H2.out.alloc H2.out.size _)).mono ?_
        rintro e W7 ⟨rfl, b7⟩
        have H7 := Lib.hid b7
        clear b7
        go_wp2
        go_ret
        exact ⟨rfl, H7.out⟩
end Go.Proofs.Ytkeaeahiokgkiaa
