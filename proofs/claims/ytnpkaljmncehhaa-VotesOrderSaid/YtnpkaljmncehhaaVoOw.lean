/- VotesOrder's walk, the last of it. -/
import Derived.Test.YtnpkaljmncehhaaVoOr
namespace Go.Proofs.Ytnpkaljmncehhaa
open Go.RowKit

section
variable {T : World → Prop} {K : VotK T} {w W : World} {Ra Rb ha la hb : Nat} {l : List (Nat × Nat)}
theorem OrV.addA {i : Nat} (h : OrV K w Ra Rb l i la hb W) (hT : T w) (hi : i < l.length) (hl : l.length ≤ 60) (hok : okSp l[i]) : Calls Try.prog 12 #[.pointer (some ⟨Ra, 0, none⟩), .int .i64 ((i % 3 : Nat) : Int), .agg #[.int .u64 (l[i].1 : Int), .int .u64 (l[i].2 : Int)]] W fun e W' => (∃ v, e = .returned v) ∧ OrV K w Ra Rb l (i + 1) la hb W' := by
  obtain ⟨ta, tb, h1, h2, h3⟩ := h.ex
  have h4 := hok.1
  have h5 := hok.2
  exact (h1.add hT (by have := h2.c; omega) _ _ _ (by omega) (by omega)).mono fun e W' ⟨he, hw⟩ => ⟨⟨_, he⟩, ⟨_, _, hw, h2.up hi hok, h3⟩⟩
theorem OrV.noA {i : Nat} (h : OrV K w Ra Rb l i la hb W) (hi : i < l.length) (hok : ¬ okSp l[i]) : OrV K w Ra Rb l (i + 1) la hb W := by
  obtain ⟨ta, tb, h1, h2, h3⟩ := h.ex
  exact ⟨ta, tb, h1, h2.upNo hi hok, h3⟩
theorem OrV.noB {j : Nat} (h : OrV K w Ra Rb l ha (j + 1) l.length W) (hi : j < l.length) (hok : ¬ okSp l[j]) : OrV K w Ra Rb l ha j l.length W := by
  obtain ⟨ta, tb, h1, h2, h3⟩ := h.ex
  exact ⟨ta, tb, h1, h2, h3.downNo hi hok⟩
theorem OrV.addB {j : Nat} (h : OrV K w Ra Rb l ha (j + 1) l.length W) (hT : T w) (hi : j < l.length) (hl : l.length ≤ 60) (hok : okSp l[j]) : Calls Try.prog 12 #[.pointer (some ⟨Rb, 0, none⟩), .int .i64 ((j % 3 : Nat) : Int), .agg #[.int .u64 (l[j].1 : Int), .int .u64 (l[j].2 : Int)]] W fun e W' => (∃ v, e = .returned v) ∧ OrV K w Ra Rb l ha j l.length W' := by
  obtain ⟨ta, tb, h1, h2, h3⟩ := h.ex
  have h4 := hok.1
  have h5 := hok.2
  exact (h1.swap.add hT (by have := h3.c; omega) _ _ _ (by omega) (by omega)).mono fun e W' ⟨he, hw⟩ => ⟨⟨_, he⟩, ⟨_, _, hw.swap, h2, h3.down hi hok⟩⟩
/-- Behind the first part of a span that was cut in two. -/
structure OrX (K : VotK T) (w : World) (Ra Rb : Nat) (l : List (Nat × Nat)) (ha j m : Nat) (W : World) : Prop where
  ex : ∃ (hj : j < l.length) (ta tb : TM), TwoV K w Ra Rb ta (tb.addX ((j % 3 : Nat) : Int) (m + 1) l[j].2) W ∧ OrS ta l 0 ha ∧ OrS tb l (j + 1) l.length
theorem OrX.grew {W' : World} {j m : Nat} (h : OrX K w Ra Rb l ha j m W) (hg : Below W.heap.size W W') : OrX K w Ra Rb l ha j m W' := by
  obtain ⟨hj, ta, tb, h1, h2⟩ := h.ex
  exact ⟨hj, ta, tb, h1.grew hg, h2⟩
theorem TwoV.addP {W' : World} {ta tb : TM} (h : TwoV K w Ra Rb ta tb W) (hg : Below W.heap.size W W') {q : Nat} (hq : W.heap.size ≤ q) (hq2 : q < W'.heap.size) (hT : T w) (hc : ta.c ≤ 1000) (r : Int) (x y : Nat) (hx : x < 18446744073709551616) (hy : y < 18446744073709551616) : Calls Try.prog 12 #[.pointer (some ⟨Ra, 0, none⟩), .int .i64 r, .agg #[.int .u64 (x : Int), .int .u64 (y : Int)]] W' fun e W2 => e = .returned (.int .i64 (ta.addE r x y : Int)) ∧ TwoV K w Ra Rb (ta.addX r x y) tb W2 ∧ W2.heap[q]? = W'.heap[q]? := by
  obtain ⟨Fa, Fb, a1, b1, a2, b2, d⟩ := h.ex
  have hlt := K.lt a1
  have a1' := K.keep a1 (Only.of_grew (F := fun _ => False) hg) (fun _ _ => id)
  have b1' := K.keep b1 (Only.of_grew (F := fun _ => False) hg) (fun _ _ => id)
  have hbel := h.below.trans (Below.mono hg h.below.size)
  refine (K.add r x y a1' (K.grew hT hbel) h.oka hc hx hy).mono fun _ W2 ⟨he, F', k1, k2, k3⟩ => ⟨he, ⟨⟨F', Fb, k1, K.keep b1' k2 (fun k hb ha => d k ha hb), fun k hk => ?_, b2, fun k hk hb => ?_⟩, hbel.trans (k2.below hbel.size a2), h.oka.addX hy, h.okb⟩, k2.block q hq2 fun hf => by have := hlt q hf; omega⟩
  · rcases k3 k hk with h' | h'
    · exact a2 k h'
    · exact Nat.le_trans hbel.size h'
  · rcases k3 k hk with h' | h'
    · exact d k h' hb
    · have := K.lt b1' k hb
      omega
theorem OrV.addX1P {W' : World} {j m : Nat} (h : OrV K w Ra Rb l ha (j + 1) l.length W) (hg : Below W.heap.size W W') {q : Nat} (hq : W.heap.size ≤ q) (hq2 : q < W'.heap.size) (hT : T w) (hi : j < l.length) (hl : l.length ≤ 60) (hok : okSp l[j]) (hm : m < l[j].2) : Calls Try.prog 12 #[.pointer (some ⟨Rb, 0, none⟩), .int .i64 ((j % 3 : Nat) : Int), .agg #[.int .u64 ((m + 1 : Nat) : Int), .int .u64 (l[j].2 : Int)]] W' fun e W2 => (∃ v, e = .returned v) ∧ OrX K w Ra Rb l ha j m W2 ∧ W2.heap[q]? = W'.heap[q]? := by
  obtain ⟨ta, tb, h1, h2, h3⟩ := h.ex
  have h4 := hok.1
  have h5 := hok.2
  exact (h1.swap.addP hg hq hq2 hT (by have := h3.c; omega) _ (m + 1) _ (by omega) (by omega)).mono fun e W2 ⟨he, hw, hk⟩ => ⟨⟨_, he⟩, ⟨hi, _, _, hw.swap, h2, h3⟩, hk⟩
theorem OrX.add {j m : Nat} (h : OrX K w Ra Rb l ha j m W) (hT : T w) (hi : j < l.length) (hl : l.length ≤ 60) (hok : okSp l[j]) (h1 : l[j].1 ≤ m) (h2 : m < l[j].2) : Calls Try.prog 12 #[.pointer (some ⟨Rb, 0, none⟩), .int .i64 ((j % 3 : Nat) : Int), .agg #[.int .u64 (l[j].1 : Int), .int .u64 (m : Int)]] W fun e W' => (∃ v, e = .returned v) ∧ OrV K w Ra Rb l ha j l.length W' := by
  obtain ⟨_, ta, tb, g1, g2, g3⟩ := h.ex
  have h5 := hok.2
  refine (g1.swap.add hT ?_ _ _ m (by omega) (by omega)).mono fun e W' ⟨he, hw⟩ => ⟨⟨_, he⟩, ⟨_, _, hw.swap, g2, g3.down2 hi hok h1 h2⟩⟩
  have := TM.addX_c tb ((j % 3 : Nat) : Int) (m + 1) l[j].2
  have := g3.c
  omega
end
set_option maxRecDepth 100000 in
set_option maxHeartbeats 4000000 in
theorem VotesOrder_any {T : World → Prop} (K : VotK T) (A : Option Addr) (L c : Nat) (l : List (Nat × Nat)) (A2 : Option Addr) (L2 c2 : Nat) (cs : List Nat) (w : World) (hT : T w) (hL : L = l.length) (hLm : L ≤ 140737488351232) (hA : HasSp w A l) (hlt : ∀ p ∈ l, p.1 < 18446744073709551616 ∧ p.2 < 18446744073709551616) (hL2 : L2 = cs.length) (hLm2 : L2 ≤ 9223372036854775807) (hA2 : HasU6 w A2 cs) (hcs : ∀ x ∈ cs, x < 18446744073709551616) :
    Calls Try.prog 5 #[.slice A L c, .slice A2 L2 c2] w fun e W' => e = .returned (.bool true) ∧ Below w.heap.size w W' := by
  have HT := Lib.hid hT
  have HL := Lib.hid (And.intro hL (And.intro hA (And.intro hlt (And.intro hL2 (And.intro hA2 hcs)))))
  have hLi : (L : Int) ≤ 140737488351232 := by omega
  have hLi2 : (L2 : Int) ≤ 9223372036854775807 := by omega
  have wk : ∀ W, Below w.heap.size w W → Calls Try.prog 7 #[] W fun e W' => e = .returned (.bool true) ∧ Below w.heap.size w W' := fun W hb => (wakes15_any K W (K.grew HT.out hb)).mono fun e W' ⟨h1, h2⟩ => ⟨h1, hb.trans (Below.mono h2 hb.size)⟩
  have HWK := Lib.hid wk
  have HNA := Lib.hid (LiveV.of_new K w w 3 (by decide) (by decide) hT (Below.refl _ _))
  clear hT hL hLm hA hlt hL2 hLm2 hA2 hcs wk
  go_enter Try.func5, Try.ntmps5
  by_cases hbig : 60 < L
  · have hbi : (60 : Int) < L := by omega
    clear hbig
    go_wp2_with fail
    refine (HWK.out _ (Below.refl _ _)).mono ?_
    rintro e W3 ⟨rfl, b3⟩
    have H3 := Lib.hid b3
    clear b3
    go_wp2
    go_ret
    exact ⟨rfl, H3.out⟩
  · have hbi : ¬ (60 : Int) < L := by omega
    have HS := Lib.hid (show L ≤ 60 by omega)
    clear hbig
    go_wp2_with fail
    refine HNA.out.mono ?_
    rintro e W1 ⟨Ra, rfl, l1, _⟩
    have HNB := Lib.hid (l1.two HT.out 3 (by decide) (by decide))
    clear l1 HNA
    go_wp2_with fail
    refine HNB.out.mono ?_
    rintro e W2 ⟨Rb, rfl, t2⟩
    have H2 : Hid (OrV K w Ra Rb l 0 l.length l.length W2) := Lib.hid ⟨_, _, t2, OrS.new l 0, OrS.new l l.length⟩
    clear t2 HNB
    go_wp2
    go_loopw [9, 10] (fun v9 v10 wr => ∃ i : Nat, i ≤ L ∧ v9 = .int .i64 (i : Int) ∧ Hid (OrV K w Ra Rb l i l.length l.length wr)) (fun i _ _ => L - (intOf i).toNat)
    case atStart => exact ⟨0, Nat.zero_le _, rfl, H2⟩
    case round =>
      obtain ⟨i, hi, rfl, HI⟩ := hrel
      by_cases hlt : i < L
      · have hii : (i : Int) < L := by omega
        have hi1 : i < l.length := by have := HL.out.1; omega
        obtain ⟨bb, o, e1, l1, f1⟩ := HL.out.2.1 (by rintro rfl; simp at hi1)
        subst e1
        obtain ⟨a0, a1⟩ := f1 i hi1
        obtain ⟨fa, hfa⟩ : ∃ x, x = l[i].1 := ⟨_, rfl⟩
        obtain ⟨fb, hfb⟩ : ∃ x, x = l[i].2 := ⟨_, rfl⟩
        rw [← hfa] at a0
        rw [← hfb] at a1
        have hb := HI.out.below
        have d0 : wr.cell? ⟨bb, o + i * 2, none⟩ = some (.int .u64 (fa : Int)) := (hb.cell (p := ⟨bb, _, none⟩) l1).trans a0
        have d1 : wr.cell? ⟨bb, o + i * 2 + 1, none⟩ = some (.int .u64 (fb : Int)) := (hb.cell (p := ⟨bb, _, none⟩) l1).trans a1
        have HX := Lib.hid (And.intro hi1 (And.intro hfa hfb))
        clear a0 a1 f1 l1 hb hfa hfb
        go_upto_region 11 with (fail)
        obtain ⟨W3, hW3⟩ : ∃ V, V = wr.alloc (.cells #[.int .u64 (fa : Int), .int .u64 (fb : Int)] 42) := ⟨_, rfl⟩
        rw [← hW3]
        obtain ⟨b3, k3, s3⟩ := box2 hW3
        obtain ⟨px, hpx⟩ : ∃ p, p = wr.heap.size := ⟨_, rfl⟩
        rw [← hpx] at k3 ⊢
        have x0 := blk_cell k3 0
        have x1 := blk_cell k3 1
        simp at x0 x1
        have H3 := Lib.hid (HI.out.grew b3)
        clear b3 k3 s3 hpx hW3 d0 d1 HI
        by_cases hok : okSp l[i]
        · obtain ⟨q, hq⟩ : ∃ q, q = i % 3 := ⟨_, rfl⟩
          have HADD := H3.out.addA HT.out hi1 (by have := HS.out; have := HL.out.1; omega) hok
          rw [← HX.out.2.1, ← HX.out.2.2, ← hq] at HADD
          have HAD := Lib.hid HADD
          have hq1 : (i : Int) % 3 = (q : Int) := by omega
          have hq2 : (i : Int).tmod 3 = (q : Int) := by rw [Int.tmod_eq_emod_of_nonneg (by omega)]; exact hq1
          have g1 : ¬ (fb : Int) < fa := by have := hok.1; have := HX.out.2.1; have := HX.out.2.2; omega
          have g2 : ¬ (1099511627776 : Int) ≤ fb := by have := hok.2; have := HX.out.2.2; omega
          clear HADD hq hok
          go_wp2_with fail
          refine HAD.out.mono ?_
          rintro e W4 ⟨⟨v, rfl⟩, h4⟩
          have H4 := Lib.hid h4
          clear h4 HAD
          go_wp2
          exact ⟨⟨i + 1, by omega, by congr 1, H4⟩, by simp only [intOf]; omega⟩
        · have H4 := Lib.hid (H3.out.noA hi1 hok)
          by_cases g1 : fb < fa
          · have g1i : (fb : Int) < fa := by omega
            clear hok g1
            go_wp2
            exact ⟨⟨i + 1, by omega, by congr 1, H4⟩, by simp only [intOf]; omega⟩
          · have g1i : ¬ (fb : Int) < fa := by omega
            have g2i : (1099511627776 : Int) ≤ fb := by
              refine Int.not_lt.1 fun h => hok ⟨?_, ?_⟩
              · rw [← HX.out.2.1, ← HX.out.2.2]; omega
              · rw [← HX.out.2.2]; omega
            clear hok g1
            go_wp2
            exact ⟨⟨i + 1, by omega, by congr 1, H4⟩, by simp only [intOf]; omega⟩
      · have hii : ¬ (i : Int) < L := by omega
        have hil : i = l.length := by have := HL.out.1; omega
        have HB : Hid (OrV K w Ra Rb l l.length l.length l.length wr) := Lib.hid (by have h := HI.out; rw [hil] at h; exact h)
        clear hil HI
        go_wp2
        go_loopw [11, 12, 13] (fun v11 v12 v13 wr => ∃ i : Nat, i ≤ L ∧ v11 = .int .i64 ((i : Int) - 1) ∧ Hid (OrV K w Ra Rb l l.length i l.length wr)) (fun v _ _ _ => (intOf v + 1).toNat)
        case atStart => exact ⟨L, Nat.le_refl _, rfl, Lib.hid (by rw [HL.out.1]; exact HB.out)⟩
        case round =>
          obtain ⟨i, hi, rfl, HI⟩ := hrel
          rcases Nat.eq_zero_or_pos i with rfl | hpos
          · have hn0 : ((0 : Nat) : Int) - 1 = -1 := by omega
            rw [hn0]
            obtain ⟨ta, tb, two, oa, ob⟩ := HI.out.ex
            have HO := Lib.hid (And.intro oa ob)
            have HSA := Lib.hid (OrS.same oa ob)
            have HTW := Lib.hid two
            have ca : ta.c ≤ 1000 := by have := oa.c; have := HS.out; have := HL.out.1; omega
            have cb : tb.c ≤ 1000 := by have := ob.c; have := HS.out; have := HL.out.1; omega
            have HCC := Lib.hid (And.intro ca cb)
            clear two oa ob ca cb HI hn0
            go_wp2
            go_loopw [14, 15, 16, 17] (fun v14 v15 v16 v17 wr => ∃ r : Nat, r ≤ 3 ∧ v14 = .int .i64 (r : Int) ∧ Hid (TwoV K w Ra Rb ta tb wr)) (fun v _ _ _ _ => 3 - (intOf v).toNat)
            case atStart => exact ⟨0, by omega, rfl, HTW⟩
            case round =>
              obtain ⟨r, hr, rfl, HV⟩ := hrel
              by_cases hr3 : r < 3
              · have hri : (r : Int) < 3 := by omega
                have HSP := Lib.hid (HV.out.left.spansX HT.out HCC.out.1 r (by rw [HO.out.1.n]; exact hr3))
                go_wp2_with fail
                refine HSP.out.mono ?_
                rintro e W3 ⟨Aa, ca, sp, rfl, hsp, hsl, hha, b3⟩
                have HV3 := Lib.hid (HV.out.grew b3)
                have HSB := Lib.hid (HV3.out.right.spans HT.out HCC.out.2 r (by rw [HO.out.2.n]; exact hr3) (show SpansOf sp (tb.S r) by rw [← HSA.out]; exact hsp))
                have HA3 := Lib.hid (And.intro hha (And.intro hsp hsl))
                obtain ⟨n, hn⟩ : ∃ n, n = sp.length := ⟨_, rfl⟩
                rw [← hn] at HSB ⊢
                have HN := Lib.hid hn
                have hni : (n : Int) ≤ 100000 := by omega
                clear hsp hsl hha b3 HSP hn
                go_wp2_with fail
                refine HSB.out.mono ?_
                rintro e W4 ⟨Ab, cb, rfl, hhb, _, b4⟩
                have H4 : Hid (TwoV K w Ra Rb ta tb W4 ∧ HasSp W4 Aa sp ∧ HasSp W4 Ab sp) := Lib.hid ⟨HV3.out.grew b4, HA3.out.1.below b4, hhb⟩
                clear hhb b4 HSB HV3 HV
                go_wp2
                go_loopw [17] (fun v17 wr => ∃ i : Nat, i ≤ n ∧ v17 = .int .i64 (i : Int) ∧ Hid (TwoV K w Ra Rb ta tb wr ∧ HasSp wr Aa sp ∧ HasSp wr Ab sp)) (fun v _ => n - (intOf v).toNat)
                case atStart => exact ⟨0, Nat.zero_le _, rfl, H4⟩
                case round =>
                  obtain ⟨i, hi, rfl, HZ⟩ := hrel
                  by_cases hin : i < n
                  · have hini : (i : Int) < n := by omega
                    have hil : i < sp.length := by have := HN.out; omega
                    obtain ⟨ab, ao, ea, la, fA⟩ := HZ.out.2.1 (by rintro rfl; simp at hil)
                    obtain ⟨bb, bo, eb, lb, fB⟩ := HZ.out.2.2 (by rintro rfl; simp at hil)
                    subst ea eb
                    obtain ⟨x0, x1⟩ := fA i hil
                    obtain ⟨y0, y1⟩ := fB i hil
                    have hcan := canon_get HA3.out.2.1.canon i hil
                    have hlt := HA3.out.2.1.lt (M := 18446744073709551616) (fun s hs => (HZ.out.1.oka.S r s hs).2) _ (List.getElem_mem hil)
                    go_upto_region 33 with (fail)
                    have hnext : ∀ W6, Below wr.heap.size wr W6 → Hid (TwoV K w Ra Rb ta tb W6 ∧ HasSp W6 (some ⟨ab, ao, none⟩) sp ∧ HasSp W6 (some ⟨bb, bo, none⟩) sp) := fun W6 hb => Lib.hid ⟨HZ.out.1.grew hb, HZ.out.2.1.below hb, HZ.out.2.2.below hb⟩
                    rcases Nat.eq_zero_or_pos i with h0 | hpos
                    · refine vorder_cmpZ ab ao ca bb bo cb n i sp[i].1 sp[i].2 _ wr _ rfl rfl rfl rfl la lb hin (by have := HA3.out.2.2; omega) hcan.1 x0 x1 y0 y1 h0 ?_
                      intro W6 b6
                      have H6 := hnext W6 b6
                      simp only [puts, List.foldl_cons, List.foldl_nil, Act.put, List.setIfInBounds_toArray, List.set_cons_succ, List.set_cons_zero]
                      clear x0 x1 y0 y1 fA fB la lb hcan hlt hnext b6 h0 HZ
                      go_wp2
                      exact ⟨⟨i + 1, by omega, by congr 1, H6⟩, by simp only [intOf]; omega⟩
                    · have hpl : i - 1 < sp.length := by omega
                      have z1 := (fA (i - 1) hpl).2
                      have hprev := (canon_get HA3.out.2.1.canon (i - 1) hpl).2 i hil (by omega)
                      refine vorder_cmpP ab ao ca bb bo cb n i sp[i].1 sp[i].2 sp[i - 1].2 _ wr _ rfl rfl rfl rfl la lb hin (by have := HA3.out.2.2; omega) hcan.1 x0 x1 y0 y1 hpos hprev hlt.1 z1 ?_
                      intro W6 b6
                      have H6 := hnext W6 b6
                      simp only [puts, List.foldl_cons, List.foldl_nil, Act.put, List.setIfInBounds_toArray, List.set_cons_succ, List.set_cons_zero]
                      clear x0 x1 y0 y1 fA fB la lb hcan hlt hnext b6 z1 hprev HZ
                      go_wp2
                      exact ⟨⟨i + 1, by omega, by congr 1, H6⟩, by simp only [intOf]; omega⟩
                  · have hini : ¬ (i : Int) < n := by omega
                    have H6 := Lib.hid HZ.out.1
                    clear HZ
                    go_wp2
                    exact ⟨⟨r + 1, by omega, by congr 1, H6⟩, by simp only [intOf]; omega⟩
              · have hri : ¬ (r : Int) < 3 := by omega
                have HU := Lib.hid (HV.out.left.uptoX HT.out HCC.out.1 0 (by decide))
                have HU' : Hid (Calls Try.prog 18 #[.pointer (some ⟨Ra, 0, none⟩), .int .u64 0] wr fun e W' => ∃ m, UptoIs ta 0 m ∧ e = .returned (.int .u64 (m : Int)) ∧ Below wr.heap.size wr W') := Lib.hid HU.out
                clear HU
                go_wp2_with fail
                refine HU'.out.mono ?_
                rintro e W3 ⟨m, hm, rfl, b3⟩
                have HV3 := Lib.hid (HV.out.grew b3)
                have hmb : UptoIs tb 0 m := ⟨hm.le, hm.lt, fun x h1 h2 => by rw [← HO.out.1.chosen HO.out.2]; exact hm.all x h1 h2, fun h => by rw [← HO.out.1.chosen HO.out.2]; exact hm.stop h⟩
                have HUB : Hid (Calls Try.prog 18 #[.pointer (some ⟨Rb, 0, none⟩), .int .u64 0] W3 fun e W' => e = .returned (.int .u64 (m : Int)) ∧ Below W3.heap.size W3 W') := Lib.hid (HV3.out.right.upto HT.out HCC.out.2 0 m (by decide) hmb)
                clear hm hmb b3 HU' HV
                go_wp2_with fail
                refine HUB.out.mono ?_
                rintro e W4 ⟨rfl, b4⟩
                have H4 := Lib.hid (HV3.out.grew b4).below
                clear b4 HUB
                go_wp2_with fail
                refine (HWK.out _ H4.out).mono ?_
                rintro e W5 ⟨rfl, b5⟩
                have H5 := Lib.hid b5
                clear b5
                go_wp2
                go_ret
                exact ⟨rfl, H5.out⟩
          · obtain ⟨j, rfl⟩ : ∃ j, i = j + 1 := ⟨i - 1, by omega⟩
            have ej : (((j + 1 : Nat) : Int) - 1) = (j : Int) := by omega
            rw [ej]
            have hj1 : j < l.length := by have := HL.out.1; omega
            have hji : (j : Int) < L := by omega
            obtain ⟨bb, o, e1, l1, f1⟩ := HL.out.2.1 (by rintro rfl; simp at hj1)
            subst e1
            obtain ⟨a0, a1⟩ := f1 j hj1
            obtain ⟨fa, hfa⟩ : ∃ x, x = l[j].1 := ⟨_, rfl⟩
            obtain ⟨fb, hfb⟩ : ∃ x, x = l[j].2 := ⟨_, rfl⟩
            rw [← hfa] at a0
            rw [← hfb] at a1
            have hb := HI.out.below
            have d0 : wr.cell? ⟨bb, o + j * 2, none⟩ = some (.int .u64 (fa : Int)) := (hb.cell (p := ⟨bb, _, none⟩) l1).trans a0
            have d1 : wr.cell? ⟨bb, o + j * 2 + 1, none⟩ = some (.int .u64 (fb : Int)) := (hb.cell (p := ⟨bb, _, none⟩) l1).trans a1
            have HX := Lib.hid (And.intro hj1 (And.intro hfa hfb))
            clear a0 a1 f1 l1 hb hfa hfb ej hpos
            go_upto_region 17 with (fail)
            obtain ⟨W3, hW3⟩ : ∃ V, V = wr.alloc (.cells #[.int .u64 (fa : Int), .int .u64 (fb : Int)] 42) := ⟨_, rfl⟩
            rw [← hW3]
            obtain ⟨b3, k3, s3⟩ := box2 hW3
            obtain ⟨px, hpx⟩ : ∃ p, p = wr.heap.size := ⟨_, rfl⟩
            rw [← hpx] at k3 ⊢
            have x0 := blk_cell k3 0
            have x1 := blk_cell k3 1
            simp at x0 x1
            have H3 := Lib.hid (And.intro (HI.out.grew b3) k3)
            have HP := Lib.hid (And.intro b3 (show wr.heap.size ≤ px by omega))
            clear b3 k3 s3 hpx hW3 d0 d1
            by_cases hok : okSp l[j]
            · obtain ⟨q, hq⟩ : ∃ q, q = j % 3 := ⟨_, rfl⟩
              have hq1 : (j : Int) % 3 = (q : Int) := by omega
              have hq2 : (j : Int).tmod 3 = (q : Int) := by rw [Int.tmod_eq_emod_of_nonneg (by omega)]; exact hq1
              have g1 : ¬ (fb : Int) < fa := by have := hok.1; have := HX.out.2.1; have := HX.out.2.2; omega
              have g2 : ¬ (1099511627776 : Int) ≤ fb := by have := hok.2; have := HX.out.2.2; omega
              have g3 : (fb : Int) < 1099511627776 := by omega
              have hl60 : l.length ≤ 60 := by have := HS.out; have := HL.out.1; omega
              have HQ := Lib.hid (And.intro hq (And.intro hok hl60))
              clear hok hl60 hq
              by_cases hcut : j < L2
              · have hci : (j : Int) < L2 := by omega
                have hj2 : j < cs.length := by have := HL.out.2.2.2.1; omega
                obtain ⟨cb, co, e2, l2, f2⟩ := HL.out.2.2.2.2.1 (by rintro rfl; simp at hj2)
                subst e2
                have hxc := f2 j hj2
                obtain ⟨x, hx⟩ : ∃ x, x = cs[j] := ⟨_, rfl⟩
                rw [← hx] at hxc
                have hb := H3.out.1.below
                have hxc3 : W3.cell? ⟨cb, co + j, none⟩ = some (.int .u64 (x : Int)) := (hb.cell (p := ⟨cb, _, none⟩) l2).trans hxc
                have hcl3 : cb < W3.heap.size := Nat.lt_of_lt_of_le l2 hb.size
                have hxl : x < 18446744073709551616 := by rw [hx]; exact HL.out.2.2.2.2.2 _ (List.getElem_mem hj2)
                have HC := Lib.hid (And.intro hxc3 (And.intro hcl3 hxl))
                clear hxc hx hxc3 hcl3 hxl f2 l2 hb hj2
                go_upto_region 20 with (fail)
                refine vorder_at cb co L2 c2 j px fa fb x _ W3 _ rfl rfl rfl rfl H3.out.2 (by omega) (by omega) hcut HC.out.2.1 HC.out.1 HC.out.2.2 ?_
                intro W4 b4
                obtain ⟨m, hm⟩ : ∃ m, m = fa + x % (fb - fa + 1) := ⟨_, rfl⟩
                rw [← hm]
                have hm1 : fa ≤ m := by omega
                have hm2 : m ≤ fb := by
                  have := Nat.mod_lt x (show 0 < fb - fa + 1 by omega)
                  omega
                have hmi : (m : Int) < 1099511627776 := by omega
                have k4 := (Below.block b4 px (Array.getElem?_eq_some_iff.1 H3.out.2).1).trans H3.out.2
                clear x0 x1
                have x0 := blk_cell k4 0
                have x1 := blk_cell k4 1
                simp at x0 x1
                have H4 := Lib.hid (And.intro (H3.out.1.grew b4) k4)
                have HP4 := Lib.hid (And.intro (HP.out.1.trans (Below.mono b4 HP.out.1.size)) HP.out.2)
                simp only [puts, List.foldl_cons, List.foldl_nil, Act.put, List.setIfInBounds_toArray, List.set_cons_succ, List.set_cons_zero]
                clear b4 hm k4 HC H3 HP
                by_cases hmb : m = fb
                · subst hmb
                  have hni : ¬ (m : Int) < m := by omega
                  have HADD := fun V hV => (H4.out.1.grew (W' := V) hV).addB HT.out hj1 HQ.out.2.2 HQ.out.2.1
                  rw [← HX.out.2.1, ← HX.out.2.2, ← HQ.out.1] at HADD
                  have HAD := Lib.hid HADD
                  clear HADD HI
                  go_wp2_with fail
                  refine (span_any _ _ _).mono ?_
                  rintro e W5 ⟨rfl, b5⟩
                  have HA5 := Lib.hid (HAD.out W5 b5)
                  clear b5 HAD
                  go_wp2_with fail
                  refine HA5.out.mono ?_
                  rintro e W6 ⟨⟨v, rfl⟩, h6⟩
                  have H6 := Lib.hid h6
                  clear h6 HA5
                  go_wp2
                  exact ⟨⟨j, by omega, rfl, H6⟩, by simp only [intOf]; omega⟩
                · have hmlt : m < fb := by omega
                  have hmlti : (m : Int) < fb := by omega
                  obtain ⟨m1, hm1e⟩ : ∃ x, x = m + 1 := ⟨_, rfl⟩
                  have hm1i : (m : Int) + 1 = (m1 : Int) := by omega
                  have HADD := fun V hV hpx => HI.out.addX1P (W' := V) hV (q := px) HP4.out.2 hpx (m := m) HT.out hj1 HQ.out.2.2 HQ.out.2.1 (by rw [← HX.out.2.2]; exact hmlt)
                  rw [← HX.out.2.2, ← HQ.out.1, ← hm1e] at HADD
                  have HAD := Lib.hid HADD
                  have HM := Lib.hid (And.intro hm1 hmlt)
                  clear HADD hm1e hmb HI
                  go_wp2_with fail
                  refine (span_any _ _ _).mono ?_
                  rintro e W5 ⟨rfl, b5⟩
                  have k5 := (Below.block b5 px (Array.getElem?_eq_some_iff.1 H4.out.2).1).trans H4.out.2
                  have HA5 := Lib.hid (HAD.out W5 (HP4.out.1.trans (Below.mono b5 HP4.out.1.size)) (Array.getElem?_eq_some_iff.1 k5).1)
                  have K5 := Lib.hid k5
                  clear b5 k5 HAD x0 x1
                  go_wp2_with fail
                  refine HA5.out.mono ?_
                  rintro e W6 ⟨⟨v, rfl⟩, h6, hk6⟩
                  have k6 := hk6.trans K5.out
                  have x0 := blk_cell k6 0
                  have x1 := blk_cell k6 1
                  simp at x0 x1
                  have H6 := Lib.hid h6
                  have HADD := fun V hV => (H6.out.grew (W' := V) hV).add HT.out hj1 HQ.out.2.2 HQ.out.2.1 (by rw [← HX.out.2.1]; exact HM.out.1) (by rw [← HX.out.2.2]; exact HM.out.2)
                  rw [← HX.out.2.1, ← HQ.out.1] at HADD
                  have HAD := Lib.hid HADD
                  clear HADD h6 hk6 k6 HA5 K5
                  go_wp2_with fail
                  refine (span_any _ _ _).mono ?_
                  rintro e W7 ⟨rfl, b7⟩
                  have HA7 := Lib.hid (HAD.out W7 b7)
                  clear b7 HAD
                  go_wp2_with fail
                  refine HA7.out.mono ?_
                  rintro e W8 ⟨⟨v2, rfl⟩, h8⟩
                  have H8 := Lib.hid h8
                  clear h8 HA7
                  go_wp2
                  exact ⟨⟨j, by omega, rfl, H8⟩, by simp only [intOf]; omega⟩
              · have hci : ¬ (j : Int) < L2 := by omega
                clear hcut
                have hni : ¬ (fb : Int) < fb := by omega
                have HADD := fun V hV => (H3.out.1.grew (W' := V) hV).addB HT.out hj1 HQ.out.2.2 HQ.out.2.1
                rw [← HX.out.2.1, ← HX.out.2.2, ← HQ.out.1] at HADD
                have HAD := Lib.hid HADD
                clear HADD HI
                go_wp2_with fail
                refine (span_any _ _ _).mono ?_
                rintro e W5 ⟨rfl, b5⟩
                have HA5 := Lib.hid (HAD.out W5 b5)
                clear b5 HAD
                go_wp2_with fail
                refine HA5.out.mono ?_
                rintro e W6 ⟨⟨v, rfl⟩, h6⟩
                have H6 := Lib.hid h6
                clear h6 HA5
                go_wp2
                exact ⟨⟨j, by omega, rfl, H6⟩, by simp only [intOf]; omega⟩
            · have H4 := Lib.hid (H3.out.1.noB hj1 hok)
              by_cases g1 : fb < fa
              · have g1i : (fb : Int) < fa := by omega
                clear hok g1 HI
                go_wp2
                exact ⟨⟨j, by omega, rfl, H4⟩, by simp only [intOf]; omega⟩
              · have g1i : ¬ (fb : Int) < fa := by omega
                have g2i : (1099511627776 : Int) ≤ fb := by
                  refine Int.not_lt.1 fun h => hok ⟨?_, ?_⟩
                  · rw [← HX.out.2.1, ← HX.out.2.2]; omega
                  · rw [← HX.out.2.2]; omega
                clear hok g1 HI
                go_wp2
                exact ⟨⟨j, by omega, rfl, H4⟩, by simp only [intOf]; omega⟩
end Go.Proofs.Ytnpkaljmncehhaa
