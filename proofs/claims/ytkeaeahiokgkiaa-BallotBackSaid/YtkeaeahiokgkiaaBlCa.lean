/- BallotCalls' walk. -/
import Derived.Test.YtkeaeahiokgkiaaBlLaR
namespace Go.Proofs.Ytkeaeahiokgkiaa
open Go.RowKit

theorem alloc2 {w W W' : World} {x y : Int} (hb : Below w.heap.size w W) (h : W' = W.alloc (.cells #[.int .u64 x, .int .i64 y] 25)) : Below w.heap.size w W' ∧ W'.heap[W.heap.size]? = some (.cells #[.int .u64 x, .int .i64 y] 25 (0, 0)) ∧ Below W.heap.size W W' := by
  obtain ⟨b, k, _⟩ := boxBA h
  exact ⟨hb.trans (Below.mono b hb.size), k, b⟩
set_option maxRecDepth 100000 in
set_option maxHeartbeats 4000000 in
theorem BallotCalls_any (A : Option Addr) (L c : Nat) (l : List BA) (a b : BA) (r : Int) (A2 : Option Addr) (L2 c2 : Nat) (bs : List UInt8) (w : World) (hL : L = l.length) (hLm : L ≤ 140737488351232) (hA : HasBA w A l) (ha : a.ok) (hb : b.ok) (hL2 : L2 = bs.length) (hL2m : L2 ≤ 9223372036854775807) (hA2 : HasA w w.heap.size A2 bs) :
    Calls Try.prog 3 #[.slice A L c, .agg #[.int .u64 (a.n : Int), .int .i64 a.r], .agg #[.int .u64 (b.n : Int), .int .i64 b.r], .int .i64 r, .slice A2 L2 c2] w fun e W' => e = .returned (.bool true) ∧ Below w.heap.size w W' := by
  have HL := Lib.hid (And.intro hL (And.intro hA (And.intro ha (And.intro hb (And.intro hL2 hA2)))))
  have hLi : (L : Int) ≤ 140737488351232 := by omega
  have hLi2 : (L2 : Int) ≤ 9223372036854775807 := by omega
  clear hL hLm hA ha hb hL2 hL2m hA2
  go_enter Try.func3, Try.ntmps3
  go_upto_region 1 with (fail)
  obtain ⟨W0, hW0⟩ : ∃ W0, W0 = w.alloc (.cells #[.int .u64 (a.n : Int), .int .i64 a.r] 25) := ⟨_, rfl⟩
  rw [← hW0]
  obtain ⟨W1, hW1⟩ : ∃ W1, W1 = W0.alloc (.cells #[.int .u64 (b.n : Int), .int .i64 b.r] 25) := ⟨_, rfl⟩
  rw [← hW1]
  obtain ⟨b0, k0, s0⟩ := boxBA hW0
  obtain ⟨b1, k1, s1⟩ := boxBA hW1
  have k0' := (b1.block _ (by omega)).trans k0
  rw [s0] at k1
  obtain ⟨pa, hpa⟩ : ∃ p, p = w.heap.size := ⟨_, rfl⟩
  rw [← hpa] at k0' k1 ⊢
  obtain ⟨pb, hpb⟩ : ∃ p, p = pa + 1 := ⟨_, rfl⟩
  rw [← hpb] at k1 ⊢
  have H1 := Lib.hid (And.intro (b0.trans (Below.mono b1 b0.size)) (And.intro k0' k1))
  have z0 := blk_cell k0' 0
  have z1 := blk_cell k0' 1
  simp at z0 z1
  clear b0 b1 k0 k0' k1 s0 s1 hW0 hW1 hpa hpb
  by_cases hbig : 100 < L
  · have hbi : (100 : Int) < L := by omega
    clear hbig
    go_wp2_with fail
    refine (wakes14_any _).mono ?_
    rintro e W2 ⟨rfl, b2⟩
    have H2 := Lib.hid (H1.out.1.trans (Below.mono b2 H1.out.1.size))
    clear b2
    go_wp2
    go_ret
    exact ⟨rfl, H2.out⟩
  · have hbi : ¬ (100 : Int) < L := by omega
    by_cases hbig2 : 1000 < L2
    · have hbi2 : (1000 : Int) < L2 := by omega
      clear hbig hbig2
      go_wp2_with fail
      refine (wakes14_any _).mono ?_
      rintro e W2 ⟨rfl, b2⟩
      have H2 := Lib.hid (H1.out.1.trans (Below.mono b2 H1.out.1.size))
      clear b2
      go_wp2
      go_ret
      exact ⟨rfl, H2.out⟩
    · have hbi2 : ¬ (1000 : Int) < L2 := by omega
      have HS := Lib.hid (And.intro (show L ≤ 100 by omega) (show L2 ≤ 1000 by omega))
      clear hbig hbig2
      have HN1 := next_any a r HL.out.2.2.1 W1
      have HN2 := fun W => Lib.hid (refNext_any a r HL.out.2.2.1 W)
      obtain ⟨x, hx⟩ : ∃ x, x = (nextB a r).1 := ⟨_, rfl⟩
      obtain ⟨er, her⟩ : ∃ x, x = (nextB a r).2 := ⟨_, rfl⟩
      rw [← hx, ← her] at HN1 HN2
      have HN1 := Lib.hid HN1
      clear hx her
      go_wp2_with fail
      refine HN1.out.mono ?_
      rintro e W2 ⟨rfl, b2⟩
      go_upto_region 4 with (fail)
      obtain ⟨W3, hW3⟩ : ∃ W, W = W2.alloc (.cells #[.int .u64 (x.n : Int), .int .i64 x.r] 25) := ⟨_, rfl⟩
      rw [← hW3]
      have hb2 := H1.out.1.trans (Below.mono b2 H1.out.1.size)
      obtain ⟨hb3, kx, b3⟩ := alloc2 hb2 hW3
      obtain ⟨px, hpx⟩ : ∃ p, p = W2.heap.size := ⟨_, rfl⟩
      rw [← hpx] at kx ⊢
      have b13 := Below.trans b2 (Below.mono b3 b2.size)
      have ka := (b13.block pa (Array.getElem?_eq_some_iff.1 H1.out.2.1).1).trans H1.out.2.1
      have kb := (b13.block pb (Array.getElem?_eq_some_iff.1 H1.out.2.2).1).trans H1.out.2.2
      clear z0 z1
      have z0 := blk_cell ka 0
      have z1 := blk_cell ka 1
      simp at z0 z1
      have H3 := Lib.hid (And.intro hb3 (And.intro ka (And.intro kb kx)))
      clear b2 hW3 hb2 hb3 kx b3 hpx b13 ka kb HN1
      go_wp2_with fail
      refine (HN2 _).out.mono ?_
      rintro e W4 ⟨rfl, b4⟩
      go_upto_region 5 with (fail)
      obtain ⟨W5, hW5⟩ : ∃ W, W = W4.alloc (.cells #[.int .u64 (x.n : Int), .int .i64 x.r] 25) := ⟨_, rfl⟩
      rw [← hW5]
      have hb4 := H3.out.1.trans (Below.mono b4 H3.out.1.size)
      obtain ⟨hb5, ky, b5⟩ := alloc2 hb4 hW5
      obtain ⟨py, hpy⟩ : ∃ p, p = W4.heap.size := ⟨_, rfl⟩
      rw [← hpy] at ky ⊢
      have b35 := Below.trans b4 (Below.mono b5 b4.size)
      have ka := (b35.block pa (Array.getElem?_eq_some_iff.1 H3.out.2.1).1).trans H3.out.2.1
      have kb := (b35.block pb (Array.getElem?_eq_some_iff.1 H3.out.2.2.1).1).trans H3.out.2.2.1
      have kx := (b35.block px (Array.getElem?_eq_some_iff.1 H3.out.2.2.2).1).trans H3.out.2.2.2
      have H5 := Lib.hid (And.intro hb5 kb)
      refine calls_cmp A L c pa pb px py a b x l er _ W5 _ rfl rfl rfl rfl rfl rfl rfl rfl ka kb kx ky HL.out.2.2.1 HL.out.2.2.2.1 HL.out.1 (by have := HS.out.1; omega) (HL.out.2.1.below hb5) ?_
      intro W6 b6
      have hb6 := H5.out.1.trans (Below.mono b6 H5.out.1.size)
      have kb6 := (Below.block b6 pb (Array.getElem?_eq_some_iff.1 H5.out.2).1).trans H5.out.2
      have H6 := Lib.hid (And.intro hb6 kb6)
      simp only [puts, List.foldl_cons, List.foldl_nil, Act.put, List.setIfInBounds_toArray, List.set_cons_succ, List.set_cons_zero]
      clear z0 z1 b4 hW5 hb4 hb5 ky b5 hpy b35 ka kb kx b6 hb6 kb6 H5 H3 HN2
      go_upto_region 7 with (fail)
      have wk : ∀ W, Below W6.heap.size W6 W → Calls Try.prog 8 #[] W fun e W' => e = .returned (.bool true) ∧ Below w.heap.size w W' := fun W hb => (wakes14_any W).mono fun e W' ⟨h1, h2⟩ => by
        have h3 := H6.out.1.trans (Below.mono hb H6.out.1.size)
        exact ⟨h1, h3.trans (Below.mono h2 h3.size)⟩
      have HWK := Lib.hid wk
      clear wk
      by_cases g0 : 0 ≤ b.r
      · by_cases g7 : b.r < 7
        · refine calls_putC A2 L2 c2 pb b bs _ W6 _ rfl rfl rfl H6.out.2 g0 g7 HL.out.2.2.2.1 HL.out.2.2.2.2.1 (by have := HS.out.2; have := HL.out.2.2.2.2.1; omega) (HL.out.2.2.2.2.2.below' H6.out.1) ?_
          intro v71 v76 W7 _ _ b7
          have H7 := Lib.hid b7
          simp only [puts, List.foldl_cons, List.foldl_nil, Act.put, List.setIfInBounds_toArray, List.set_cons_succ, List.set_cons_zero]
          clear b7 g0 g7
          go_wp2_with fail
          refine (HWK.out _ H7.out).mono ?_
          rintro e W8 ⟨rfl, b8⟩
          have H8 := Lib.hid b8
          clear b8
          go_wp2
          go_ret
          exact ⟨rfl, H8.out⟩
        · refine calls_putB A2 L2 c2 pb b _ W6 _ rfl rfl rfl H6.out.2 g0 g7 ?_
          intro W7 b7
          have H7 := Lib.hid b7
          simp only [puts, List.foldl_cons, List.foldl_nil, Act.put, List.setIfInBounds_toArray, List.set_cons_succ, List.set_cons_zero]
          clear b7 g0 g7
          go_wp2_with fail
          refine (HWK.out _ H7.out).mono ?_
          rintro e W8 ⟨rfl, b8⟩
          have H8 := Lib.hid b8
          clear b8
          go_wp2
          go_ret
          exact ⟨rfl, H8.out⟩
      · refine calls_putA A2 L2 c2 pb b _ W6 _ rfl rfl rfl H6.out.2 g0 ?_
        intro W7 b7
        have H7 := Lib.hid b7
        simp only [puts, List.foldl_cons, List.foldl_nil, Act.put, List.setIfInBounds_toArray, List.set_cons_succ, List.set_cons_zero]
        clear b7 g0
        go_wp2_with fail
        refine (HWK.out _ H7.out).mono ?_
        rintro e W8 ⟨rfl, b8⟩
        have H8 := Lib.hid b8
        clear b8
        go_wp2
        go_ret
        exact ⟨rfl, H8.out⟩
end Go.Proofs.Ytkeaeahiokgkiaa
