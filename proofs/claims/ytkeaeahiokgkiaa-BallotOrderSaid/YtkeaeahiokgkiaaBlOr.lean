/- BallotOrder's walk. -/
import Derived.Test.YtkeaeahiokgkiaaBlCa
import Derived.Deep.DeepCutAuto
import Derived.Deep.CutBlock
namespace Go.Proofs.Ytkeaeahiokgkiaa
open Go.RowKit

/-- What the rounds of BallotOrder keep. -/
structure OrI (w : World) (pm : Nat) (m : BA) (W : World) : Prop where
  below : Below w.heap.size w W
  km : W.heap[pm]? = some (.cells #[.int .u64 (m.n : Int), .int .i64 m.r] 25 (0, 0))
theorem OrI.grew {w W W' : World} {pm : Nat} {m : BA} (h : OrI w pm m W) (hb : Below W.heap.size W W') : OrI w pm m W' :=
  ⟨h.below.trans (Below.mono hb h.below.size), (hb.block pm (Array.getElem?_eq_some_iff.1 h.km).1).trans h.km⟩
set_option maxRecDepth 100000 in
set_option maxHeartbeats 8000000 in
theorem BallotOrder_any (a b c : BA) (A : Option Addr) (L cp : Nat) (l : List BA) (w : World) (hL : L = l.length) (hLm : L ≤ 140737488351232) (hA : HasBA w A l) (ha : a.ok) (hb : b.ok) (hc : c.ok) :
    Calls Try.prog 5 #[.agg #[.int .u64 (a.n : Int), .int .i64 a.r], .agg #[.int .u64 (b.n : Int), .int .i64 b.r], .agg #[.int .u64 (c.n : Int), .int .i64 c.r], .slice A L cp] w fun e W' => e = .returned (.bool true) ∧ Below w.heap.size w W' := by
  have HL := Lib.hid (And.intro hL (And.intro hA (And.intro ha (And.intro hb hc))))
  have hLi : (L : Int) ≤ 140737488351232 := by omega
  have wk : ∀ W, Below w.heap.size w W → Calls Try.prog 8 #[] W fun e W' => e = .returned (.bool true) ∧ Below w.heap.size w W' := fun W hb => (wakes14_any W).mono fun e W' ⟨h1, h2⟩ => ⟨h1, hb.trans (Below.mono h2 hb.size)⟩
  have HWK := Lib.hid wk
  clear hL hLm hA ha hb hc wk
  go_enter Try.func5, Try.ntmps5
  go_upto_region 1 with (fail)
  obtain ⟨W0, hW0⟩ : ∃ W0, W0 = w.alloc (.cells #[.int .u64 (a.n : Int), .int .i64 a.r] 25) := ⟨_, rfl⟩
  rw [← hW0]
  obtain ⟨W1, hW1⟩ : ∃ W1, W1 = W0.alloc (.cells #[.int .u64 (b.n : Int), .int .i64 b.r] 25) := ⟨_, rfl⟩
  rw [← hW1]
  obtain ⟨W2, hW2⟩ : ∃ V, V = W1.alloc (.cells #[.int .u64 (c.n : Int), .int .i64 c.r] 25) := ⟨_, rfl⟩
  rw [← hW2]
  obtain ⟨b0, k0, s0⟩ := boxBA hW0
  obtain ⟨b1, k1, s1⟩ := boxBA hW1
  obtain ⟨b2, k2, s2⟩ := boxBA hW2
  have k0' := (b2.block _ (by omega)).trans ((b1.block _ (by omega)).trans k0)
  have k1' := (b2.block _ (by omega)).trans k1
  obtain ⟨pa, hpa⟩ : ∃ p, p = w.heap.size := ⟨_, rfl⟩
  rw [s0] at k1'
  rw [s1, s0] at k2
  rw [← hpa] at k0' k1' k2 ⊢
  obtain ⟨pb, hpb⟩ : ∃ p, p = pa + 1 := ⟨_, rfl⟩
  rw [← hpb] at k1' k2 ⊢
  obtain ⟨pc, hpc⟩ : ∃ p, p = pb + 1 := ⟨_, rfl⟩
  rw [← hpc] at k2 ⊢
  have hbb := (b0.trans (Below.mono b1 b0.size)).trans (Below.mono b2 (b0.trans (Below.mono b1 b0.size)).size)
  have H2 := Lib.hid (And.intro hbb (And.intro k0' (And.intro k1' k2)))
  clear b0 b1 b2 k0 k1 k0' k1' k2 s0 s1 s2 hW0 hW1 hW2 hpa hpb hpc hbb
  by_cases hbig : 100 < L
  · have hbi : (100 : Int) < L := by omega
    clear hbig
    go_wp2_with fail
    refine (HWK.out _ H2.out.1).mono ?_
    rintro e W3 ⟨rfl, b3⟩
    have H3 := Lib.hid b3
    clear b3
    go_wp2
    go_ret
    exact ⟨rfl, H3.out⟩
  · have hbi : ¬ (100 : Int) < L := by omega
    have HS := Lib.hid (show L ≤ 100 by omega)
    clear hbig
    go_upto_region 3 with (fail)
    refine order_two pa pb a b _ W2 _ rfl rfl rfl H2.out.2.1 H2.out.2.2.1 HL.out.2.2.1 HL.out.2.2.2.1 ?_
    intro W3 b3
    have hb3 : Below W2.heap.size W2 W3 := b3
    have ka := (hb3.block pa (Array.getElem?_eq_some_iff.1 H2.out.2.1).1).trans H2.out.2.1
    have kb := (hb3.block pb (Array.getElem?_eq_some_iff.1 H2.out.2.2.1).1).trans H2.out.2.2.1
    have kc := (hb3.block pc (Array.getElem?_eq_some_iff.1 H2.out.2.2.2).1).trans H2.out.2.2.2
    have z0 := blk_cell ka 0
    have z1 := blk_cell ka 1
    have y0 := blk_cell kb 0
    have y1 := blk_cell kb 1
    have x0 := blk_cell kc 0
    have x1 := blk_cell kc 1
    simp at z0 z1 y0 y1 x0 x1
    have H3 := Lib.hid (And.intro (H2.out.1.trans (Below.mono hb3 H2.out.1.size)) (And.intro ka (And.intro kb kc)))
    simp only [puts, List.foldl_cons, List.foldl_nil, Act.put, List.setIfInBounds_toArray, List.set_cons_succ, List.set_cons_zero]
    clear b3 hb3 ka kb kc H2
    obtain ⟨s1, hs1⟩ : ∃ t, t = decide (ltB a b) := ⟨_, rfl⟩
    obtain ⟨s2, hs2⟩ : ∃ t, t = decide (ltB b a) := ⟨_, rfl⟩
    rw [← hs1, ← hs2]
    have HS1 := Lib.hid hs1
    have HS2 := Lib.hid hs2
    clear hs1 hs2
    go_upto_region 4 with (fail)
    go_cut [51] (fun s wx => s = .bool false ∧ Hid (Below w.heap.size w wx))
    case first =>
      by_cases h1 : ltB a b
      · have h2 : ¬ ltB b a := ltB_asymm h1
        have hne : ¬ a = b := fun e => ltB_irr b (e ▸ h1)
        have hab : ∀ W, (binOp .eql 25 (.agg #[.int .u64 (a.n : Int), .int .i64 a.r]) (.agg #[.int .u64 (b.n : Int), .int .i64 b.r])).run Try.prog W = .ok (.bool false) W := fun W => (eqBA W a b).trans (by simp only [hne, decide_false])
        obtain rfl : s1 = true := by rw [HS1.out]; simpa using h1
        obtain rfl : s2 = false := by rw [HS2.out]; simpa using h2
        have HBC := less_any b c HL.out.2.2.2.1 HL.out.2.2.2.2 W3
        by_cases h3 : ltB b c
        · have h4 : ltB a c := ltB_trans h1 h3
          rw [show decide (ltB b c) = true by simpa using h3] at HBC
          have HAC := fun W => less_any a c HL.out.2.2.1 HL.out.2.2.2.2 W
          rw [show decide (ltB a c) = true by simpa using h4] at HAC
          have HB1 := Lib.hid HBC
          have HA1 := Lib.hid HAC
          clear HBC HAC h1 h2 h3 h4 hne
          go_wp2_with fail
          refine HB1.out.mono ?_
          rintro e W4 ⟨rfl, b4⟩
          have ka := (b4.block pa (Array.getElem?_eq_some_iff.1 H3.out.2.1).1).trans H3.out.2.1
          have kc := (b4.block pc (Array.getElem?_eq_some_iff.1 H3.out.2.2.2).1).trans H3.out.2.2.2
          clear z0 z1 y0 y1 x0 x1
          have z0 := blk_cell ka 0
          have z1 := blk_cell ka 1
          have x0 := blk_cell kc 0
          have x1 := blk_cell kc 1
          simp at z0 z1 x0 x1
          have H4 := Lib.hid (H3.out.1.trans (Below.mono b4 H3.out.1.size))
          clear b4 ka kc
          go_wp2_with fail
          refine (HA1.out _).mono ?_
          rintro e W5 ⟨rfl, b5⟩
          have H5 := Lib.hid (H4.out.trans (Below.mono b5 H4.out.size))
          clear b5 z0 z1 x0 x1 HA1 HB1 hab
          go_wp2
          go_meet
          exact ⟨rfl, H5⟩
        · rw [show decide (ltB b c) = false by simpa using h3] at HBC
          have HB1 := Lib.hid HBC
          clear HBC h1 h2 h3 hne
          go_wp2_with fail
          refine HB1.out.mono ?_
          rintro e W4 ⟨rfl, b4⟩
          have H5 := Lib.hid (H3.out.1.trans (Below.mono b4 H3.out.1.size))
          clear b4 z0 z1 x0 x1 y0 y1 HB1 hab
          go_wp2
          go_meet
          exact ⟨rfl, H5⟩
      · obtain rfl : s1 = false := by rw [HS1.out]; simpa using h1
        have H5 := Lib.hid H3.out.1
        by_cases h2 : ltB b a
        · have hne : ¬ a = b := fun e => ltB_irr b (e ▸ h2)
          have hab : ∀ W, (binOp .eql 25 (.agg #[.int .u64 (a.n : Int), .int .i64 a.r]) (.agg #[.int .u64 (b.n : Int), .int .i64 b.r])).run Try.prog W = .ok (.bool false) W := fun W => (eqBA W a b).trans (by simp only [hne, decide_false])
          obtain rfl : s2 = true := by rw [HS2.out]; simpa using h2
          clear h1 h2 hne
          go_wp2
          go_meet
          exact ⟨rfl, H5⟩
        · have hab : ∀ W, (binOp .eql 25 (.agg #[.int .u64 (a.n : Int), .int .i64 a.r]) (.agg #[.int .u64 (b.n : Int), .int .i64 b.r])).run Try.prog W = .ok (.bool true) W := fun W => (eqBA W a b).trans (by simp only [ltB_tri a b h1 h2, decide_true])
          obtain rfl : s2 = false := by rw [HS2.out]; simpa using h2
          clear h1 h2
          go_wp2
          go_meet
          exact ⟨rfl, H5⟩
    obtain ⟨rfl, HC⟩ := hcut
    have HM := Lib.hid (max_any A L cp l wc HL.out.1 (by have := HS.out; omega) (HL.out.2.1.below HC.out))
    obtain ⟨m, hm⟩ : ∃ m, m = maxB l := ⟨_, rfl⟩
    rw [← hm] at HM
    have HMM := Lib.hid hm
    clear hm z0 z1 y0 y1 x0 x1 H3
    apply_assumption
    go_wp2_with fail
    refine HM.out.mono ?_
    rintro e W6 ⟨rfl, b6⟩
    go_upto_region 7 with (fail)
    obtain ⟨W7, hW7⟩ : ∃ W, W = W6.alloc (.cells #[.int .u64 (m.n : Int), .int .i64 m.r] 25) := ⟨_, rfl⟩
    rw [← hW7]
    have hb6 := HC.out.trans (Below.mono b6 HC.out.size)
    obtain ⟨hb7, km, _⟩ := alloc2 hb6 hW7
    obtain ⟨pm, hpm⟩ : ∃ p, p = W6.heap.size := ⟨_, rfl⟩
    rw [← hpm] at km ⊢
    have H7 : Hid (OrI w pm m W7) := Lib.hid ⟨hb7, km⟩
    have x0 := blk_cell km 0
    have x1 := blk_cell km 1
    simp at x0 x1
    clear b6 hb6 hb7 km hpm hW7 HM HC
    go_cut [12] (fun s wx => W7 = wx ∧ ∃ t : Bool, s = .bool t ∧ Hid (t = true ↔ L = 0))
    case first =>
      by_cases h0 : L = 0
      · have hm0 : m = B0 := by
          rw [HMM.out]
          have : l = [] := List.eq_nil_of_length_eq_zero (by have := HL.out.1; omega)
          rw [this]; rfl
        have hl0 : (L : Int) = 0 := by omega
        have hq : ∀ W, (binOp .eql 25 (.agg #[.int .u64 0, .int .i64 0]) (.agg #[.int .u64 0, .int .i64 0])).run Try.prog W = .ok (.bool true) W := fun W => eqL W 0 0
        have y0 : W7.cell? ⟨pm, 0, none⟩ = some (.int .u64 0) := x0.trans (by rw [hm0]; rfl)
        have y1 : W7.cell? ⟨pm, 1, none⟩ = some (.int .i64 0) := x1.trans (by rw [hm0]; rfl)
        clear x0 x1 hm0
        go_wp2
        go_meet
        exact ⟨rfl, true, rfl, Lib.hid ⟨fun _ => h0, fun _ => rfl⟩⟩
      · have hl0 : ¬ (L : Int) = 0 := by omega
        go_wp2
        go_meet
        exact ⟨rfl, false, rfl, Lib.hid ⟨(fun h => by cases h), fun h => absurd h h0⟩⟩
    obtain ⟨rfl, t, rfl, HT⟩ := hcut
    clear x0 x1
    apply_assumption
    go_wp2
    go_loopw [12, 13] (fun v12 v13 wr => ∃ (t : Bool) (i : Nat), i ≤ L ∧ v12 = .bool t ∧ v13 = .int .i64 (i : Int) ∧ Hid (t = true ↔ (L = 0 ∨ ∃ (x : Nat) (h : x < l.length), x < i ∧ l[x] = m)) ∧ Hid (OrI w pm m wr)) (fun _ i _ => L - (intOf i).toNat)
    case atStart => exact ⟨t, 0, Nat.zero_le _, rfl, rfl, Lib.hid ⟨fun h => .inl (HT.out.1 h), fun h => by
      rcases h with h | ⟨x, _, h, _⟩
      · exact HT.out.2 h
      · omega⟩, H7⟩
    case round =>
      obtain ⟨t, i, hi, rfl, rfl, HT, HI⟩ := hrel
      by_cases hlt : i < L
      · have hii : (i : Int) < L := by omega
        have hi1 : i < l.length := by have := HL.out.1; omega
        obtain ⟨bb, o, e1, l1, f1⟩ := HL.out.2.1 (by rintro rfl; simp at hi1)
        subst e1
        obtain ⟨hok, a0, a1⟩ := f1 i hi1
        obtain ⟨x, hx⟩ : ∃ x, x = l[i] := ⟨_, rfl⟩
        rw [← hx] at hok a0 a1
        have hb := HI.out.below
        have d0 : wr.cell? ⟨bb, o + i * 2, none⟩ = some (.int .u64 (x.n : Int)) := (hb.cell (p := ⟨bb, _, none⟩) l1).trans a0
        have d1 : wr.cell? ⟨bb, o + i * 2 + 1, none⟩ = some (.int .i64 x.r) := (hb.cell (p := ⟨bb, _, none⟩) l1).trans a1
        have hbl : bb < wr.heap.size := Nat.lt_of_lt_of_le l1 hb.size
        have HD := Lib.hid (And.intro d0 (And.intro d1 (And.intro hbl (And.intro hok hx))))
        clear hok a0 a1 hb d0 d1 hbl f1 hx l1
        go_upto_region 11 with (fail)
        go_cut [12] (fun s wx => Below wr.heap.size wr wx ∧ ∃ t : Bool, s = .bool t ∧ Hid (t = true ↔ (L = 0 ∨ ∃ (x : Nat) (h : x < l.length), x < i + 1 ∧ l[x] = m)))
        case first =>
          cases t with
          | true =>
            have HTX := Lib.hid (HT.out.1 rfl)
            refine order_thereT _ L cp pm i _ wr _ rfl rfl rfl rfl rfl ?_
            intro W8 b8
            simp only [puts, List.foldl_cons, List.foldl_nil, Act.put, List.setIfInBounds_toArray, List.set_cons_succ, List.set_cons_zero]
            go_wp2
            go_meet
            refine ⟨b8, true, rfl, Lib.hid ⟨fun _ => ?_, fun _ => rfl⟩⟩
            rcases HTX.out with h | ⟨z, hz, h1, h2⟩
            · exact .inl h
            · exact .inr ⟨z, hz, by omega, h2⟩
          | false =>
            refine order_thereF bb o L cp pm i x m _ wr _ rfl rfl rfl rfl rfl HD.out.2.2.1 hlt HD.out.1 HD.out.2.1 HI.out.km ?_
            intro W8 b8
            simp only [puts, List.foldl_cons, List.foldl_nil, Act.put, List.setIfInBounds_toArray, List.set_cons_succ, List.set_cons_zero]
            go_wp2
            go_meet
            refine ⟨b8, decide (x = m), rfl, Lib.hid ⟨fun h => .inr ⟨i, hi1, by omega, by rw [← HD.out.2.2.2.2]; simpa using h⟩, fun h => ?_⟩⟩
            rcases h with h | ⟨z, hz, h1, h2⟩
            · exact absurd (HT.out.2 (.inl h)) (by decide)
            · by_cases hzi : z = i
              · subst hzi
                rw [← HD.out.2.2.2.2] at h2
                simpa using h2
              · exact absurd (HT.out.2 (.inr ⟨z, hz, by omega, h2⟩)) (by decide)
        obtain ⟨b8, t2, rfl, HT2⟩ := hcut
        have H8 := Lib.hid (HI.out.grew b8)
        have d0 : wc.cell? ⟨bb, o + i * 2, none⟩ = some (.int .u64 (x.n : Int)) := (b8.cell (p := ⟨bb, _, none⟩) HD.out.2.2.1).trans HD.out.1
        have d1 : wc.cell? ⟨bb, o + i * 2 + 1, none⟩ = some (.int .i64 x.r) := (b8.cell (p := ⟨bb, _, none⟩) HD.out.2.2.1).trans HD.out.2.1
        have hbl : bb < wc.heap.size := Nat.lt_of_lt_of_le HD.out.2.2.1 b8.size
        have HD8 := Lib.hid (And.intro d0 (And.intro d1 (And.intro hbl (And.intro HD.out.2.2.2.1 HD.out.2.2.2.2))))
        clear b8 d0 d1 hbl HT HD HI
        apply_assumption
        go_upto_region 12 with (fail)
        refine order_above bb o L cp pm i x m _ wc _ rfl rfl rfl rfl HD8.out.2.2.1 hlt HD8.out.1 HD8.out.2.1 H8.out.km (by rw [HMM.out]; exact maxB_ok HL.out.2.1.okAll) HD8.out.2.2.2.1 ?_
        intro W9 b9
        have H9 := Lib.hid (H8.out.grew b9)
        have hnl : decide (ltB m x) = false := by
          rw [HD8.out.2.2.2.2, HMM.out]
          simpa using maxB_top (List.getElem_mem hi1)
        rw [hnl]
        simp only [puts, List.foldl_cons, List.foldl_nil, Act.put, List.setIfInBounds_toArray, List.set_cons_succ, List.set_cons_zero]
        clear b9 hnl HD8 H8
        go_wp2
        exact ⟨⟨t2, i + 1, by omega, rfl, by congr 1, HT2, H9⟩, by simp only [intOf]; omega⟩
      · have hii : ¬ (i : Int) < L := by omega
        have ht : t = true := HT.out.2 (by
          by_cases h0 : L = 0
          · exact .inl h0
          · have hl : l ≠ [] := by rintro rfl; exact h0 (by have := HL.out.1; simpa using this)
            obtain ⟨z, hz, h2⟩ := List.getElem_of_mem (maxB_mem hl)
            exact .inr ⟨z, hz, by have := HL.out.1; omega, by rw [HMM.out]; exact h2⟩)
        subst ht
        have H8 := Lib.hid HI.out.below
        clear HI HT
        go_wp2_with fail
        refine (HWK.out _ H8.out).mono ?_
        rintro e W9 ⟨rfl, b9⟩
        have H9 := Lib.hid b9
        clear b9
        go_wp2
        go_ret
        exact ⟨rfl, H9.out⟩
end Go.Proofs.Ytkeaeahiokgkiaa
