/- takeRows: the rows that a reader reads. -/
import Derived.Test.YtelbgjnaceffeaaSqY
namespace Go.Proofs.Ytelbgjnaceffeaa
open Go.RowKit Go.Maps

theorem RdQ.lt {w : World} {R lim : Nat} {s : RdS} (h : RdQ w R lim s) : R < w.heap.size := by
  obtain ⟨bs', h1, _⟩ := h
  exact h1.lt
theorem RdQ.sameK {T : List TypeId} {w w' : World} {R lim : Nat} {s : RdS} (h : RdQ w R lim s) (hs : SameT T w w') (h1 : 49 ∉ T) (h2 : 5 ∉ T) : RdQ w' R lim s := by
  obtain ⟨bs', ⟨A, L, c, hh, hL, hc, hm, hd⟩, k2, k3⟩ := h
  exact ⟨bs', ⟨A, L, c, hs _ _ _ h1 hh, hL, hc, hm, hs.data hd h2⟩, k2, k3⟩
theorem row_new (w : World) (e : SE) : HasW (w.alloc (Obj.cells (rowC e).toArray 55)) (some ⟨w.heap.size, 0, none⟩) [e] := fun _ => ⟨w.heap.size, 0, rfl, (Array.getElem?_eq_some_iff.1 (World.alloc_heap_new w _)).1, fun j hj => by
  obtain rfl : j = 0 := by simpa using hj
  exact ⟨blk_cell (World.alloc_heap_new w (.cells (rowC e).toArray 55)) 0, blk_cell (World.alloc_heap_new w (.cells (rowC e).toArray 55)) 1, blk_cell (World.alloc_heap_new w (.cells (rowC e).toArray 55)) 2, blk_cell (World.alloc_heap_new w (.cells (rowC e).toArray 55)) 3⟩⟩
theorem u_zero {s : RdS} (h : s.u.2.e ≠ 0) : s.u.1 = 0 := by
  by_cases h0 : s.e = 0
  · cases hr : rdU s.bs with
    | short => rw [RdS.u_short h0 hr]
    | form r => rw [RdS.u_form h0 hr]
    | ok n r => rw [RdS.u_ok h0 hr] at h; exact absurd rfl h
  · rw [RdS.u_err h0]
theorem wrap_u64n {x : Int} (h0 : 0 ≤ x) (h1 : x < 18446744073709551616) : IntKind.u64.wrap x = x := by rw [IntKind.wrap_u64]; omega
theorem u64_succ {j N : Nat} (h : j < N) (hN : N < 18446744073709551616) : IntKind.u64.wrap ((j : Int) + 1) = ((j + 1 : Nat) : Int) := by
  rw [wrap_u64n (by omega) (by omega)]
  omega
/-- What a call on the reader leaves. -/
theorem OwnW.kept {w W W' : World} {R n c : Nat} {A : Option Addr} {l : List SE} (h : OwnW w.heap.size W (.slice A n c) l) (hR : R < w.heap.size) (hg : W.grownBy W' (some R)) : OwnW w.heap.size W' (.slice A n c) l := by
  refine World.ownsRow.kept h hg ?_
  cases e : (Value.slice A n c).ownBlock with
  | none => exact .inl rfl
  | some x => exact .inr (fun e2 => by have := (World.ownsRow.lt h x e).1; have := Option.some.inj e2; omega)
set_option maxRecDepth 100000 in
set_option maxHeartbeats 8000000 in
theorem takeRows_any (lim : Nat) (hlim : lim ≤ 1000) (R : Nat) (bs : List UInt8) (w : World) (hbs : bs.length ≤ 1000000) (h : RdQ w R lim ⟨0, bs⟩) :
    Calls Try.prog 16 #[.pointer (some ⟨R, 0, none⟩)] w fun e W' => ∃ v, e = .returned v ∧ ((readS lim ⟨0, bs⟩).2.e = 0 → OwnW w.heap.size W' v (readS lim ⟨0, bs⟩).1) ∧ RdQ W' R lim (readS lim ⟨0, bs⟩).2 ∧ w.grownBy W' (some R) := by
  have hR := h.lt
  have HU := Lib.hid (UintR_q h)
  obtain ⟨N, hN⟩ : ∃ N, N = (RdS.u ⟨0, bs⟩).1 := ⟨_, rfl⟩
  obtain ⟨s1, hs1⟩ : ∃ s, s = (RdS.u ⟨0, bs⟩).2 := ⟨_, rfl⟩
  have hN64 : N < 18446744073709551616 := by rw [hN]; exact RdS.u_lt _
  have hrd : readS lim ⟨0, bs⟩ = manyR (rowR lim) N s1 := by rw [hN, hs1]; rfl
  rw [← hN, ← hs1] at HU
  rw [hrd]
  have hsb : s1.e = 0 → s1.bs.length ≤ 1000000 := fun he => by
    have he' : (uR ⟨0, bs⟩).2.e = 0 := by
      show (RdS.u ⟨0, bs⟩).2.e = 0
      rw [← hs1]
      exact he
    have hp := Puts.u ⟨0, bs⟩ he'
    have h2 := congrArg List.length hp.2
    rw [List.length_append] at h2
    have h3 : (uR ⟨0, bs⟩).2.bs = s1.bs := by rw [hs1]; rfl
    rw [h3] at h2
    have h4 : (⟨0, bs⟩ : RdS).bs.length = bs.length := rfl
    omega
  have hn0 : 0 < N → s1.e = 0 := fun hp => Decidable.byContradiction fun he => by
    have h0 := u_zero (s := ⟨0, bs⟩) (by rw [← hs1]; exact he)
    rw [← hN] at h0
    omega
  have HSB := Lib.hid (And.intro hsb (And.intro hR (And.intro hn0 hlim)))
  have HN := Lib.hid hN64
  have hNi : (N : Int) < 18446744073709551616 := by omega
  clear hN hs1 hrd hsb h hbs hR hN64 hn0 hlim
  go_enter Try.func16, Try.ntmps16
  go_wp2_with fail
  refine HU.out.mono ?_
  rintro e W1 ⟨rfl, hq1, hg1⟩
  have H1 := Lib.hid (And.intro hq1 hg1)
  clear hq1 hg1 HU
  go_wp2
  go_loopw [3, 7] (fun v i wr => ∃ (j : Nat) (A3 : Option Addr) (c3 : Nat), j ≤ N ∧ i = .int .u64 (j : Int) ∧ v = .slice A3 (manyR (rowR lim) j s1).1.length c3 ∧ Hid ((0 < N → (manyR (rowR lim) j s1).2.e = 0) ∧ OwnW w.heap.size wr v (manyR (rowR lim) j s1).1 ∧ RdQ wr R lim (manyR (rowR lim) j s1).2 ∧ w.grownBy wr (some R))) (fun _ i _ => N - (intOf i).toNat)
  case atStart => exact ⟨0, none, 0, Nat.zero_le _, rfl, rfl, Lib.hid ⟨HSB.out.2.2.1, OwnW.nil _ _, H1.out.1, H1.out.2⟩⟩
  case round =>
    obtain ⟨j, A3, c3, hj, rfl, rfl, HJ⟩ := hrel
    obtain ⟨lj, hlj⟩ : ∃ l, l = (manyR (rowR lim) j s1).1 := ⟨_, rfl⟩
    obtain ⟨sj, hsj⟩ : ∃ s, s = (manyR (rowR lim) j s1).2 := ⟨_, rfl⟩
    rw [← hlj, ← hsj] at HJ
    rw [← hlj]
    have HLS := Lib.hid (And.intro hlj hsj)
    clear hlj hsj
    by_cases hlt : j < N
    · have hji : (j : Int) < (N : Int) := by omega
      have hU1 := UintR_q HJ.out.2.2.1
      obtain ⟨cl, hcl⟩ : ∃ k, k = sj.u.1 := ⟨_, rfl⟩
      rw [← hcl] at hU1
      have HU1 := Lib.hid hU1
      have HCL := Lib.hid hcl
      clear hU1 hcl
      go_wp2_with fail
      refine HU1.out.mono ?_
      rintro e W2 ⟨rfl, hq2, hg2⟩
      have hU2 := UintR_q hq2
      obtain ⟨sq, hsq⟩ : ∃ k, k = sj.u.2.u.1 := ⟨_, rfl⟩
      rw [← hsq] at hU2
      have HU2 := Lib.hid hU2
      have HSQ := Lib.hid hsq
      have HG2 := Lib.hid hg2
      clear hU2 hsq hg2 hq2 HU1
      go_wp2_with fail
      refine HU2.out.mono ?_
      rintro e W3 ⟨rfl, hq3, hg3⟩
      have hU3 := UintR_q hq3
      obtain ⟨cd, hcd⟩ : ∃ k, k = sj.u.2.u.2.u.1 := ⟨_, rfl⟩
      rw [← hcd] at hU3
      have HU3 := Lib.hid hU3
      have HCD := Lib.hid hcd
      have HG3 := Lib.hid hg3
      clear hU3 hcd hg3 hq3 HU2
      go_wp2_with fail
      refine HU3.out.mono ?_
      rintro e W4 ⟨rfl, hq4, hg4⟩
      have hT4 := TextR_q hq4 (by have := HSB.out.2.2.2; omega)
      obtain ⟨tx, htx⟩ : ∃ k, k = str (sj.u.2.u.2.u.2.t lim).1 := ⟨_, rfl⟩
      rw [← htx] at hT4
      have HT4 := Lib.hid hT4
      have HTX := Lib.hid htx
      have HG4 := Lib.hid hg4
      clear hT4 htx hg4 hq4 HU3
      go_wp2_with fail
      refine HT4.out.mono ?_
      rintro e W5 ⟨rfl, hq5, hg5⟩
      obtain ⟨q, hq⟩ : ∃ q, q = W5.heap.size := ⟨_, rfl⟩
      obtain ⟨W6, hW6⟩ : ∃ W6, W6 = W5.alloc (Obj.cells #[.int .u64 (cl : Int), .int .u64 (sq : Int), .int .u64 (cd : Int), .string tx] 55) := ⟨_, rfl⟩
      have hB6 : Below W5.heap.size W5 W6 := by rw [hW6]; exact (Below.refl _ W5).alloc (Nat.le_refl _) _
      have k6 : W6.heap[q]? = some (.cells #[.int .u64 (cl : Int), .int .u64 (sq : Int), .int .u64 (cd : Int), .string tx] 55 (0, 0)) := by rw [hW6, hq]; exact World.alloc_heap_new W5 _
      have hrd6 := hq5.below hB6
      have hgA := grownBy_trans (grownBy_trans (grownBy_trans (grownBy_trans HJ.out.2.2.2 HG2.out) HG3.out) HG4.out) hg5
      have hgr : w.grownBy W6 (some R) := grownBy_trans hgA (by have := grownBy_of_below (r := some R) hB6; exact this)
      have hRw := HSB.out.2.1
      have own6 : OwnW w.heap.size W6 (.slice A3 lj.length c3) lj := OwnW.below ((((HJ.out.2.1.kept hRw HG2.out).kept hRw HG3.out).kept hRw HG4.out).kept hRw hg5) hB6
      have hpe : rowR lim sj = (⟨cl, sq, cd, tx⟩, (sj.u.2.u.2.u.2.t lim).2) := by rw [rowR_eq, HCL.out, HSQ.out, HCD.out, HTX.out]; rfl
      obtain ⟨s6, hs6⟩ : ∃ s, s = (sj.u.2.u.2.u.2.t lim).2 := ⟨_, rfl⟩
      rw [← hs6] at hrd6 hpe
      have HE := Lib.hid (ErrR_q hrd6)
      have c0 : W6.cell? ⟨q, 0, none⟩ = some (.int .u64 (cl : Int)) := by simpa using blk_cell k6 0
      have c1 : W6.cell? ⟨q, 1, none⟩ = some (.int .u64 (sq : Int)) := by simpa using blk_cell k6 1
      have c2 : W6.cell? ⟨q, 2, none⟩ = some (.int .u64 (cd : Int)) := by simpa using blk_cell k6 2
      have c3' : W6.cell? ⟨q, 3, none⟩ = some (.string tx) := by simpa using blk_cell k6 3
      have H6 := Lib.hid (And.intro own6 (And.intro hrd6 (And.intro hgr (And.intro hpe k6))))
      clear hg5 hq5 hB6 k6 hrd6 hgr hgA own6 hpe hs6 HT4 hRw
      go_upto_region 5 with (fail)
      rw [← hq, ← hW6]
      clear hq hW6
      go_wp2_with fail
      refine HE.out.mono ?_
      rintro e W7 ⟨rfl, rfl⟩
      have hsj : (manyR (rowR lim) j s1).2.e = 0 := by rw [← HLS.out.2]; exact HJ.out.1 (by omega)
      have hsn := many_snoc (f := rowR lim) j s1 hsj
      rw [← HLS.out.1, ← HLS.out.2, H6.out.2.2.2.1] at hsn
      by_cases he6 : s6.e = 0
      · rw [if_neg (by simpa using he6)] at hsn
        have HSN := Lib.hid hsn
        have hll : lj.length ≤ 250000 := by
          have h1 := Puts.many (Puts.row lim) j s1 hsj
          have h2 := congrArg List.length h1.2.1
          rw [List.length_append, ← HLS.out.1] at h2
          have h3 := ones_flat lj
          have h4 := HSB.out.1 h1.1
          omega
        have hlj : lj.length + 1 = (lj ++ [(⟨cl, sq, cd, tx⟩ : SE)]).length := by simp
        have HS6 := Lib.hid he6
        have he6i : (s6.e : Int) = 0 := by omega
        rw [he6i]
        have hbA : Below W6.heap.size W6 (W6.alloc (Obj.cells #[.int .u64 (cl : Int), .int .u64 (sq : Int), .int .u64 (cd : Int), .string tx] 55)) := (Below.refl _ W6).alloc (Nat.le_refl _) _
        have hgA : w.grownBy (W6.alloc (Obj.cells #[.int .u64 (cl : Int), .int .u64 (sq : Int), .int .u64 (cd : Int), .string tx] 55)) (some R) := grownBy_trans H6.out.2.2.1 (by have := grownBy_of_below (r := some R) hbA; exact this)
        have HA := Lib.hid (And.intro (OwnW.below H6.out.1 hbA) (And.intro (row_new W6 ⟨cl, sq, cd, tx⟩) (And.intro (H6.out.2.1.below hbA) hgA)))
        have hszw : w.heap.size ≤ (W6.alloc (Obj.cells #[.int .u64 (cl : Int), .int .u64 (sq : Int), .int .u64 (cd : Int), .string tx] 55)).heap.size := hgA.size
        have hadd := u64_succ hlt HN.out
        have hlen2 : lj.length + 1 ≤ 1000000 := by omega
        have HLJ := Lib.hid hlj
        clear hbA hgA hsn hsj he6 he6i hll hlj
        go_wp2_with (first
          | (at_builtin; refine wpList_append_W rfl (.tmp 21) (.tmp 23) rfl w.heap.size _ lj rfl HA.out.1 (some ⟨W6.heap.size, 0, none⟩) 1 1 [⟨cl, sq, cd, tx⟩] rfl rfl (by simp) HA.out.2.1 hlen2 hszw ?_; intro v5 W8 hown hg; have H8 := Lib.hid (And.intro hown hg); obtain ⟨A5, c5, rfl, hc5⟩ := hown.form; rw [← HLJ.out]; clear hown hg)
          | fail)
        refine ⟨⟨j + 1, A5, c5, by omega, by congr 1, by rw [HSN.out, ← HLJ.out], Lib.hid ?_⟩, by simp only [intOf]; omega⟩
        rw [HSN.out]
        have hs8 : SameT [55] (W6.alloc (Obj.cells #[.int .u64 (cl : Int), .int .u64 (sq : Int), .int .u64 (cd : Int), .string tx] 55)) W8 := SameT.grown H8.out.2 (OwnW.typed HA.out.1)
        refine ⟨fun _ => HS6.out, ?_, HA.out.2.2.1.sameK hs8 (by decide) (by decide), HA.out.2.2.2.andThen H8.out.2 (fun x hx => .inl (HA.out.1.lt x hx).1)⟩
        have := H8.out.1
        rw [← HLJ.out] at this
        exact this
      · rw [if_pos he6] at hsn
        have hst := many_stop (f := rowR lim) (j + 1) N s1 (by omega) (by rw [hsn]; exact he6) (HSB.out.2.2.1 (by omega))
        have hne : ¬ (s6.e : Int) = 0 := by omega
        have hneb : ((s6.e : Int) == 0) = false := by simpa using hne
        have HST := Lib.hid (hst.trans hsn)
        have HE6 := Lib.hid he6
        obtain ⟨E, hE⟩ : ∃ E : Int, E = (s6.e : Int) := ⟨_, rfl⟩
        rw [← hE] at hne hneb ⊢
        have hnb : (E != 0) = true := by simp [hne]
        clear hst hsn hsj he6 hE c0 c1 c2 c3'
        go_wp2
        go_ret
        exact ⟨_, rfl, fun h => absurd (by rw [HST.out] at h; exact h) HE6.out, by rw [HST.out]; exact H6.out.2.1, H6.out.2.2.1⟩
    · have hji : ¬ (j : Int) < (N : Int) := by omega
      obtain rfl : j = N := by omega
      go_wp2
      go_ret
      exact ⟨_, rfl, fun _ => by rw [← HLS.out.1]; exact HJ.out.2.1, by rw [← HLS.out.2]; exact HJ.out.2.2.1, HJ.out.2.2.2⟩
end Go.Proofs.Ytelbgjnaceffeaa
