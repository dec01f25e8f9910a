/- VotesPlay's walk. -/
import Derived.Test.YtnpkaljmncehhaaVoSa
namespace Go.Proofs.Ytnpkaljmncehhaa
open Go.RowKit

structure AcT where
  r : Int
  x : Nat
  y : Nat
  fr : Bool
def AcT.ok (p : AcT) : Prop := p.x < 256 ∧ p.y < 256
/-- Acts that lie in a row. -/
def HasAc (w : World) (A : Option Addr) (l : List AcT) : Prop := l ≠ [] → ∃ b o, A = some ⟨b, o, none⟩ ∧ b < w.heap.size ∧ ∀ j (h : j < l.length), w.cell? ⟨b, o + j * 4, none⟩ = some (.int .i64 l[j].r) ∧ w.cell? ⟨b, o + j * 4 + 1, none⟩ = some (.int .u8 (l[j].x : Int)) ∧ w.cell? ⟨b, o + j * 4 + 2, none⟩ = some (.int .u8 (l[j].y : Int)) ∧ w.cell? ⟨b, o + j * 4 + 3, none⟩ = some (.bool l[j].fr)
/-- Both tallies in a round. -/
structure PlayV {T : World → Prop} (K : VotK T) (w : World) (R q g cap n : Nat) (rb : Nat → Nat) (i : Nat) (W : World) : Prop where
  ex : ∃ t F S, LiveV K w R t (RefB q g rb n) W ∧ RefV w q g cap rb n F S W ∧ RelV t n F S ∧ t.c ≤ i
section
variable {T : World → Prop} {K : VotK T} {w W W' : World} {R q g cap n F i : Nat} {rb : Nat → Nat} {S : Nat → Nat → Bool} {t : TM}
theorem LiveV.prot {P P' : Nat → Prop} (h : LiveV K w R t P W) (hp : ∀ k, P' k → P k) : LiveV K w R t P' W := by
  obtain ⟨F, f1, f2⟩ := h.ex
  exact ⟨⟨F, f1, fun k hk => ⟨(f2 k hk).1, fun hp' => (f2 k hk).2 (hp k hp')⟩⟩, h.below, fun k hk => h.p k (hp k hk), h.ok⟩
theorem RefV.rebase {w0 : World} (h : RefV w0 q g cap rb n F S W) (hs : w.heap.size ≤ w0.heap.size) : RefV w q g cap rb n F S W :=
  ⟨h.kq, h.row, h.rows, h.gl, ⟨Nat.le_trans hs h.new.1, Nat.le_trans hs h.new.2.1, fun i hi => Nat.le_trans hs (h.new.2.2 i hi)⟩, h.apart⟩
theorem PlayV.grew (h : PlayV K w R q g cap n rb i W) (hb : Below W.heap.size W W') : PlayV K w R q g cap n rb i W' := by
  obtain ⟨t, F, S, l1, l2, l3, l4⟩ := h.ex
  exact ⟨t, F, S, l1.grew hb, l2.below hb, l3, l4⟩
theorem PlayV.below (h : PlayV K w R q g cap n rb i W) : Below w.heap.size w W := by
  obtain ⟨t, F, S, l1, _⟩ := h.ex
  exact l1.below
theorem PlayV.new {w1 : World} (hL : LiveV K w R (TM.new n) (fun _ => False) w1) (hR : RefV w1 q g cap rb n 0 (fun _ _ => false) W) (hb : Below w1.heap.size w1 W) : PlayV K w R q g cap n rb 0 W := by
  refine ⟨_, 0, _, (hL.more hb (Q := RefB q g rb n) hR.base hR.lt).prot fun k hk => .inl hk, hR.rebase hL.below.size, RelV.new, Nat.le_refl _⟩
theorem PlayV.same (h : PlayV K w R q g cap n rb i W) (hT : T w) (hi : i ≤ 1000) : Calls Try.prog 14 #[.pointer (some ⟨R, 0, none⟩), .pointer (some ⟨q, 0, none⟩)] W fun e W' => e = .returned (.bool true) ∧ PlayV K w R q g cap n rb i W' := by
  obtain ⟨t, F, S, l1, l2, l3, l4⟩ := h.ex
  exact (same_any l1 hT l2 l3 (by omega)).mono fun e W' ⟨he, hb⟩ => ⟨he, h.grew hb⟩
theorem play_addC (l1 : LiveV K w R t (RefB q g rb n) W) (l2 : RefV w q g cap rb n F S W) (hT : T w) (hc : t.c ≤ i) (hi : i ≤ 1000) (r : Int) (x y : Nat) (hx : x < 18446744073709551616) (hy : y < 18446744073709551616) (hrel : RelV (t.addX r x y) n F S) : Calls Try.prog 12 #[.pointer (some ⟨R, 0, none⟩), .int .i64 r, .agg #[.int .u64 (x : Int), .int .u64 (y : Int)]] W fun e W' => e = .returned (.int .i64 (t.addE r x y : Int)) ∧ PlayV K w R q g cap n rb (i + 1) W' :=
  (l1.add hT (by omega) r x y hx hy).mono fun _ W' ⟨he, l1', F', ho, hF⟩ => ⟨he, ⟨_, F, S, l1', l2.only ho (fun k hk hr => (hF k hk).2 hr), hrel, by have := TM.addX_c t r x y; omega⟩⟩
theorem play_relC (l1 : LiveV K w R t (RefB q g rb n) W) (l2 : RefV w q g cap rb n F S W) (hT : T w) (hc : t.c ≤ i) (hi : i ≤ 1000) (x : Nat) (hx : x < 200) : Calls Try.prog 10 #[.pointer (some ⟨R, 0, none⟩), .int .u64 (x : Int)] W fun e W' => e = .returned (.tuple #[]) ∧ LiveV K w R (t.release x) (RefB q g rb n) W' ∧ RefV w q g cap rb n F S W' :=
  (l1.release hT (by omega) x (by omega)).mono fun _ W' ⟨he, l1', F', ho, hF⟩ => ⟨he, l1', l2.only ho (fun k hk hr => (hF k hk).2 hr)⟩
theorem RefV.floor (h : RefV w q g cap rb n F S W) (x : Nat) : RefV w q g cap rb n x S (W.setCell ⟨q, 1, none⟩ (.int .i64 (x : Int))) := by
  have hne : ∀ k, k ≠ q → (W.setCell ⟨q, 1, none⟩ (.int .i64 (x : Int))).heap[k]? = W.heap[k]? := fun k hk => Below.heap_setCell _ _ _ _ hk
  refine ⟨by rw [blk_set h.kq 1]; rfl, fun i hi => (show (W.setCell ⟨q, 1, none⟩ (.int .i64 (x : Int))).cell? ⟨g, i, none⟩ = W.cell? ⟨g, i, none⟩ from World.cell?_of_block (hne g (Ne.symm h.apart.1))).trans (h.row i hi), fun i hi => (hne _ (h.apart.2.1 i hi).1).trans (h.rows i hi), by simpa [World.setCell] using h.gl, h.new, h.apart⟩
theorem PlayV.floor {x : Nat} (l1 : LiveV K w R (t.release x) (RefB q g rb n) W) (l2 : RefV w q g cap rb n F S W) (l3 : RelV t n F S) (hc : t.c ≤ i) (hx : x < 200) : PlayV K w R q g cap n rb (i + 1) (W.setCell ⟨q, 1, none⟩ (.int .i64 ((max F x : Nat) : Int))) :=
  ⟨_, max F x, S, l1.turn (G := fun k => k = q) ((Only.refl (fun k => k = q) W).setCell (p := ⟨q, 1, none⟩) (.inl rfl) _) (fun k hk => .inl hk) (fun k hk => by rw [hk]; exact l2.new.1), l2.floor _, l3.release x hx, by show t.c ≤ _; omega⟩
theorem play_set (l1 : LiveV K w R t (RefB q g rb n) W) (l2 : RefV w q g cap rb n F S W) {k : Nat} (hk : k < n) (ho : Only (fun j => j = rb k) W W') : LiveV K w R t (RefB q g rb n) W' :=
  l1.turn ho (fun j hj => .inr (.inr ⟨k, hk, hj⟩)) (fun j hj => by rw [hj]; exact l2.new.2.2 k hk)
end
set_option maxRecDepth 100000 in
set_option maxHeartbeats 4000000 in
theorem VotesPlay_any {T : World → Prop} (K : VotK T) (n : Int) (A : Option Addr) (M c : Nat) (l : List AcT) (w : World) (hT : T w) (hM : M = l.length) (hMm : M ≤ 140737488351232) (hA : HasAc w A l) (hok : ∀ p ∈ l, p.ok) :
    Calls Try.prog 3 #[.int .i64 n, .slice A M c] w fun e W' => e = .returned (.bool true) ∧ Below w.heap.size w W' := by
  have HT := Lib.hid hT
  have HL := Lib.hid (And.intro hM (And.intro hA hok))
  have hMi : (M : Int) ≤ 140737488351232 := by omega
  have wk : ∀ W, Below w.heap.size w W → Calls Try.prog 7 #[] W fun e W' => e = .returned (.bool true) ∧ Below w.heap.size w W' := fun W hb => (wakes15_any K W (K.grew HT.out hb)).mono fun e W' ⟨h1, h2⟩ => ⟨h1, hb.trans (Below.mono h2 hb.size)⟩
  have HWK := Lib.hid wk
  by_cases hn : 1 ≤ n ∧ n ≤ 7
  case neg =>
    have HNB := Lib.hid (K.newBad n w hT hn)
    clear hT hM hMm hA hok wk
    go_enter Try.func3, Try.ntmps3
    by_cases h1 : n < 1
    · clear hn
      go_wp2_with fail
      refine HNB.out.mono ?_
      rintro e W1 ⟨rfl, b1⟩
      have H1 := Lib.hid b1
      clear b1
      go_wp2_with fail
      refine (HWK.out _ H1.out).mono ?_
      rintro e W3 ⟨rfl, b3⟩
      have H3 := Lib.hid b3
      clear b3
      go_wp2
      go_ret
      exact ⟨rfl, H3.out⟩
    · have h7 : (7 : Int) < n := by omega
      clear hn
      go_wp2_with fail
      refine HNB.out.mono ?_
      rintro e W1 ⟨rfl, b1⟩
      have H1 := Lib.hid b1
      clear b1
      go_wp2_with fail
      refine (HWK.out _ H1.out).mono ?_
      rintro e W3 ⟨rfl, b3⟩
      have H3 := Lib.hid b3
      clear b3
      go_wp2
      go_ret
      exact ⟨rfl, H3.out⟩
  case pos =>
    obtain ⟨n, rfl⟩ : ∃ k : Nat, n = k := ⟨n.toNat, by omega⟩
    have HN := Lib.hid (show 1 ≤ n ∧ n ≤ 7 by omega)
    have h1 : ¬ (n : Int) < 1 := by omega
    have h7 : ¬ (7 : Int) < n := by omega
    have HNW := Lib.hid (LiveV.of_new K w w n HN.out.1 HN.out.2 hT (Below.refl _ _))
    clear hn hT hM hMm hA hok wk
    go_enter Try.func3, Try.ntmps3
    by_cases hbig : 100 < M
    · have hbi : (100 : Int) < M := by omega
      clear hbig
      go_wp2_with fail
      refine HNW.out.mono ?_
      rintro e W1 ⟨R, rfl, l1, _⟩
      have H1 := Lib.hid l1.below
      clear l1
      go_wp2_with fail
      refine (HWK.out _ H1.out).mono ?_
      rintro e W3 ⟨rfl, b3⟩
      have H3 := Lib.hid b3
      clear b3
      go_wp2
      go_ret
      exact ⟨rfl, H3.out⟩
    · have hbi : ¬ (100 : Int) < M := by omega
      have HS := Lib.hid (show M ≤ 100 by omega)
      clear hbig
      go_wp2_with fail
      refine HNW.out.mono ?_
      rintro e W1 ⟨R, rfl, l1, _⟩
      have HL1 := Lib.hid l1
      clear l1 HNW
      go_wp2_with fail
      refine (refNew_any W1 n HN.out.1 HN.out.2).mono ?_
      rintro e W2 ⟨q, g, cap, rb, rfl, hR, b2⟩
      have H2 : Hid (PlayV K w R q g cap n rb 0 W2) := Lib.hid (PlayV.new HL1.out hR b2)
      clear hR b2 HL1
      go_wp2
      go_loopw [8, 9, 10, 11] (fun v8 v9 v10 v11 wr => ∃ i : Nat, i ≤ M ∧ v8 = .int .i64 (i : Int) ∧ Hid (PlayV K w R q g cap n rb i wr)) (fun i _ _ _ _ => M - (intOf i).toNat)
      case atStart => exact ⟨0, Nat.zero_le _, rfl, H2⟩
      case round =>
        obtain ⟨i, hi, rfl, HI⟩ := hrel
        by_cases hlt : i < M
        · have hii : (i : Int) < M := by omega
          have hi1 : i < l.length := by have := HL.out.1; omega
          obtain ⟨bb, o, e1, l1, f1⟩ := HL.out.2.1 (by rintro rfl; simp at hi1)
          subst e1
          have hpo := HL.out.2.2 _ (List.getElem_mem hi1)
          obtain ⟨pr, hpr⟩ : ∃ p, p = l[i] := ⟨_, rfl⟩
          have f2 := f1 i hi1
          rw [← hpr] at f2 hpo
          obtain ⟨r, x, y, fr⟩ := pr
          obtain ⟨a0, a1, a2, a3⟩ := f2
          dsimp only at a0 a1 a2 a3
          have hb := HI.out.below
          have HBC : Hid (∀ V, Below w.heap.size w V → ∀ j, V.cell? ⟨bb, j, none⟩ = w.cell? ⟨bb, j, none⟩) := Lib.hid fun V hV j => hV.cell (p := ⟨bb, j, none⟩) l1
          have HC := Lib.hid (And.intro a0 a3)
          have HBL := Lib.hid l1
          have d0 := (HBC.out wr hb _).trans a0
          have d1 := (HBC.out wr hb _).trans a1
          have d2 := (HBC.out wr hb _).trans a2
          have d3 := (HBC.out wr hb _).trans a3
          have HNE := Lib.hid (near_any wr r x y fr hpo.1 hpo.2)
          have hmod : max (x % 200) (y % 200) < 200 ∧ min (x % 200) (y % 200) ≤ max (x % 200) (y % 200) := by omega
          obtain ⟨fa, hfa⟩ : ∃ z, z = min (x % 200) (y % 200) := ⟨_, rfl⟩
          obtain ⟨fb, hfb⟩ : ∃ z, z = max (x % 200) (y % 200) := ⟨_, rfl⟩
          rw [← hfa, ← hfb] at HNE
          rw [← hfa, ← hfb] at hmod
          have HM := Lib.hid hmod
          have hfbi : (fb : Int) < 200 := by omega
          have hfai : (fa : Int) ≤ fb := by omega
          clear a0 a1 a2 a3 f1 l1 hb hfa hfb hpr hpo hmod
          go_wp2_with fail
          refine HNE.out.mono ?_
          rintro e W3 ⟨rfl, b3⟩
          have H3 := Lib.hid (HI.out.grew b3)
          clear d0 d1 d2 d3 b3 HNE HI
          obtain ⟨t, F, S, m1, m2, m3, m4⟩ := H3.out.ex
          have HZ := Lib.hid (And.intro (And.intro m1 m2) (And.intro m3 m4))
          clear m1 m2 m3 m4
          cases fr with
          | true =>
            have d3 := (HBC.out W3 H3.out.below _).trans HC.out.2
            have HR := Lib.hid (play_relC HZ.out.1.1 HZ.out.1.2 HT.out HZ.out.2.2 (by have := HS.out; omega) fb (by omega))
            go_wp2_with fail
            refine HR.out.mono ?_
            rintro e W4 ⟨rfl, g1, g2⟩
            have H5 := Lib.hid (PlayV.floor g1 g2 HZ.out.2.1 HZ.out.2.2 (by omega))
            have x1 := blk_cell g2.kq 1
            simp at x1
            have u0 := blk_frozen g2.kq 1
            obtain ⟨V, hV⟩ : ∃ V, V = W4.setCell ⟨q, 1, none⟩ (.int .i64 ((max F fb : Nat) : Int)) := ⟨_, rfl⟩
            rw [← hV] at H5
            rw [show ((max F fb : Nat) : Int) = max (F : Int) fb by omega] at hV
            have HSM := Lib.hid (H5.out.same HT.out (by have := HS.out; omega))
            clear g1 g2 HR d3 HZ
            go_wp2_with fail
            rw [← hV]
            refine HSM.out.mono ?_
            rintro e W6 ⟨rfl, h6⟩
            have H6 := Lib.hid h6
            clear h6 HSM H5 x1 u0 hV
            go_wp2
            exact ⟨⟨i + 1, by omega, by congr 1, H6⟩, by simp only [intOf]; omega⟩
          | false =>
            have d3 := (HBC.out W3 H3.out.below _).trans HC.out.2
            have d0 := (HBC.out W3 H3.out.below _).trans HC.out.1
            by_cases hr0 : r < 0
            · have hmay : t.may r fa fb = false := by unfold TM.may; rw [decide_eq_false]; omega
              have hx1 : t.addX r fa fb = t := by unfold TM.addX; rw [hmay]; rfl
              have he1 : t.addE r fa fb = 1 := by unfold TM.addE; rw [hmay]; rfl
              have HXE := Lib.hid (And.intro hx1 he1)
              clear hmay
              go_upto_region 18 with (fail)
              refine play_add R bb o M c i fa fb 1 r (PlayV K w R q g cap n rb (i + 1)) _ W3 _ rfl rfl rfl rfl rfl rfl rfl (Nat.lt_of_lt_of_le HBL.out H3.out.below.size) hlt (by omega) (by omega) d0 (fun V hV => ?_) ⟨fun _ => Grew.refl _, fun h => by cases h⟩ ?_
              · have := play_addC (HZ.out.1.1.grew hV) (HZ.out.1.2.below hV) HT.out HZ.out.2.2 (by have := HS.out; omega) r fa fb (by omega) (by omega) (by rw [hx1]; exact HZ.out.2.1)
                rw [he1] at this
                exact this
              intro u W5 hW5
              have H5 := Lib.hid (hW5.2 rfl)
              clear hW5 d0 HZ hx1 he1
              simp only [puts, List.foldl_cons, List.foldl_nil, Act.put, List.setIfInBounds_toArray, List.set_cons_succ, List.set_cons_zero]
              have HSM := Lib.hid (H5.out.same HT.out (by have := HS.out; omega))
              go_wp2_with fail
              refine HSM.out.mono ?_
              rintro e W6 ⟨rfl, h6⟩
              have H6 := Lib.hid h6
              clear h6 HSM H5
              go_wp2
              exact ⟨⟨i + 1, by omega, by congr 1, H6⟩, by simp only [intOf]; omega⟩
            · by_cases hrn : (n : Int) ≤ r
              · have hmay : t.may r fa fb = false := by unfold TM.may; rw [decide_eq_false]; have := HZ.out.2.1.en; omega
                have hx1 : t.addX r fa fb = t := by unfold TM.addX; rw [hmay]; rfl
                have he1 : t.addE r fa fb = 1 := by unfold TM.addE; rw [hmay]; rfl
                clear hmay
                go_upto_region 18 with (fail)
                refine play_add R bb o M c i fa fb 1 r (PlayV K w R q g cap n rb (i + 1)) _ W3 _ rfl rfl rfl rfl rfl rfl rfl (Nat.lt_of_lt_of_le HBL.out H3.out.below.size) hlt (by omega) (by omega) d0 (fun V hV => ?_) ⟨fun _ => Grew.refl _, fun h => by cases h⟩ ?_
                · have := play_addC (HZ.out.1.1.grew hV) (HZ.out.1.2.below hV) HT.out HZ.out.2.2 (by have := HS.out; omega) r fa fb (by omega) (by omega) (by rw [hx1]; exact HZ.out.2.1)
                  rw [he1] at this
                  exact this
                intro u W5 hW5
                have H5 := Lib.hid (hW5.2 rfl)
                clear hW5 d0 HZ hx1 he1
                simp only [puts, List.foldl_cons, List.foldl_nil, Act.put, List.setIfInBounds_toArray, List.set_cons_succ, List.set_cons_zero]
                have HSM := Lib.hid (H5.out.same HT.out (by have := HS.out; omega))
                go_wp2_with fail
                refine HSM.out.mono ?_
                rintro e W6 ⟨rfl, h6⟩
                have H6 := Lib.hid h6
                clear h6 HSM H5
                go_wp2
                exact ⟨⟨i + 1, by omega, by congr 1, H6⟩, by simp only [intOf]; omega⟩
              · obtain ⟨k, rfl⟩ : ∃ k : Nat, r = k := ⟨r.toNat, by omega⟩
                have hkn : k < n := by omega
                have hmay : t.may (k : Int) fa fb = true := by unfold TM.may; rw [decide_eq_true_eq]; have := HZ.out.2.1.en; omega
                have hx1 : t.addX (k : Int) fa fb = t.add k fa fb := by unfold TM.addX; rw [hmay, Int.toNat_natCast]; rfl
                have he1 : t.addE (k : Int) fa fb = 0 := by unfold TM.addE; rw [hmay]; rfl
                have HRA := Lib.hid (refAdd_any HZ.out.1.2 HN.out.2 k fa fb hkn (by omega) (by omega))
                clear hmay
                go_wp2_with fail
                refine HRA.out.mono ?_
                rintro e W4 ⟨rfl, g2, go⟩
                have HW := Lib.hid (And.intro (play_set HZ.out.1.1 HZ.out.1.2 hkn go) g2)
                clear d0 d3 HRA g2 go
                have d0 := (HBC.out W4 HW.out.1.below _).trans HC.out.1
                go_upto_region 18 with (fail)
                refine play_add R bb o M c i fa fb 0 (k : Int) (PlayV K w R q g cap n rb (i + 1)) _ W4 _ rfl rfl rfl rfl rfl rfl rfl (Nat.lt_of_lt_of_le HBL.out HW.out.1.below.size) hlt (by omega) (by omega) d0 (fun V hV => ?_) ⟨fun _ => Grew.refl _, fun h => by cases h⟩ ?_
                · have := play_addC (HW.out.1.grew hV) (HW.out.2.below hV) HT.out HZ.out.2.2 (by have := HS.out; omega) (k : Int) fa fb (by omega) (by omega) (by rw [hx1]; exact HZ.out.2.1.add k fa fb (by omega))
                  rw [he1] at this
                  exact this
                intro u W5 hW5
                have H5 := Lib.hid (hW5.2 rfl)
                clear hW5 d0 HZ hx1 he1 HW
                simp only [puts, List.foldl_cons, List.foldl_nil, Act.put, List.setIfInBounds_toArray, List.set_cons_succ, List.set_cons_zero]
                have HSM := Lib.hid (H5.out.same HT.out (by have := HS.out; omega))
                go_wp2_with fail
                refine HSM.out.mono ?_
                rintro e W6 ⟨rfl, h6⟩
                have H6 := Lib.hid h6
                clear h6 HSM H5
                go_wp2
                exact ⟨⟨i + 1, by omega, by congr 1, H6⟩, by simp only [intOf]; omega⟩
        · have hii : ¬ (i : Int) < M := by omega
          have hil : i = M := by omega
          go_wp2_with fail
          refine (HWK.out _ HI.out.below).mono ?_
          rintro e W3 ⟨rfl, b3⟩
          have H3 := Lib.hid b3
          clear b3
          go_wp2
          go_ret
          exact ⟨rfl, H3.out⟩
end Go.Proofs.Ytnpkaljmncehhaa
