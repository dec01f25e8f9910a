/- The contracts of the program's Bytes. -/
import Derived.Test.YtmpaefndkobgnaaPqFill
import Derived.Test.YtmpaefndkobgnaaPaWalk
namespace Go.Proofs.Ytmpaefndkobgnaa
open Go.RowKit

set_option maxRecDepth 100000 in
set_option maxHeartbeats 4000000 in
theorem l_Bytes1 {W : World} {R gU cU gB gF cF : Nat} {s : QS} (h : LQ W R gU cU gB gF cF s) (k : Nat) (hk : k < s.n) (Oc : Nat) (hOc : W.heap[Oc]? = some (.cells #[.slice none 0 0] 32 (0, 0))) :
    Calls Try.prog 18 #[.pointer (some ⟨gU, k * 3, none⟩), .pointer (some ⟨Oc, 0, none⟩)] W fun e W' => e = .returned (.int .i64 0) ∧
      LQ W' R gU cU gB gF cF s ∧ W'.heap[Oc]? = some (.cells #[.slice (some ⟨W.heap.size, 0, none⟩) (s.B.getD k []).length (s.B.getD k []).length] 32 (0, 0)) ∧ W'.heap[W.heap.size]? = some (.cells ((s.B.getD k []).map enc).toArray 5 (0, 0)) ∧ Only (fun j => j = Oc) W W' := by
  obtain ⟨c0, -, -⟩ := h.cells k hk
  obtain ⟨x, hx⟩ : ∃ y, y = s.B.getD k [] := ⟨_, rfl⟩
  obtain ⟨L, hL⟩ : ∃ y, y = x.length := ⟨_, rfl⟩
  obtain ⟨off, hoff⟩ : ∃ y, y = k * s.sz := ⟨_, rfl⟩
  have hLs : L ≤ 65536 := by have h1 := h.hBl k hk; have h2 := h.hsz; rw [hL, hx]; omega
  have hAx : HasA W W.heap.size (some ⟨gB, off, none⟩) x := fun _ => by
    obtain ⟨cur, hb, _, hc⟩ := h.hB
    refine ⟨gB, off, rfl, (Array.getElem?_eq_some_iff.1 hb).1, fun i hi => ?_⟩
    rw [blk_cell hb, hoff]
    subst hx
    exact hc k hk i hi
  rw [← hx, ← hL, ← hoff] at c0
  rw [← hx]
  rw [← hL]
  obtain ⟨sz, hsz⟩ : ∃ y, y = s.sz := ⟨_, rfl⟩
  rw [← hsz] at c0
  have b0 := blk_cell hOc 0
  have z0 := blk_frozen hOc 0
  simp at b0
  obtain ⟨cu, hbU, _⟩ := h.hU
  have nOU := blk_ne hOc hbU (by decide)
  have lOc := (Array.getElem?_eq_some_iff.1 hOc).1
  have lU := (Array.getElem?_eq_some_iff.1 hbU).1
  have HL := Lib.hid h
  have HX := Lib.hid hL
  have HA := Lib.hid hAx
  have HOc := Lib.hid hOc
  have HBU := Lib.hid hbU
  clear h hL hAx hOc hx hoff hsz hbU
  go_enter Try.func18, Try.ntmps18
  go_upto_region 2 with (at_make; refine wpList_make_c rfl _ _ rfl L rfl rfl (by omega) ?_)
  have hsz1 : (W.setCell ⟨Oc, 0, none⟩ (.slice (some ⟨W.heap.size, 0, none⟩) L L)).heap.size = W.heap.size := by simp [World.setCell]
  have o1 : Only (fun j => j = Oc) W ((W.setCell ⟨Oc, 0, none⟩ (.slice (some ⟨W.heap.size, 0, none⟩) L L)).alloc (.cells (Array.replicate L (.int .u8 0)) 5)) := ((Only.refl (fun j => j = Oc) W).setCell (p := ⟨Oc, 0, none⟩) (.inl rfl) _).alloc _
  have hnew1 := World.alloc_heap_new (W.setCell ⟨Oc, 0, none⟩ (.slice (some ⟨W.heap.size, 0, none⟩) L L)) (.cells (Array.replicate L (.int .u8 0)) 5)
  rw [hsz1] at hnew1
  have hOc1 := (Below.heap_alloc (W.setCell ⟨Oc, 0, none⟩ (.slice (some ⟨W.heap.size, 0, none⟩) L L)) (.cells (Array.replicate L (.int .u8 0)) 5) Oc (by rw [hsz1]; exact lOc)).trans (blk_set HOc.out 0 (.slice (some ⟨W.heap.size, 0, none⟩) L L))
  obtain ⟨W1, hW1⟩ : ∃ W1, W1 = (W.setCell ⟨Oc, 0, none⟩ (.slice (some ⟨W.heap.size, 0, none⟩) L L)).alloc (.cells (Array.replicate L (.int .u8 0)) 5) := ⟨_, rfl⟩
  rw [← hW1] at o1 hOc1 hnew1 ⊢
  have hA1 : HasA W1.drew W.heap.size (some ⟨gB, off, none⟩) x := fun hx => by
    obtain ⟨b, o, e, hb, hc⟩ := HA.out hx
    cases e
    refine ⟨gB, off, rfl, hb, fun i hi => ?_⟩
    rw [← hc i hi]
    refine World.cell?_of_block (o1.block _ hb ?_)
    obtain ⟨cur, hbB, _⟩ := HL.out.hB
    exact blk_ne hbB HOc.out (by decide)
  obtain ⟨W2, hr, ⟨cur', hb2, hcp⟩, hgr⟩ := run_copy_into W1.drew W.heap.size 0 L sz 5 (some ⟨gB, off, none⟩) W.heap.size x (Array.replicate L (.int .u8 0)) hnew1 (by rw [← HX.out]; simp) hA1
  rw [← HX.out] at hr
  have e2 : cur' = (x.map enc).toArray := by
    apply Array.ext_getElem?
    intro i
    by_cases hi : i < x.length
    · have := hcp.2.1 i hi
      rw [Nat.zero_add] at this
      rw [this]; simp [hi]
    · rw [Array.getElem?_eq_none (by rw [hcp.1]; simp; rw [HX.out]; omega), Array.getElem?_eq_none (by simp; omega)]
  rw [e2] at hb2
  have nW : Oc ≠ W.heap.size := Nat.ne_of_lt lOc
  have lO1 : Oc < W1.drew.heap.size := (Array.getElem?_eq_some_iff.1 hOc1).1
  have hOc2 : W2.heap[Oc]? = some (.cells #[.slice (some ⟨W.heap.size, 0, none⟩) L L] 32 (0, 0)) := (hgr.block Oc lO1 (by simp; exact nW)).trans (by rw [show W1.drew.heap = W1.heap from rfl, hOc1]; rfl)
  have o2 : Only (fun j => j = Oc) W W2 := o1.drew.grown hgr (fun y e => .inr (by cases e; exact Nat.le_refl _))
  have hq2 : LQ W2 R gU cU gB gF cF s := HL.out.only o2 (fun j hj e => by
    subst e
    obtain ⟨c3, h3⟩ := row_blk HL.out.hF
    obtain ⟨c4, h4, _⟩ := HL.out.hB
    rcases hj with e | e | e | e
    · exact blk_ne HOc.out HL.out.blk (by decide) e
    · exact nOU e
    · exact blk_ne HOc.out h4 (by decide) e
    · exact blk_ne HOc.out h3 (by decide) e)
  have lU1 : gU < W1.drew.heap.size := Nat.lt_of_lt_of_le lU o1.size
  have k0 : W1.cell? ⟨gU, k * 3, none⟩ = some (.slice (some ⟨gB, off, none⟩) L sz) := (World.cell?_of_block (o1.block gU lU (Ne.symm nOU))).trans c0
  have k1 : W1.cell? ⟨Oc, 0, none⟩ = some (.slice (some ⟨W.heap.size, 0, none⟩) L L) := by rw [blk_cell hOc1]; rfl
  have j0 : W2.cell? ⟨gU, k * 3, none⟩ = some (.slice (some ⟨gB, off, none⟩) L sz) := (World.cell?_of_block (o2.block gU lU (Ne.symm nOU))).trans c0
  have j1 : W2.cell? ⟨Oc, 0, none⟩ = some (.slice (some ⟨W.heap.size, 0, none⟩) L L) := by rw [blk_cell hOc2]; rfl
  have HQ2 := Lib.hid hq2
  have HO2 := Lib.hid hOc2
  have HN2 := Lib.hid hb2
  have O2 := Lib.hid o2
  obtain ⟨Bn, hBn⟩ : ∃ y, y = W.heap.size := ⟨_, rfl⟩
  have HBn := Lib.hid hBn
  rw [← hBn] at hr k1 j1 ⊢
  clear hq2 hOc2 hb2 o2 hgr hcp hA1 hW1 hnew1 hOc1 hsz1 o1 e2 lO1 lU1 hBn c0 b0 z0 nW
  go_region_held3 (fun w' => w'.cell? ⟨gU, k * 3, none⟩ = some (.slice (some ⟨gB, off, none⟩) L sz) ∧ w'.cell? ⟨Oc, 0, none⟩ = some (.slice (some ⟨Bn, 0, none⟩) L L)) (go_keep)
    (refine step_copy (by rfl) _ _ _ (by rfl) _ _ _ (by rfl) (by rfl) W2 hr ?_)
  go_wp2
  refine bodyPost_ret (v := .int .i64 0) (by simp [results, Try.results18, go_sem]) rfl ⟨rfl, HQ2.out, HO2.out, HN2.out, O2.out⟩

set_option maxHeartbeats 2000000 in
/-- What Bytes comes to, by what 'with' comes to. -/
theorem l_Bytes_via (w : World) (pv : Option Addr) (i : Int) (g : Nat) (Q : Ending → World → Prop)
    (h : ∀ W, Below w.heap.size w W → W.heap[w.heap.size + 1]? = some (.cells #[.slice none 0 0] 32 (0, 0)) →
      Calls Try.prog 17 #[.pointer pv, hV i g, .func (.func 18) #[] #[.pointer (some ⟨w.heap.size + 1, 0, none⟩)]] W fun e w' => ∃ r, e = .returned (.int .i64 r) ∧ ∃ A L c, w'.heap[w.heap.size + 1]? = some (.cells #[.slice A L c] 32 (0, 0)) ∧ Q (.returned (.tuple #[.slice A L c, .int .i64 r])) w') :
    Calls Try.prog 7 #[.pointer pv, hV i g] w Q := by
  have HH := Lib.hid h
  clear h
  unfold hV at HH ⊢
  go_enter Try.func7, Try.ntmps7
  go_upto_region 2 with (fail)
  obtain ⟨hH, hP, hB⟩ := boxed3 w (.slice none 0 0) i g
  obtain ⟨W, hW⟩ : ∃ W, W = (w.alloc (.cells #[.int .i64 i, .int .u32 (g : Int)] 29)).alloc (.cells #[.slice none 0 0] 32) := ⟨_, rfl⟩
  rw [← hW] at hP hH hB ⊢
  have h0 := blk_cell hH 0
  have h1 := blk_cell hH 1
  simp at h0 h1
  have HP := Lib.hid hP
  have HB := Lib.hid hB
  clear hW hP hH hB
  go_wp2_with fail
  refine (HH.out W HB.out HP.out).mono ?_
  rintro e w' ⟨r, rfl, A, L, c, ho, hq⟩
  have k0 := blk_cell ho 0
  simp at k0
  have HQ := Lib.hid hq
  clear hq ho
  go_wp2
  exact HQ.out
theorem l_Bytes_nil (w : World) (i : Int) (g : Nat) : Calls Try.prog 7 #[.pointer none, hV i g] w fun e w' => e = .returned (.tuple #[.slice none 0 0, .int .i64 2]) ∧ Below w.heap.size w w' :=
  l_Bytes_via w none i g _ fun W hb hP => (with_nil W i g _).mono fun e w' ⟨he, hb'⟩ => ⟨2, he, none, 0, 0, (hb'.block _ (Array.getElem?_eq_some_iff.1 hP).1).trans hP, rfl, hb.trans (Below.mono hb' hb.size)⟩
theorem l_Bytes_bad {w : World} {R gU cU gB gF cF : Nat} {s : QS} (h : LQ w R gU cU gB gF cF s) (i : Int) (g : Nat) (hi : InI i) (hg : g < 4294967296) (hgd : s.good i g = false) : Calls Try.prog 7 #[.pointer (some ⟨R, 0, none⟩), hV i g] w fun e w' => e = .returned (.tuple #[.slice none 0 0, .int .i64 15]) ∧ Below w.heap.size w w' :=
  l_Bytes_via w _ i g _ fun W hb hP => (with_bad (h.grew hb) i g hi.1 hi.2 hg hgd _).mono fun e w' ⟨he, hb'⟩ => ⟨15, he, none, 0, 0, (hb'.block _ (Array.getElem?_eq_some_iff.1 hP).1).trans hP, rfl, hb.trans (Below.mono hb' hb.size)⟩
theorem l_Bytes_good {w : World} {R gU cU gB gF cF : Nat} {s : QS} (h : LQ w R gU cU gB gF cF s) (k : Nat) (g : Nat) (hk : k < s.n) (hg : g < 4294967296) (hgd : s.good (k : Int) g = true) : Calls Try.prog 7 #[.pointer (some ⟨R, 0, none⟩), hV k g] w fun e w' =>
    ∃ q, e = .returned (.tuple #[.slice (some ⟨q, 0, none⟩) (s.B.getD k []).length (s.B.getD k []).length, .int .i64 0]) ∧ w'.ownsRow w.heap.size 5 1 (.slice (some ⟨q, 0, none⟩) (s.B.getD k []).length (s.B.getD k []).length) (s.B.getD k []).length ((s.B.getD k []).map enc) ∧ LQ w' R gU cU gB gF cF s ∧ Below w.heap.size w w' ∧ w.heap.size ≤ q := by
  refine l_Bytes_via w _ k g _ fun W hb hP => ?_
  obtain ⟨x, hx⟩ : ∃ y, y = s.B.getD k [] := ⟨_, rfl⟩
  have hxl : x.length ≤ 65536 := by have h1 := h.hBl k hk; have h2 := h.hsz; rw [hx]; omega
  rw [← hx]
  have hc := with_good (h.grew hb) k g hk hg hgd _ (enters_of Try.func18 (by kernel_rfl) rfl) #[.pointer (some ⟨w.heap.size + 1, 0, none⟩)] (fun r w' => r = 0 ∧ LQ w' R gU cU gB gF cF s ∧ ∃ q, w.heap.size ≤ q ∧ w'.heap[w.heap.size + 1]? = some (.cells #[.slice (some ⟨q, 0, none⟩) x.length x.length] 32 (0, 0)) ∧ w'.heap[q]? = some (.cells (x.map enc).toArray 5 (0, 0)) ∧ Below w.heap.size w w') (fun W2 hb2 => by
    have hb3 := hb.trans (Below.mono hb2 hb.size)
    refine (l_Bytes1 ((h.grew hb).grew hb2) k hk (w.heap.size + 1) ((hb2.block _ (Array.getElem?_eq_some_iff.1 hP).1).trans hP)).mono ?_
    rintro e w' ⟨rfl, h1, h2, h3, h4⟩
    rw [← hx] at h2 h3
    exact ⟨0, rfl, rfl, h1, _, hb3.size, h2, h3, hb3.trans (h4.below hb3.size (fun y e => by rw [e]; omega))⟩)
  refine hc.mono ?_
  rintro e w' ⟨r, rfl, rfl, h1, q, h2, h3, h4, h5⟩
  refine ⟨0, rfl, _, _, _, h3, q, rfl, ⟨by simp, .inr ⟨q, _, _, rfl, h2, h4, Nat.le_refl _, by simp only [maxLen]; omega, by simp, by simp; exact List.take_of_length_le (by simp)⟩⟩, h1, h5, h2⟩
end Go.Proofs.Ytmpaefndkobgnaa
