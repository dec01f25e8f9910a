/- The contracts of the program's Set. -/
import Derived.Test.YtmpaefndkobgnaaPqBack
import Derived.Test.YtmpaefndkobgnaaCopyIn
namespace Go.Proofs.Ytmpaefndkobgnaa
open Go.RowKit

section
variable {w w' : World} {R gU cU gB gF cF : Nat} {s : QS}
/-- A buffer's bytes are others. -/
theorem LQ.filled (h : LQ w R gU cU gB gF cF s) (k : Nat) (hk : k < s.n) (x : List UInt8) (hx : x.length ≤ s.sz) (cur cur' : Array Value) (hc : w.heap[gB]? = some (.cells cur 5 (0, 0))) (hc' : w'.heap[gB]? = some (.cells cur' 5 (0, 0))) (hcp : Copied cur cur' (k * s.sz) x)
    (hg : (w.setCell ⟨gU, k * 3, none⟩ (.slice (some ⟨gB, k * s.sz, none⟩) x.length s.sz)).grownBy w' (some gB)) : LQ w' R gU cU gB gF cF { s with B := s.B.set k x } := by
  obtain ⟨n1, n2, n3, n4, n5, n6⟩ := h.ne
  obtain ⟨cu, hb, hcu⟩ := h.hU
  obtain ⟨c2, hb2, hs2, hc2⟩ := h.hB
  rw [hc] at hb2
  simp only [Option.some.injEq, Obj.cells.injEq, and_true] at hb2
  subst hb2
  have hlt := h.lt
  have hsz : w.heap.size = (w.setCell ⟨gU, k * 3, none⟩ (.slice (some ⟨gB, k * s.sz, none⟩) x.length s.sz)).heap.size := by simp [World.setCell]
  have keep : ∀ {g : Nat} {o : Obj}, w.heap[g]? = some o → g ≠ gU → g ≠ gB → w'.heap[g]? = some o := fun ho e1 e2 => (hg.block _ (by rw [← hsz]; exact (Array.getElem?_eq_some_iff.1 ho).1) (by simp; exact e2)).trans (blk_keep ho e1)
  have hU' : w'.heap[gU]? = some (.cells (cu.setIfInBounds (k * 3) (.slice (some ⟨gB, k * s.sz, none⟩) x.length s.sz)) 59 (0, 0)) := (hg.block _ (by rw [← hsz]; exact (Array.getElem?_eq_some_iff.1 hb).1) (by simp; exact n4)).trans (blk_set hb _ _)
  have hsB : ∀ i', (s.B.set k x).getD i' [] = if i' = k then x else s.B.getD i' [] := fun i' => getD_set _ _ _ _ _ (by rw [h.lB]; exact hk)
  refine ⟨keep h.blk (Ne.symm n1) (Ne.symm n2), ⟨_, hU', fun i' hi' => ?_⟩, ⟨cur', hc', hcp.1.trans hs2, fun i' hi' j hj => ?_⟩, ?_, by simp [h.lB], h.lG, h.lL, fun i' hi' => ?_, h.hn, h.hs0, h.hsz, h.hNl, h.hcF, h.hNn, h.hGl⟩
  · obtain ⟨h1, h2, h3⟩ := hcu i' hi'
    have k1 := set_get (hcu k hk).1
    refine ⟨?_, ?_, ?_⟩
    · rw [k1]
      show _ = some (Value.slice (some ⟨gB, i' * s.sz, none⟩) ((s.B.set k x).getD i' []).length s.sz)
      rw [hsB]
      by_cases hii : i' = k
      · subst hii; rw [if_pos rfl, if_pos rfl]
      · rw [if_neg (by omega), if_neg hii]; exact h1
    · rw [k1, if_neg (by omega)]; exact h2
    · rw [k1, if_neg (by omega)]; exact h3
  · by_cases hii : i' = k
    · subst hii
      have e : (s.B.set i' x).getD i' [] = x := by rw [hsB, if_pos rfl]
      have := hcp.2.1 j (by rw [← e]; exact hj)
      simpa only [e] using this
    · have e : (s.B.set k x).getD i' [] = s.B.getD i' [] := by rw [hsB, if_neg hii]
      have hj' : j < (s.B.getD i' []).length := by rw [← e]; exact hj
      have hl := h.hBl i' hi'
      have h1 := hc2 i' hi' j hj'
      have h2 : i' * s.sz + j < k * s.sz ∨ k * s.sz + x.length ≤ i' * s.sz + j := by
        rcases Nat.lt_or_gt_of_ne hii with hlt' | hgt
        · left
          have : (i' + 1) * s.sz ≤ k * s.sz := Nat.mul_le_mul_right _ hlt'
          rw [Nat.add_mul] at this
          omega
        · right
          have : (k + 1) * s.sz ≤ i' * s.sz := Nat.mul_le_mul_right _ hgt
          rw [Nat.add_mul] at this
          omega
      have h3 := (hcp.2.2 _ h2).trans h1
      simpa only [e] using h3
  · exact own_keep' h.hF (fun g e => (hg.block _ (by rw [← hsz]; exact (h.hF.lt g e).2) (by cases e; simp; exact Ne.symm n6)).trans (Below.heap_setCell _ _ _ _ (by cases e; exact Ne.symm n5)))
  · show ((s.B.set k x).getD i' []).length ≤ s.sz
    rw [hsB]
    by_cases hii : i' = k
    · rw [if_pos hii]; exact hx
    · rw [if_neg hii]; exact h.hBl i' hi'
end

set_option maxRecDepth 100000 in
set_option maxHeartbeats 4000000 in
theorem l_Set1 {W : World} {R gU cU gB gF cF : Nat} {s : QS} (h : LQ W R gU cU gB gF cF s) (k : Nat) (hk : k < s.n) (Bc : Nat) (A : Option Addr) (L c : Nat) (x : List UInt8) (hL : L = x.length) (hLm : L ≤ 140737488355328) (hLc : L ≤ c)
    (hA : HasA W W.heap.size A x) (hAF : ∀ b o, A = some ⟨b, o, none⟩ → ¬ FL R gU gB gF b) (hBc : W.heap[Bc]? = some (.cells #[.slice A L c] 32 (0, 0))) :
    Calls Try.prog 20 #[.pointer (some ⟨gU, k * 3, none⟩), .pointer (some ⟨Bc, 0, none⟩)] W fun e W' => e = .returned (.int .i64 (if s.sz < x.length then 3 else 0)) ∧
      LQ W' R gU cU gB gF cF (if s.sz < x.length then s else { s with B := s.B.set k x }) ∧ Only (FL R gU gB gF) W W' := by
  obtain ⟨c0, -, -⟩ := h.cells k hk
  have z0 := h.fz (k * 3)
  obtain ⟨l0, hl0⟩ : ∃ y, y = (s.B.getD k []).length := ⟨_, rfl⟩
  obtain ⟨sz, hsz⟩ : ∃ y, y = s.sz := ⟨_, rfl⟩
  obtain ⟨off, hoff⟩ : ∃ y, y = k * s.sz := ⟨_, rfl⟩
  have hl0s : l0 ≤ sz := by rw [hl0, hsz]; exact h.hBl k hk
  have hsz6 : sz ≤ 65536 := by rw [hsz]; exact h.hsz
  have hsz0 : 0 < sz := by rw [hsz]; exact h.hs0
  rw [← hl0, ← hoff, ← hsz] at c0
  have b0 := blk_cell hBc 0
  simp at b0
  have HL := Lib.hid h
  have HX := Lib.hid hL
  have HA := Lib.hid hA
  have HAF := Lib.hid hAF
  have HBc := Lib.hid hBc
  have HS := Lib.hid hsz
  have HO := Lib.hid hoff
  have HK := Lib.hid hk
  clear h hL hA hAF hBc hsz hoff hl0 hk
  by_cases hlong : sz < L
  · have hli : (sz : Int) < (L : Int) := by omega
    have HLo := Lib.hid (show s.sz < x.length by rw [← HS.out, ← HX.out]; exact hlong)
    go_enter Try.func20, Try.ntmps20
    go_wp2
    go_region
    all_goals go_wp2
    all_goals exact bodyPost_ret (v := .int .i64 3) (by simp [results, Try.results20, go_sem]) rfl ⟨rfl, HL.out.grew (Below.refl _ W).drew, (Only.refl _ _).drew⟩
  · have hli : ¬ (sz : Int) < (L : Int) := by omega
    have hLsz : L ≤ sz := by omega
    have hL6 : (L : Int) ≤ sz := by omega
    have HLo := Lib.hid (show ¬ s.sz < x.length by rw [← HS.out, ← HX.out]; exact hlong)
    clear hlong
    go_enter Try.func20, Try.ntmps20
    go_wp2
    go_region
    go_wp2
    go_region
    go_wp2_with fail
    have o1 : Only (FL R gU gB gF) W ((W.setCell ⟨gU, k * 3, none⟩ (.slice (some ⟨gB, off, none⟩) L sz)).drew.drew) := ((Only.refl _ W).setCell (p := ⟨gU, k * 3, none⟩) (.inl (.inr (.inl rfl))) _).drew.drew
    obtain ⟨cu, hbU, _⟩ := HL.out.hU
    obtain ⟨cur, hbB, hcs, _⟩ := HL.out.hB
    have hne := HL.out.ne
    have hbB1 := blk_keep (w := W) (j := k * 3) (u := .slice (some ⟨gB, off, none⟩) L sz) hbB (Ne.symm hne.2.2.2.1)
    have hbU1 := blk_set (w := W) hbU (k * 3) (.slice (some ⟨gB, off, none⟩) L sz)
    have hBc1 := blk_keep (w := W) (j := k * 3) (u := .slice (some ⟨gB, off, none⟩) L sz) HBc.out (blk_ne HBc.out hbU (by decide))
    have hA1 : HasA ((W.setCell ⟨gU, k * 3, none⟩ (.slice (some ⟨gB, off, none⟩) L sz)).drew.drew) W.heap.size A x := fun hx => by
      obtain ⟨b, o, e, hb, hc⟩ := HA.out hx
      refine ⟨b, o, e, hb, fun i hi => ?_⟩
      rw [← hc i hi]
      exact World.cell?_setCell_far _ _ _ _ (fun e' => HAF.out b o e (.inr (.inl e'.symm)))
    obtain ⟨W1, hW1⟩ : ∃ W1, W1 = (W.setCell ⟨gU, k * 3, none⟩ (.slice (some ⟨gB, off, none⟩) L sz)).drew.drew := ⟨_, rfl⟩
    have HW1 := Lib.hid hW1
    replace hbB1 : W1.heap[gB]? = some (.cells cur 5 (0, 0)) := by rw [hW1]; exact hbB1
    replace hbU1 : W1.heap[gU]? = some (.cells (cu.setIfInBounds (k * 3) (.slice (some ⟨gB, off, none⟩) L sz)) 59 (0, 0)) := by rw [hW1]; exact hbU1
    replace hBc1 : W1.heap[Bc]? = some (.cells #[.slice A L c] 32 (0, 0)) := by rw [hW1]; exact hBc1
    rw [← hW1] at o1 hA1 ⊢
    have hlk : k * 3 < cu.size := by
      obtain ⟨_, h1, h2⟩ := HL.out.hU
      rw [hbU] at h1
      simp only [Option.some.injEq, Obj.cells.injEq, and_true] at h1
      subst h1
      exact (Array.getElem?_eq_some_iff.1 (h2 k HK.out).1).1
    have hfit : off + x.length ≤ cur.size := by
      rw [hcs, HO.out, ← HX.out]
      have h1 : (k + 1) * s.sz ≤ s.n * s.sz := Nat.mul_le_mul_right _ HK.out
      rw [Nat.add_mul] at h1
      rw [HS.out] at hLsz
      omega
    obtain ⟨W2, hr, ⟨cur', hbB2, hcp⟩, hgr⟩ := run_copy_into W1.drew gB off sz c 5 A W.heap.size x cur hbB1 hfit hA1
    rw [← HX.out] at hr
    have k0 : W1.cell? ⟨gU, k * 3, none⟩ = some (.slice (some ⟨gB, off, none⟩) L sz) := by
      rw [blk_cell hbU1, Array.getElem?_setIfInBounds]; simp [hlk]
    have k1 := blk_cell hBc1 0
    simp at k1
    have j0 : W2.cell? ⟨gU, k * 3, none⟩ = some (.slice (some ⟨gB, off, none⟩) L sz) := (World.cell?_of_block (hgr.block gU (Array.getElem?_eq_some_iff.1 hbU1).1 (by simp; exact hne.2.2.2.1))).trans k0
    have j1 : W2.cell? ⟨Bc, 0, none⟩ = some (.slice A L c) := (World.cell?_of_block (hgr.block Bc (Array.getElem?_eq_some_iff.1 hBc1).1 (by simp; exact blk_ne hBc1 hbB1 (by decide)))).trans k1
    have hfin : LQ W2 R gU cU gB gF cF { s with B := s.B.set k x } := by
      refine HL.out.filled k HK.out x (Nat.le_of_not_lt HLo.out) cur cur' hbB hbB2 (by rw [← HO.out]; exact hcp) ?_
      have e : W.setCell ⟨gU, k * 3, none⟩ (.slice (some ⟨gB, k * s.sz, none⟩) x.length s.sz) = W.setCell ⟨gU, k * 3, none⟩ (.slice (some ⟨gB, off, none⟩) L sz) := by rw [← HO.out, ← HX.out, ← HS.out]
      rw [e]
      have hg1 := hgr
      rw [HW1.out] at hg1
      exact ⟨hg1.os, hg1.tape, hg1.output, hg1.size, hg1.block⟩
    have o2 : Only (FL R gU gB gF) W W2 := o1.drew.grown hgr (fun x e => .inl (by cases e; exact .inr (.inr (.inl rfl))))
    have HF := Lib.hid hfin
    have O2 := Lib.hid o2
    clear hfin o2 hbB hbB1 hbB2 hbU hbU1 hcp hgr hBc1 hA1 hfit hlk hcs hne hW1 o1 c0 b0 z0
    go_region_held3 (fun w' => w'.cell? ⟨gU, k * 3, none⟩ = some (.slice (some ⟨gB, off, none⟩) L sz) ∧ w'.cell? ⟨Bc, 0, none⟩ = some (.slice A L c)) (go_keep)
      (refine step_copy (by rfl) _ _ _ (by rfl) _ _ _ (by rfl) (by rfl) W2 hr ?_)
    go_wp2
    exact bodyPost_ret (v := .int .i64 0) (by simp [results, Try.results20, go_sem]) rfl ⟨rfl, HF.out, O2.out⟩
/-- The world behind the boxing of a handle and a slice. -/
theorem boxed3 (w : World) (v : Value) (i g : Int) :
    ((w.alloc (.cells #[.int .i64 i, .int .u32 g] 29)).alloc (.cells #[v] 32)).heap[w.heap.size]? = some (.cells #[.int .i64 i, .int .u32 g] 29 (0, 0)) ∧
    ((w.alloc (.cells #[.int .i64 i, .int .u32 g] 29)).alloc (.cells #[v] 32)).heap[w.heap.size + 1]? = some (.cells #[v] 32 (0, 0)) ∧
    Below w.heap.size w ((w.alloc (.cells #[.int .i64 i, .int .u32 g] 29)).alloc (.cells #[v] 32)) := by
  have h1 := World.alloc_heap_new w (.cells #[.int .i64 i, .int .u32 g] 29)
  have h2 := World.alloc_heap_new (w.alloc (.cells #[.int .i64 i, .int .u32 g] 29)) (.cells #[v] 32)
  refine ⟨(Below.heap_alloc _ _ _ (by simp)).trans h1, by simpa using h2, ((Below.refl _ w).alloc (Nat.le_refl _) _).alloc (by simp) _⟩

set_option maxHeartbeats 2000000 in
/-- What Set comes to, by what 'with' comes to. -/
theorem l_Set_via (w : World) (pv : Option Addr) (i : Int) (g : Nat) (A : Option Addr) (L c : Nat) (Q : Ending → World → Prop)
    (h : ∀ W, Below w.heap.size w W → W.heap[w.heap.size + 1]? = some (.cells #[.slice A L c] 32 (0, 0)) →
      Calls Try.prog 17 #[.pointer pv, hV i g, .func (.func 20) #[] #[.pointer (some ⟨w.heap.size + 1, 0, none⟩)]] W fun e w' => ∃ r, e = .returned (.int .i64 r) ∧ Q (.returned (.int .i64 r)) w') :
    Calls Try.prog 9 #[.pointer pv, hV i g, .slice A L c] w Q := by
  have HH := Lib.hid h
  clear h
  unfold hV at HH ⊢
  go_enter Try.func9, Try.ntmps9
  go_upto_region 1 with (fail)
  obtain ⟨hH, hP, hB⟩ := boxed3 w (.slice A L c) i g
  obtain ⟨W, hW⟩ : ∃ W, W = (w.alloc (.cells #[.int .i64 i, .int .u32 (g : Int)] 29)).alloc (.cells #[.slice A L c] 32) := ⟨_, rfl⟩
  rw [← hW] at hP hH hB ⊢
  have h0 := blk_cell hH 0
  have h1 := blk_cell hH 1
  simp at h0 h1
  have HP := Lib.hid hP
  have HB := Lib.hid hB
  clear hW hP hH hB
  go_wp2_with fail
  refine (HH.out W HB.out HP.out).mono ?_
  rintro e w' ⟨r, rfl, hq⟩
  have HQ := Lib.hid hq
  clear hq
  go_wp2
  exact HQ.out
theorem l_Set_nil (w : World) (i : Int) (g : Nat) (A : Option Addr) (L c : Nat) : Calls Try.prog 9 #[.pointer none, hV i g, .slice A L c] w fun e w' => e = .returned (.int .i64 2) ∧ Below w.heap.size w w' :=
  l_Set_via w none i g A L c _ fun W hb _ => (with_nil W i g _).mono fun e w' ⟨he, hb'⟩ => ⟨2, he, rfl, hb.trans (Below.mono hb' hb.size)⟩
theorem l_Set_bad {w : World} {R gU cU gB gF cF : Nat} {s : QS} (h : LQ w R gU cU gB gF cF s) (i : Int) (g : Nat) (hi : InI i) (hg : g < 4294967296) (hgd : s.good i g = false) (A : Option Addr) (L c : Nat) : Calls Try.prog 9 #[.pointer (some ⟨R, 0, none⟩), hV i g, .slice A L c] w fun e w' => e = .returned (.int .i64 15) ∧ Below w.heap.size w w' :=
  l_Set_via w _ i g A L c _ fun W hb _ => (with_bad (h.grew hb) i g hi.1 hi.2 hg hgd _).mono fun e w' ⟨he, hb'⟩ => ⟨15, he, rfl, hb.trans (Below.mono hb' hb.size)⟩
theorem l_Set_good {w : World} {R gU cU gB gF cF : Nat} {s : QS} (h : LQ w R gU cU gB gF cF s) (k : Nat) (g : Nat) (hk : k < s.n) (hg : g < 4294967296) (hgd : s.good (k : Int) g = true) (A : Option Addr) (L c : Nat) (x : List UInt8) (hL : L = x.length) (hLm : L ≤ 140737488355328) (hLc : L ≤ c)
    (hA : HasA w w.heap.size A x) (hAF : ∀ b o, A = some ⟨b, o, none⟩ → ¬ FL R gU gB gF b) : Calls Try.prog 9 #[.pointer (some ⟨R, 0, none⟩), hV k g, .slice A L c] w fun e w' => e = .returned (.int .i64 (if s.sz < x.length then 3 else 0)) ∧
    LQ w' R gU cU gB gF cF (if s.sz < x.length then s else { s with B := s.B.set k x }) ∧ Only (FL R gU gB gF) w w' := by
  refine l_Set_via w _ k g A L c _ fun W hb hP => ?_
  refine (with_good (h.grew hb) k g hk hg hgd _ (enters_of Try.func20 (by kernel_rfl) rfl) _ (fun r w' => Ending.returned (Value.int .i64 r) = .returned (.int .i64 (if s.sz < x.length then 3 else 0)) ∧ LQ w' R gU cU gB gF cF (if s.sz < x.length then s else { s with B := s.B.set k x }) ∧ Only (FL R gU gB gF) w w') (fun W2 hb2 => ?_))
  have hb3 := hb.trans (Below.mono hb2 hb.size)
  refine (l_Set1 ((h.grew hb).grew hb2) k hk (w.heap.size + 1) A L c x hL hLm hLc (hA.below' hb3) hAF ((hb2.block _ (Array.getElem?_eq_some_iff.1 hP).1).trans hP)).mono ?_
  rintro e w' ⟨rfl, h1, h2⟩
  exact ⟨_, rfl, rfl, h1, (Only.of_grew hb3).trans h2 (fun x hx => .inl hx)⟩
end Go.Proofs.Ytmpaefndkobgnaa
