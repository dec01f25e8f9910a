/- The contracts of the program's Back. -/
import Derived.Test.YtmpaefndkobgnaaPqBackR
namespace Go.Proofs.Ytmpaefndkobgnaa
open Go.RowKit

set_option maxRecDepth 100000 in
set_option maxHeartbeats 4000000 in
theorem l_Back1 {W : World} {R gU cU gB gF cF : Nat} {s : QS} (h : LQ W R gU cU gB gF cF s) (k g : Nat) (hk : k < s.n) (hroom : s.N.length < s.n) (P H : Nat)
    (hP : W.heap[P]? = some (.cells #[.pointer (some ⟨R, 0, none⟩)] 23 (0, 0))) (hH : W.heap[H]? = some (.cells #[.int .i64 (k : Int), .int .u32 (g : Int)] 29 (0, 0))) :
    Calls Try.prog 19 #[.pointer (some ⟨gU, k * 3, none⟩), .pointer (some ⟨P, 0, none⟩), .pointer (some ⟨H, 0, none⟩)] W fun e W' => e = .returned (.int .i64 0) ∧
      ∃ gF' cF', LQ W' R gU cU gB gF' cF' { s with L := s.L.set k false, N := k :: s.N } ∧ Only (FL R gU gB gF) W W' ∧ (gF' = gF ∨ W.heap.size ≤ gF') := by
  obtain ⟨-, -, c2⟩ := h.cells k hk
  obtain ⟨lb, hlb⟩ : ∃ x, x = s.L.getD k false := ⟨_, rfl⟩
  rw [← hlb] at c2
  have z2 := h.fz (k * 3 + 2)
  obtain ⟨m, hm⟩ : ∃ m, m = s.N.length := ⟨_, rfl⟩
  have hm4 : m + 1 ≤ 4096 := by have := h.hn; omega
  have HL := Lib.hid h
  have HP := Lib.hid hP
  have HH := Lib.hid hH
  have HM := Lib.hid hm
  have HK := Lib.hid (show k < s.n ∧ m < s.n from ⟨hk, by omega⟩)
  clear hlb h hP hH hm hroom
  go_enter Try.func19, Try.ntmps19
  go_upto_region 2 with (fail)
  have hq1 := HL.out.setL k HK.out.1 false
  have o1 := (Only.refl (FL R gU gB gF) W).setCell (p := ⟨gU, k * 3 + 2, none⟩) (.inl (.inr (.inl rfl))) (.bool false)
  obtain ⟨cU0, hbU0, _⟩ := HL.out.hU
  have hP1 := blk_keep (j := k * 3 + 2) (u := .bool false) HP.out (blk_ne HP.out hbU0 (by decide))
  have hH1 := blk_keep (j := k * 3 + 2) (u := .bool false) HH.out (blk_ne HH.out hbU0 (by decide))
  have hsz1 : W.heap.size = (W.setCell ⟨gU, k * 3 + 2, none⟩ (.bool false)).heap.size := by simp [World.setCell]
  obtain ⟨W1, hW1⟩ : ∃ W1, W1 = W.setCell ⟨gU, k * 3 + 2, none⟩ (.bool false) := ⟨_, rfl⟩
  rw [← hW1] at hq1 o1 hP1 hH1 hsz1 ⊢
  have hown := hq1.hF
  have f1 := blk_cell hq1.blk 1
  simp only [List.getElem?_toArray, List.getElem?_cons_succ, List.getElem?_cons_zero] at f1
  have z1 := blk_frozen hq1.blk 1
  rw [show ({ s with L := s.L.set k false } : QS).N = s.N from rfl] at hown f1
  rw [← HM.out] at hown f1
  have p0 := blk_cell hP1 0
  have h0 := blk_cell hH1 0
  simp at p0 h0
  obtain ⟨cF1, hbF1⟩ := row_blk hown
  have nP := blk_ne hP1 hbF1 (by decide)
  have nH := blk_ne hH1 hbF1 (by decide)
  have nR := blk_ne hq1.blk hbF1 (by decide)
  have HQ1 := Lib.hid hq1
  have O1 := Lib.hid o1
  have HS1 := Lib.hid hsz1
  have HO1 := Lib.hid hown
  clear hW1 hq1 o1 hP1 hH1 hbF1 hsz1 hbU0 hown c2 z2
  refine back_region W1 R H k gF m cF (s.N.reverse.map iV) P (by omega) _ _ rfl rfl rfl p0 h0 f1 z1 nP nH nR HO1.out ?_
  intro q gF' cF' W2 ho2 hown2 hat
  have hne := HQ1.out.ne
  have hq3 := HQ1.out.moved (w' := W2) (fun j hj => ho2.block j (HQ1.out.lt j (by
    rcases hj with e | e | e
    · exact .inl e
    · exact .inr (.inl e)
    · exact .inr (.inr (.inl e)))) (by
    rintro rfl
    rcases hj with e | e | e
    · exact hne.2.2.1 e
    · exact hne.2.2.2.2.1 e.symm
    · exact hne.2.2.2.2.2 e.symm)) gF' cF' (k :: s.N) (by
      rw [List.reverse_cons, List.map_append, List.length_cons, ← HM.out]; exact hown2) (by have := own_cap hown2; omega) (by rw [List.length_cons, ← HM.out]; exact HK.out.2) (fun j hj => by
        rcases List.mem_cons.1 hj with e | hj
        · rw [e]; exact HK.out.1
        · exact HL.out.hNn j hj)
  rw [List.length_cons, ← HM.out] at hq3
  have o3 : Only (FL R gU gB gF) W (W2.setCell ⟨R, 1, none⟩ (.slice (some ⟨gF', 0, none⟩) (m + 1) cF')) :=
    Only.setCell (O1.out.trans ho2 (fun x hx => .inl (.inr (.inr (.inr hx))))) (.inl (.inl rfl)) _
  have HQ3 := Lib.hid hq3
  have O3 := Lib.hid o3
  have H3 := Lib.hid (show gF' = gF ∨ W.heap.size ≤ gF' by rw [HS1.out]; exact hat)
  clear hq3 o3 hown2 ho2 hat hne
  simp only [puts, List.foldl_cons, List.foldl_nil, Act.put, List.setIfInBounds_toArray, List.set_cons_succ, List.set_cons_zero]
  go_wp2
  refine bodyPost_ret (v := .int .i64 0) (by simp [results, Try.results19, go_sem]) rfl ⟨rfl, _, ⟨_, HQ3.out⟩, O3.out, H3.out⟩

/-- The world behind the boxing of a pool's address and a handle. -/
theorem boxed2 (w : World) (v : Value) (i g : Int) :
    ((w.alloc (.cells #[v] 23)).alloc (.cells #[.int .i64 i, .int .u32 g] 29)).heap[w.heap.size]? = some (.cells #[v] 23 (0, 0)) ∧
    ((w.alloc (.cells #[v] 23)).alloc (.cells #[.int .i64 i, .int .u32 g] 29)).heap[w.heap.size + 1]? = some (.cells #[.int .i64 i, .int .u32 g] 29 (0, 0)) ∧
    Below w.heap.size w ((w.alloc (.cells #[v] 23)).alloc (.cells #[.int .i64 i, .int .u32 g] 29)) := by
  have h1 := World.alloc_heap_new w (.cells #[v] 23)
  have h2 := World.alloc_heap_new (w.alloc (.cells #[v] 23)) (.cells #[.int .i64 i, .int .u32 g] 29)
  refine ⟨(Below.heap_alloc _ _ _ (by simp)).trans h1, by simpa using h2, ((Below.refl _ w).alloc (Nat.le_refl _) _).alloc (by simp) _⟩

set_option maxHeartbeats 2000000 in
/-- What Back comes to, by what 'with' comes to. -/
theorem l_Back_via (w : World) (pv : Option Addr) (i : Int) (g : Nat) (Q : Ending → World → Prop)
    (h : ∀ W, Below w.heap.size w W → W.heap[w.heap.size]? = some (.cells #[.pointer pv] 23 (0, 0)) → W.heap[w.heap.size + 1]? = some (.cells #[.int .i64 i, .int .u32 (g : Int)] 29 (0, 0)) →
      Calls Try.prog 17 #[.pointer pv, hV i g, .func (.func 19) #[] #[.pointer (some ⟨w.heap.size, 0, none⟩), .pointer (some ⟨w.heap.size + 1, 0, none⟩)]] W fun e w' => ∃ r, e = .returned (.int .i64 r) ∧ Q (.returned (.int .i64 r)) w') :
    Calls Try.prog 8 #[.pointer pv, hV i g] w Q := by
  have HH := Lib.hid h
  clear h
  unfold hV at HH ⊢
  go_enter Try.func8, Try.ntmps8
  go_upto_region 1 with (fail)
  obtain ⟨hP, hH, hB⟩ := boxed2 w (.pointer pv) i g
  obtain ⟨W, hW⟩ : ∃ W, W = (w.alloc (.cells #[.pointer pv] 23)).alloc (.cells #[.int .i64 i, .int .u32 (g : Int)] 29) := ⟨_, rfl⟩
  rw [← hW] at hP hH hB ⊢
  have p0 := blk_cell hP 0
  have h0 := blk_cell hH 0
  have h1 := blk_cell hH 1
  simp at p0 h0 h1
  have HP := Lib.hid hP
  have HHH := Lib.hid hH
  have HB := Lib.hid hB
  clear hW hP hH hB
  go_wp2_with fail
  refine (HH.out W HB.out HP.out HHH.out).mono ?_
  rintro e w' ⟨r, rfl, hq⟩
  have HQ := Lib.hid hq
  clear hq
  go_wp2
  exact HQ.out
theorem l_Back_nil (w : World) (i : Int) (g : Nat) : Calls Try.prog 8 #[.pointer none, hV i g] w fun e w' => e = .returned (.int .i64 2) ∧ Below w.heap.size w w' :=
  l_Back_via w none i g _ fun W hb _ _ => (with_nil W i g _).mono fun e w' ⟨he, hb'⟩ => ⟨2, he, rfl, hb.trans (Below.mono hb' hb.size)⟩
theorem l_Back_bad {w : World} {R gU cU gB gF cF : Nat} {s : QS} (h : LQ w R gU cU gB gF cF s) (i : Int) (g : Nat) (hi : InI i) (hg : g < 4294967296) (hgd : s.good i g = false) : Calls Try.prog 8 #[.pointer (some ⟨R, 0, none⟩), hV i g] w fun e w' => e = .returned (.int .i64 15) ∧ Below w.heap.size w w' :=
  l_Back_via w _ i g _ fun W hb _ _ => (with_bad (h.grew hb) i g hi.1 hi.2 hg hgd _).mono fun e w' ⟨he, hb'⟩ => ⟨15, he, rfl, hb.trans (Below.mono hb' hb.size)⟩
theorem l_Back_good {w : World} {R gU cU gB gF cF : Nat} {s : QS} (h : LQ w R gU cU gB gF cF s) (k : Nat) (g : Nat) (hk : k < s.n) (hg : g < 4294967296) (hgd : s.good (k : Int) g = true) (hroom : s.N.length < s.n) : Calls Try.prog 8 #[.pointer (some ⟨R, 0, none⟩), hV k g] w fun e w' => e = .returned (.int .i64 0) ∧
    ∃ gF' cF', LQ w' R gU cU gB gF' cF' { s with L := s.L.set k false, N := k :: s.N } ∧ Only (FL R gU gB gF) w w' ∧ (gF' = gF ∨ w.heap.size ≤ gF') := by
  refine l_Back_via w _ k g _ fun W hb hP hH => ?_
  refine (with_good (h.grew hb) k g hk hg hgd _ (enters_of Try.func19 (by kernel_rfl) rfl) _ (fun r w' => Ending.returned (Value.int .i64 r) = .returned (.int .i64 0) ∧ ∃ gF' cF', LQ w' R gU cU gB gF' cF' { s with L := s.L.set k false, N := k :: s.N } ∧ Only (FL R gU gB gF) w w' ∧ (gF' = gF ∨ w.heap.size ≤ gF')) (fun W2 hb2 => ?_))
  refine (l_Back1 ((h.grew hb).grew hb2) k g hk hroom w.heap.size (w.heap.size + 1) ((hb2.block _ (Array.getElem?_eq_some_iff.1 hP).1).trans hP) ((hb2.block _ (Array.getElem?_eq_some_iff.1 hH).1).trans hH)).mono ?_
  rintro e w' ⟨rfl, gF', cF', h1, h2, h3⟩
  have hb3 := hb.trans (Below.mono hb2 hb.size)
  exact ⟨0, rfl, rfl, gF', cF', h1, (Only.of_grew hb3).trans h2 (fun x hx => .inl hx), h3.imp id (fun h => Nat.le_trans hb3.size h)⟩
end Go.Proofs.Ytmpaefndkobgnaa
