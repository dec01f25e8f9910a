/- Look, set, Keep. -/
import Derived.Test.YtelbgjnaceffeaaSqB
import Derived.Shelf.SlMaps.Clone
namespace Go.Proofs.Ytelbgjnaceffeaa
open Go.RowKit Go.Maps Go.WideMaps

set_option maxRecDepth 100000 in
set_option maxHeartbeats 4000000 in
theorem look_any {w : World} {R : Nat} {p : Option Nat} {l : List SE} (h : StQ w R p l) (c s : Nat) (hc : c < 4294967296) (hs : s < 4294967296) :
    Calls Try.prog 13 #[.pointer (some ⟨R, 0, none⟩), .int .u32 (c : Int), .int .u32 (s : Int)] w fun e W' => e = .returned (.tuple #[replyV (tellS l c s).1, .int .u8 ((tellS l c s).2 : Int)]) ∧ Below w.heap.size w W' := by
  obtain ⟨W0, hW0⟩ : ∃ W0, W0 = w.alloc (Obj.cells #[.int .u8 0, .string ⟨#[]⟩] 36) := ⟨_, rfl⟩
  obtain ⟨hb0, k0, s0⟩ := box_new hW0
  have h0 := h.below hb0
  have hm := h0.mp
  have HF := Lib.hid (find_any h0.map c s hc hs)
  obtain ⟨⟨⟨cd, tx⟩, r⟩, hr⟩ : ∃ x, x = tellS l c s := ⟨_, rfl⟩
  rw [← hr] at HF ⊢
  obtain ⟨g, hg⟩ : ∃ g, g = w.heap.size := ⟨_, rfl⟩
  rw [← hg] at k0
  have HB := Lib.hid (And.intro hb0 (And.intro k0 hg))
  dsimp only [replyV] at HF ⊢
  clear h h0 hb0 k0 s0 hr
  go_enter Try.func13, Try.ntmps13
  go_upto_region 1 with (fail)
  rw [← hW0, ← hg]
  clear hW0 hg
  go_wp2_with fail
  refine HF.out.mono ?_
  rintro e W1 ⟨rfl, hb1⟩
  have k1 := (hb1.block g (Array.getElem?_eq_some_iff.1 HB.out.2.1).1).trans HB.out.2.1
  have y0 : W1.cell? ⟨g, 0, none⟩ = some (.int .u8 0) := by simpa using blk_cell k1 0
  have y1 : W1.cell? ⟨g, 1, none⟩ = some (.string ⟨#[]⟩) := by simpa using blk_cell k1 1
  have u0 := blk_frozen k1 0
  have u1 := blk_frozen k1 1
  obtain ⟨W3, hW3⟩ : ∃ W3, W3 = (W1.setCell ⟨g, 0, none⟩ (.int .u8 (cd : Int))).setCell ⟨g, 1, none⟩ (.string tx) := ⟨_, rfl⟩
  obtain ⟨f1, f2, f3⟩ := find_fin (HB.out.1.trans (Below.mono hb1 HB.out.1.size)) k1 (by rw [HB.out.2.2]; exact Nat.le_refl _) cd tx rfl W3 hW3
  clear k1 hb1
  go_wp2
  rw [← hW3]
  exact bodyPost_ret (v := .tuple #[.agg #[.int .u8 (cd : Int), .string tx], .int .u8 (r : Int)]) (by simp [results, Try.results13, go_sem, f2, f3]) rfl ⟨rfl, f1⟩
set_option maxRecDepth 100000 in
set_option maxHeartbeats 4000000 in
theorem set_any {w : World} {R : Nat} {p : Option Nat} {l : List SE} (h : StQ w R p l) (hso : SortedE l) (hl : l.length ≤ 1000000) (e : SE) (hc : e.cl < 4294967296) (ht : e.tx.size ≤ maxLen) :
    Calls Try.prog 19 #[.pointer (some ⟨R, 0, none⟩), .int .u32 (e.cl : Int), sessV e] w fun x W' => x = .returned (.tuple #[]) ∧ Chg w W' R p (setS l e) := by
  obtain ⟨W0, hW0⟩ : ∃ W0, W0 = w.alloc (Obj.cells #[.int .u32 (e.sq : Int), .int .u8 (e.cd : Int), .string e.tx] 58) := ⟨_, rfl⟩
  obtain ⟨hb0, k0, s0⟩ := box_new hW0
  have h0 := h.below hb0
  have hm := h0.mp
  have hz := h0.fz
  have hq := fun w => run_eql_map_nil_sl (P := Try.prog) w 64 _ _ p Try.underlying64
  obtain ⟨g, hg⟩ : ∃ g, g = w.heap.size := ⟨_, rfl⟩
  rw [← hg] at k0 s0
  have hbl := h.blt
  have hRlt := h.lt
  cases p with
  | none =>
    obtain rfl : l = [] := h.map
    obtain ⟨W1, hW1⟩ : ∃ W1, W1 = (W0.alloc (.map #[] 0)).setCell ⟨R, 0, none⟩ (.map (some W0.heap.size)) := ⟨_, rfl⟩
    have hB : Below W0.heap.size W0 (W0.alloc (.map #[] 0)) := (Below.refl _ W0).alloc (Nat.le_refl _) _
    have hm1 : MapQ W1 W0.heap.size [] := by
      rw [hW1]
      exact (MapQ.new W0).keep (Below.heap_setCell _ _ _ _ (fun e => absurd (show W0.heap.size = R by simpa using e) (by have := h0.lt; omega)))
    have hc1 : W1.heap[R]? = some (.cells #[.map (some W0.heap.size)] 68 (0, 0)) := by
      rw [hW1]
      exact blk_set ((hB.block R h0.lt).trans h0.cell) 0 _
    have hg1 : W1.heap[g]? = some (.cells #[.int .u32 (e.sq : Int), .int .u8 (e.cd : Int), .string e.tx] 58 (0, 0)) := by
      rw [hW1]
      exact (Below.heap_setCell _ _ _ _ (fun e => absurd (show g = R by simpa using e) (by omega))).trans ((hB.block g (by omega)).trans k0)
    have ho1 : Only (fun x => x = R ∨ (none : Option Nat) = some x) w W1 := by
      rw [hW1]
      exact ((Only.of_grew hb0).grew hB).setCell (p := ⟨R, 0, none⟩) (.inl (.inl rfl)) _
    obtain ⟨W2, hrun, hm2, hg2'⟩ := (show MapQ W1.drew W0.heap.size [] from hm1.keep rfl).put SortedE.nil (by decide) hc ht
    have hg2 : W1.grownBy W2 (some W0.heap.size) := ⟨hg2'.os, hg2'.tape, hg2'.output, hg2'.size, hg2'.block⟩
    have hc1' : W1.cell? ⟨R, 0, none⟩ = some (.map (some W0.heap.size)) := by simpa using blk_cell hc1 0
    have x0 : W1.cell? ⟨g, 0, none⟩ = some (.int .u32 (e.sq : Int)) := by simpa using blk_cell hg1 0
    have x1 : W1.cell? ⟨g, 1, none⟩ = some (.int .u8 (e.cd : Int)) := by simpa using blk_cell hg1 1
    have x2 : W1.cell? ⟨g, 2, none⟩ = some (.string e.tx) := by simpa using blk_cell hg1 2
    have hz1 : (W0.alloc (.map #[] 0)).frozen? ⟨R, 0, none⟩ = false := blk_frozen ((hB.block R h0.lt).trans h0.cell) 0
    have hc0 : (W0.alloc (.map #[] 0)).cell? ⟨R, 0, none⟩ = some (.map none) := by simpa using blk_cell ((hB.block R h0.lt).trans h0.cell) 0
    have hfin : Chg w W2 R none (setS [] e) := by
      refine ⟨⟨some W0.heap.size, ⟨(hg2.block R (Array.getElem?_eq_some_iff.1 hc1).1 (fun e => by have := Option.some.inj e; have := h0.lt; omega)).trans hc1, hm2⟩, fun b e => .inr (by cases e; exact hb0.size)⟩, ho1.grown hg2 (fun j e => .inr (by cases e; exact hb0.size))⟩
    have HF := Lib.hid hfin
    have hmk := run_makeMap (P := Try.prog) 64 W0
    clear hm1 hm2 hg2 hg2' hc1 ho1 hB hfin hg1 k0 h0 hb0 h hbl hRlt
    obtain ⟨N, hN⟩ : ∃ N, N = W0.heap.size := ⟨_, rfl⟩
    have HN2 := Lib.hid (show w.heap.size + 1 = N by omega)
    rw [← hN] at hrun hc1' hW1 hmk
    unfold sessV at hrun ⊢
    obtain ⟨cl, sq, cd, tx⟩ := e
    dsimp only at hrun x0 x1 x2 hW0 ⊢
    go_enter Try.func19, Try.ntmps19
    go_upto_region 1 with (fail)
    rw [← hW0, ← hg]
    clear hW0
    go_upto_region 3 with (fail)
    rw [HN2.out, ← hW1]
    clear hg s0 hW1 hz hz1 hc0 hmk hN hm
    go_region
    go_end0
    exact ⟨rfl, HF.out⟩
  | some b =>
    have hblt := hbl b rfl
    obtain ⟨W2, hrun, hm2, hg2'⟩ := MapQ.put (show MapQ W0.drew b l from MapQ.keep (show MapQ W0 b l from h0.map) rfl) hso (by simp only [maxLen]; omega) hc ht
    have hg2 : W0.grownBy W2 (some b) := ⟨hg2'.os, hg2'.tape, hg2'.output, hg2'.size, hg2'.block⟩
    have hne := h.ne b rfl
    have HF : Hid (Chg w W2 R (some b) (setS l e)) := Lib.hid ⟨⟨some b, ⟨(hg2.block R h0.lt (fun e => hne (Option.some.inj e))).trans h0.cell, hm2⟩, fun _ e => .inl e⟩, (Only.of_grew hb0).grown hg2 (fun j e => .inl (.inr e))⟩
    have x0 : W0.cell? ⟨g, 0, none⟩ = some (.int .u32 (e.sq : Int)) := by simpa using blk_cell k0 0
    have x1 : W0.cell? ⟨g, 1, none⟩ = some (.int .u8 (e.cd : Int)) := by simpa using blk_cell k0 1
    have x2 : W0.cell? ⟨g, 2, none⟩ = some (.string e.tx) := by simpa using blk_cell k0 2
    clear hm2 hg2 hg2' h h0 hb0 k0 hbl hRlt hblt hne hso
    unfold sessV at hrun ⊢
    obtain ⟨cl, sq, cd, tx⟩ := e
    dsimp only at hrun x0 x1 x2 hW0 ⊢
    go_enter Try.func19, Try.ntmps19
    go_upto_region 1 with (fail)
    rw [← hW0, ← hg]
    clear hW0 hg s0
    go_upto_region 3 with (fail)
    go_region
    go_end0
    exact ⟨rfl, HF.out⟩
/-- Keep: the client's entry is set if the command is fresh and the client is not 0. -/
theorem keepS_set {l : List SE} {c s cd : Nat} {tx : ByteArray} (h0 : c ≠ 0) (h : (tellS l c s).2 = 0) : keepS l c s cd tx = setS l ⟨c, s, cd, tx⟩ := if_pos ⟨h0, h⟩
theorem keepS_no {l : List SE} {c s cd : Nat} {tx : ByteArray} (h : c = 0 ∨ (tellS l c s).2 ≠ 0) : keepS l c s cd tx = l := if_neg (fun h' => by
  rcases h with h | h
  · exact h'.1 h
  · exact h h'.2)
set_option maxRecDepth 100000 in
set_option maxHeartbeats 4000000 in
theorem keep_any {w : World} {R : Nat} {p : Option Nat} {l : List SE} (h : StQ w R p l) (hso : SortedE l) (hl : l.length ≤ 1000000) (c s cd : Nat) (tx : ByteArray) (hc : c < 4294967296) (hs : s < 4294967296) (ht : tx.size ≤ maxLen) :
    Calls Try.prog 12 #[.pointer (some ⟨R, 0, none⟩), .int .u32 (c : Int), .int .u32 (s : Int), replyV (cd, tx)] w fun x W' => x = .returned (.tuple #[]) ∧ Chg w W' R p (keepS l c s cd tx) := by
  obtain ⟨W0, hW0⟩ : ∃ W0, W0 = w.alloc (Obj.cells #[.int .u8 (cd : Int), .string tx] 36) := ⟨_, rfl⟩
  obtain ⟨hb0, k0, s0⟩ := box_new hW0
  have h0 := h.below hb0
  have hm := h0.mp
  have HF := Lib.hid (find_any h0.map c s hc hs)
  obtain ⟨⟨⟨cd1, tx1⟩, r⟩, hr⟩ : ∃ x, x = tellS l c s := ⟨_, rfl⟩
  rw [← hr] at HF
  obtain ⟨g, hg⟩ : ∃ g, g = w.heap.size := ⟨_, rfl⟩
  rw [← hg] at k0 s0
  have HB := Lib.hid (And.intro hb0 (And.intro k0 (And.intro hg (And.intro hr (And.intro h (And.intro hso hl))))))
  have HH := Lib.hid h0
  dsimp only [replyV] at HF ⊢
  clear h h0 hb0 k0 s0 hr hso hl
  go_enter Try.func12, Try.ntmps12
  go_upto_region 1 with (fail)
  rw [← hW0, ← hg]
  clear hW0 hg
  by_cases hc0 : c = 0
  · subst hc0
    go_wp2
    go_returns
    obtain ⟨b0, _, _, _, b4, _⟩ := HB.out
    exact ⟨rfl, by rw [keepS_no (.inl rfl)]; exact Chg.same b4 b0⟩
  · have hci : ¬ (c : Int) = 0 := by omega
    have HC := Lib.hid hc0
    clear hc0
    go_wp2_with fail
    refine HF.out.mono ?_
    rintro e W1 ⟨rfl, hb1⟩
    have h1 := HH.out.below hb1
    have hbw := HB.out.1.trans (Below.mono hb1 HB.out.1.size)
    have k1 := (hb1.block g (Array.getElem?_eq_some_iff.1 HB.out.2.1).1).trans HB.out.2.1
    obtain ⟨W2, hW2⟩ : ∃ W2, W2 = W1.alloc (Obj.cells #[.int .u8 (cd1 : Int), .string tx1] 36) := ⟨_, rfl⟩
    obtain ⟨hb2, _, _⟩ := box_new hW2
    have h2 := h1.below hb2
    have hbw2 := hbw.trans (Below.mono hb2 hbw.size)
    have k2 := (hb2.block g (Array.getElem?_eq_some_iff.1 k1).1).trans k1
    have x0 : W2.cell? ⟨g, 0, none⟩ = some (.int .u8 (cd : Int)) := by simpa using blk_cell k2 0
    have x1 : W2.cell? ⟨g, 1, none⟩ = some (.string tx) := by simpa using blk_cell k2 1
    have HS := Lib.hid (set_any h2 HB.out.2.2.2.2.2.1 HB.out.2.2.2.2.2.2 ⟨c, s, cd, tx⟩ hc ht)
    have HW := Lib.hid hbw2
    have hRw := HB.out.2.2.2.2.1.lt
    clear h1 hbw k1 hb2 h2 hbw2 k2 hb1 HF
    dsimp only [sessV] at HS
    go_upto_region 3 with (fail)
    rw [← hW2]
    clear hW2
    by_cases hr0 : r = 0
    · subst hr0
      go_wp2_with fail
      refine HS.out.mono ?_
      rintro e W3 ⟨rfl, hch⟩
      have HCH := Lib.hid hch
      clear hch
      go_wp2
      go_end0
      refine ⟨rfl, ?_⟩
      rw [keepS_set HC.out (by rw [← HB.out.2.2.2.1])]
      exact Chg.trans (fun b e => .inl e) (Only.of_grew HW.out) HCH.out
    · have hri : ¬ (r : Int) = 0 := by omega
      have HR := Lib.hid hr0
      clear hr0
      go_wp2
      go_returns
      refine ⟨rfl, ?_⟩
      rw [keepS_no (.inr (by rw [← HB.out.2.2.2.1]; exact HR.out))]
      exact Chg.same HB.out.2.2.2.2.1 HW.out
end Go.Proofs.Ytelbgjnaceffeaa
