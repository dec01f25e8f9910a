/- The package's small functions: New, all, Len, find, set; Look and Keep. -/
import Derived.Test.YtelbgjnaceffeaaSqA
import Derived.Deep.DeepCutAuto
import Derived.Laws.StructEq
namespace Go.Proofs.Ytelbgjnaceffeaa
open Go.RowKit Go.Maps Go.WideMaps

theorem all_any {w : World} {R : Nat} {p : Option Nat} {l : List SE} (h : StQ w R p l) : Calls Try.prog 26 #[.pointer (some ⟨R, 0, none⟩)] w fun e W' => e = .returned (.map p) ∧ W' = w := by
  have hm := h.mp
  go_enter Try.func26, Try.ntmps26
  go_wp2
  go_ret
  exact ⟨rfl, rfl⟩
theorem new_any (w : World) : Calls Try.prog 11 #[] w fun e W' => e = .returned (.pointer (some ⟨w.heap.size, 0, none⟩)) ∧ W' = w.alloc (.cells #[.map none] 68) := by
  go_enter Try.func11, Try.ntmps11
  go_wp2
  go_ret
  exact ⟨rfl, rfl⟩
theorem len_any {w : World} {R : Nat} {p : Option Nat} {l : List SE} (h : StQ w R p l) : Calls Try.prog 14 #[.pointer (some ⟨R, 0, none⟩)] w fun e W' => e = .returned (.int .i64 (l.length : Int)) ∧ W' = w := by
  have HA := Lib.hid (all_any h)
  have hl := fun ty => h.map.len ty
  obtain ⟨L, hL⟩ : ∃ L, L = l.length := ⟨_, rfl⟩
  rw [← hL] at hl ⊢
  clear h hL
  go_enter Try.func14, Try.ntmps14
  go_wp2_with fail
  refine HA.out.mono ?_
  rintro e W ⟨rfl, rfl⟩
  go_wp2
  go_ret
  exact ⟨rfl, rfl⟩
/-- A reply's cells in a new block. -/
theorem box_new {w W0 : World} {cs : Array Value} {t : TypeId} (h : W0 = w.alloc (.cells cs t)) : Below w.heap.size w W0 ∧ W0.heap[w.heap.size]? = some (.cells cs t (0, 0)) ∧ W0.heap.size = w.heap.size + 1 := by
  subst h
  exact ⟨(Below.refl _ w).alloc (Nat.le_refl _) _, World.alloc_heap_new w _, Array.size_push _⟩
theorem find_fin {w W : World} {g : Nat} {cs : Array Value} (hb : Below w.heap.size w W) (k : W.heap[g]? = some (.cells cs 36 (0, 0))) (hg : w.heap.size ≤ g) (cd : Nat) (tx : ByteArray) (hcs : cs.size = 2) (V : World) (hV : V = (W.setCell ⟨g, 0, none⟩ (.int .u8 (cd : Int))).setCell ⟨g, 1, none⟩ (.string tx)) :
    Below w.heap.size w V ∧ V.cell? ⟨g, 0, none⟩ = some (.int .u8 (cd : Int)) ∧ V.cell? ⟨g, 1, none⟩ = some (.string tx) := by
  subst hV
  have k3 := blk_set (blk_set k 0 (.int .u8 (cd : Int))) 1 (.string tx)
  refine ⟨(hb.setCell (p := ⟨g, 0, none⟩) hg _).setCell (p := ⟨g, 1, none⟩) hg _, ?_, ?_⟩
  · simpa [hcs] using blk_cell k3 0
  · simpa [hcs] using blk_cell k3 1
set_option maxRecDepth 100000 in
set_option maxHeartbeats 4000000 in
theorem find_any {w : World} {p : Option Nat} {l : List SE} (h : MapO w p l) (c s : Nat) (hc : c < 4294967296) (hs : s < 4294967296) :
    Calls Try.prog 25 #[.agg #[.map p], .int .u32 (c : Int), .int .u32 (s : Int)] w fun e W' => e = .returned (.tuple #[replyV (tellS l c s).1, .int .u8 ((tellS l c s).2 : Int)]) ∧ Below w.heap.size w W' := by
  have HM := Lib.hid h
  clear h
  go_enter Try.func25, Try.ntmps25
  go_upto_region 1 with (fail)
  obtain ⟨W0, hW0⟩ : ∃ W0, W0 = w.alloc (Obj.cells #[.map p] 66) := ⟨_, rfl⟩
  rw [← hW0]
  obtain ⟨W1, hW1⟩ : ∃ W1, W1 = W0.alloc (Obj.cells #[.int .u8 0, .string ⟨#[]⟩] 36) := ⟨_, rfl⟩
  rw [← hW1]
  obtain ⟨hb0, k0, s0⟩ := box_new hW0
  obtain ⟨hb1, k1, s1⟩ := box_new hW1
  have hb := hb0.trans (Below.mono hb1 hb0.size)
  have k0' := (hb1.block _ (by omega)).trans k0
  have hrun := (HM.out.below hb).look hc
  obtain ⟨v, hv⟩ : ∃ v, v = valS l c := ⟨_, rfl⟩
  obtain ⟨is, his⟩ : ∃ b, b = (lookS l c).isSome := ⟨_, rfl⟩
  rw [← hv, ← his] at hrun
  obtain ⟨q, hq⟩ : ∃ q, q = w.heap.size := ⟨_, rfl⟩
  rw [← hq] at k0' s0 ⊢
  rw [s0] at k1
  obtain ⟨g, hg⟩ : ∃ g, g = q + 1 := ⟨_, rfl⟩
  rw [← hg] at k1 ⊢
  have c0 : W1.cell? ⟨q, 0, none⟩ = some (.map p) := by simpa using blk_cell k0' 0
  have HB := Lib.hid (And.intro hb (And.intro k1 (And.intro hg (And.intro (show W1.heap.size = q + 2 by omega) (And.intro hq (And.intro hv his))))))
  unfold sessV at hrun
  obtain ⟨cl, sq, cd, tx⟩ := v
  dsimp only at hrun
  clear hb hb0 hb1 k0 k0' k1 hq hg s0 s1 hv his
  clear hW0 hW1
  go_upto_region 2 with (fail)
  obtain ⟨W2, hW2⟩ : ∃ W2, W2 = W1.alloc (Obj.cells #[.int .u32 (sq : Int), .int .u8 (cd : Int), .string tx] 58) := ⟨_, rfl⟩
  rw [← hW2]
  obtain ⟨hb2, k2, s2⟩ := box_new hW2
  have kg : W2.heap[g]? = some (.cells #[.int .u8 0, .string ⟨#[]⟩] 36 (0, 0)) := (hb2.block g (Array.getElem?_eq_some_iff.1 HB.out.2.1).1).trans HB.out.2.1
  have hgw : w.heap.size ≤ g := by have := HB.out.2.2.1; have := HB.out.2.2.2.2.1; omega
  obtain ⟨x, hx⟩ : ∃ x, x = W1.heap.size := ⟨_, rfl⟩
  rw [← hx] at k2 ⊢
  have x0 : W2.cell? ⟨x, 0, none⟩ = some (.int .u32 (sq : Int)) := by simpa using blk_cell k2 0
  have x1 : W2.cell? ⟨x, 1, none⟩ = some (.int .u8 (cd : Int)) := by simpa using blk_cell k2 1
  have x2 : W2.cell? ⟨x, 2, none⟩ = some (.string tx) := by simpa using blk_cell k2 2
  have y0 : W2.cell? ⟨g, 0, none⟩ = some (.int .u8 0) := by simpa using blk_cell kg 0
  have y1 : W2.cell? ⟨g, 1, none⟩ = some (.string ⟨#[]⟩) := by simpa using blk_cell kg 1
  have u0 := blk_frozen kg 0
  have u1 := blk_frozen kg 1
  have HF := Lib.hid (find_fin (HB.out.1.trans (Below.mono hb2 HB.out.1.size)) kg hgw)
  have HV := Lib.hid HB.out.2.2.2.2.2
  clear hb2 k2 s2 kg hgw hx HB c0 hrun hW2
  cases is with
  | false =>
    have ht : tellS l c s = ((0, ⟨#[]⟩), 0) := by
      have h2 := HV.out.2
      unfold tellS
      cases hl : lookS l c with
      | none => rfl
      | some e => rw [hl] at h2; cases h2
    obtain ⟨W3, hW3⟩ : ∃ W3, W3 = (W2.setCell ⟨g, 0, none⟩ (.int .u8 0)).setCell ⟨g, 1, none⟩ (.string ⟨#[]⟩) := ⟨_, rfl⟩
    obtain ⟨f1, f2', f3⟩ := HF.out 0 ⟨#[]⟩ rfl W3 hW3
    have f2 : W3.cell? ⟨g, 0, none⟩ = some (.int .u8 0) := f2'
    clear f2'
    have HTT := Lib.hid ht
    clear ht
    go_wp2
    rw [← hW3]
    exact bodyPost_ret (v := .tuple #[.agg #[.int .u8 0, .string ⟨#[]⟩], .int .u8 0]) (by simp [results, Try.results25, go_sem, f2, f3]) rfl ⟨by rw [HTT.out]; rfl, f1⟩
  | true =>
    obtain ⟨e0, hl⟩ : ∃ e, lookS l c = some e := by
      have h2 := HV.out.2
      cases hl : lookS l c with
      | none => rw [hl] at h2; cases h2
      | some e => exact ⟨e, rfl⟩
    have he0 : e0 = ⟨cl, sq, cd, tx⟩ := by
      have h1 := HV.out.1
      rw [valS, hl] at h1
      exact h1.symm
    subst he0
    have HL := Lib.hid hl
    clear hl
    by_cases hlt : sq < s
    · have hi : (sq : Int) < (s : Int) := by omega
      have ht : tellS l c s = ((0, ⟨#[]⟩), 0) := by
        unfold tellS
        rw [HL.out]
        exact if_pos hlt
      obtain ⟨W3, hW3⟩ : ∃ W3, W3 = (W2.setCell ⟨g, 0, none⟩ (.int .u8 0)).setCell ⟨g, 1, none⟩ (.string ⟨#[]⟩) := ⟨_, rfl⟩
      obtain ⟨f1, f2', f3⟩ := HF.out 0 ⟨#[]⟩ rfl W3 hW3
      have f2 : W3.cell? ⟨g, 0, none⟩ = some (.int .u8 0) := f2'
      clear f2'
      have HTT := Lib.hid ht
      clear ht
      go_wp2
      rw [← hW3]
      exact bodyPost_ret (v := .tuple #[.agg #[.int .u8 0, .string ⟨#[]⟩], .int .u8 0]) (by simp [results, Try.results25, go_sem, f2, f3]) rfl ⟨by rw [HTT.out]; rfl, f1⟩
    · have hi : ¬ (sq : Int) < (s : Int) := by omega
      by_cases he : sq = s
      · subst he
        have ht : tellS l c sq = ((cd, tx), 1) := by
          unfold tellS
          rw [HL.out]
          simp
        obtain ⟨W3, hW3⟩ : ∃ W3, W3 = (W2.setCell ⟨g, 0, none⟩ (.int .u8 (cd : Int))).setCell ⟨g, 1, none⟩ (.string tx) := ⟨_, rfl⟩
        obtain ⟨f1, f2', f3⟩ := HF.out cd tx rfl W3 hW3
        have f2 : W3.cell? ⟨g, 0, none⟩ = some (.int .u8 (cd : Int)) := f2'
        clear f2'
        have HTT := Lib.hid ht
        clear ht
        go_wp2
        rw [← hW3]
        exact bodyPost_ret (v := .tuple #[.agg #[.int .u8 (cd : Int), .string tx], .int .u8 1]) (by simp [results, Try.results25, go_sem, f2, f3]) rfl ⟨by rw [HTT.out]; rfl, f1⟩
      · have hne : ¬ (s : Int) = (sq : Int) := by omega
        have hneb : ((s : Int) == (sq : Int)) = false := by simpa using hne
        have ht : tellS l c s = ((3, ⟨#[]⟩), 2) := by
          unfold tellS
          rw [HL.out]
          dsimp only
          rw [if_neg hlt, if_neg he]
        obtain ⟨W3, hW3⟩ : ∃ W3, W3 = (W2.setCell ⟨g, 0, none⟩ (.int .u8 3)).setCell ⟨g, 1, none⟩ (.string ⟨#[]⟩) := ⟨_, rfl⟩
        obtain ⟨f1, f2', f3⟩ := HF.out 3 ⟨#[]⟩ rfl W3 hW3
        have f2 : W3.cell? ⟨g, 0, none⟩ = some (.int .u8 3) := f2'
        clear f2'
        have HTT := Lib.hid ht
        clear ht
        go_wp2
        rw [← hW3]
        exact bodyPost_ret (v := .tuple #[.agg #[.int .u8 3, .string ⟨#[]⟩], .int .u8 2]) (by simp [results, Try.results25, go_sem, f2, f3]) rfl ⟨by rw [HTT.out]; rfl, f1⟩
end Go.Proofs.Ytelbgjnaceffeaa
