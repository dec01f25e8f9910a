/- A run is widened by another one. -/
import Derived.Test.YtnpkaljmncehhaaVqA
namespace Go.Proofs.Ytnpkaljmncehhaa
open Go.RowKit

set_option maxRecDepth 100000 in
set_option maxHeartbeats 4000000 in
theorem merge_any (g a b x y : Nat) (w : World) (cur : Array Value) (T : TypeId) (hg : w.heap[g]? = some (.cells cur T (0, 0))) (h0 : cur[0]? = some (.int .u64 (a : Int))) (h1 : cur[1]? = some (.int .u64 (b : Int))) :
    Calls Try.prog 36 #[.pointer (some ⟨g, 0, none⟩), .agg #[.int .u64 (x : Int), .int .u64 (y : Int)]] w fun e W' => e = .returned (.tuple #[]) ∧ Only (fun k => k = g) w W' ∧ W'.heap[g]? = some (.cells ((cur.setIfInBounds 0 (.int .u64 ((min a x : Nat) : Int))).setIfInBounds 1 (.int .u64 ((max b y : Nat) : Int))) T (0, 0)) := by
  obtain ⟨m, hm⟩ : ∃ m, m = min a x := ⟨_, rfl⟩
  obtain ⟨M, hM⟩ : ∃ M, M = max b y := ⟨_, rfl⟩
  rw [← hm, ← hM]
  go_enter Try.func36, Try.ntmps36
  go_upto_region 1 with (fail)
  obtain ⟨W0, hW0⟩ : ∃ W0, W0 = w.alloc (.cells #[.int .u64 (x : Int), .int .u64 (y : Int)] 64) := ⟨_, rfl⟩
  rw [← hW0]
  obtain ⟨b0, k0, s0⟩ := boxR hW0
  have hgl := (Array.getElem?_eq_some_iff.1 hg).1
  have cg := (b0.block _ hgl).trans hg
  have c0 := blk_cell k0 0
  have c1 := blk_cell k0 1
  have d0 := (blk_cell cg 0).trans h0
  have d1 := (blk_cell cg 1).trans h1
  have f0 := blk_frozen cg 0
  have f1 := blk_frozen cg 1
  obtain ⟨p, hp⟩ : ∃ p, p = w.heap.size := ⟨_, rfl⟩
  rw [← hp] at c0 c1 ⊢
  have hpg : p ≠ g := by omega
  have hgp : g ≠ p := by omega
  have HB := Lib.hid b0
  have CG := Lib.hid cg
  have e1 : min (a : Int) (x : Int) = (m : Int) := by omega
  have e2 : max (b : Int) (y : Int) = (M : Int) := by omega
  clear hW0 b0 k0 s0 hp hg h0 h1 cg hm hM
  go_region
  go_end0
  refine ⟨rfl, Only.drew (Only.setCell (F := fun k => k = g) (p := ⟨g, 1, none⟩) (Only.setCell (p := ⟨g, 0, none⟩) (Only.of_grew (F := fun k => k = g) HB.out) (.inl rfl) _) (.inl rfl) _), ?_⟩
  exact blk_set (blk_set CG.out _ _) _ _
end Go.Proofs.Ytnpkaljmncehhaa
