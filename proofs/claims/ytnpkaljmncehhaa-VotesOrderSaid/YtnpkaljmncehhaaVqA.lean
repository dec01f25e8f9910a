/- The landed votes: rows of runs, the tests of a run, a run that is widened, whether there is a replica, a majority. -/
import Derived.Test.YtnpkaljmncehhaaVoSup
import Derived.Test.YtnpkaljmncehhaaVoSo
import Derived.LoopTactic
import Derived.Deep.DeepCutAuto
import Derived.Deep.CutBlock
import Derived.ProofKit
import Derived.Handy
namespace Go.Proofs.Ytnpkaljmncehhaa
open Go.RowKit

/-- A row of runs that is owned. -/
def OwnR (w : World) (v : Value) (l : List (Nat × Nat)) : Prop := w.ownsRow 0 64 2 v l.length (cellsS2 l)
section
variable {w w' : World} {v : Value} {l : List (Nat × Nat)}
theorem OwnR.form (h : OwnR w v l) : ∃ A c, v = .slice A l.length c := by
  rcases h.2 with ⟨rfl, h0⟩ | ⟨g, cap, cur, rfl, _⟩
  · exact ⟨none, 0, by rw [h0]⟩
  · exact ⟨_, _, rfl⟩
theorem OwnR.nil (w : World) : OwnR w (.slice none 0 0) [] := World.ownsRow_nil w 0 _ 2
/-- Where there is something the row has a place. -/
theorem OwnR.at (h : OwnR w v l) (hl : l ≠ []) : ∃ g c cur, v = .slice (some ⟨g, 0, none⟩) l.length c ∧ l.length ≤ c ∧ w.heap[g]? = some (.cells cur 64 (0, 0)) ∧ cur.size = c * 2 ∧ cur.toList.take (l.length * 2) = cellsS2 l := by
  have hl' : 0 < l.length := List.length_pos_iff.2 hl
  rcases h.2 with ⟨e, h0⟩ | ⟨g, cap, cur, e, _, hg, hn, _, hs, ht⟩
  · omega
  · exact ⟨g, cap, cur, e, hn, hg, hs, ht⟩
theorem OwnR.cells {g c n : Nat} (h : OwnR w (.slice (some ⟨g, 0, none⟩) n c) l) (j : Nat) (hj : j < l.length) : w.cell? ⟨g, j * 2, none⟩ = some (.int .u64 (l[j].1 : Int)) ∧ w.cell? ⟨g, j * 2 + 1, none⟩ = some (.int .u64 (l[j].2 : Int)) := by
  have c0 := World.ownsRow.cells h (g := g) rfl (j * 2) _ (cellsS2_get hj).1
  have c1 := World.ownsRow.cells h (g := g) rfl (j * 2 + 1) _ (cellsS2_get hj).2
  rw [addr_add, Nat.zero_add] at c0 c1
  exact ⟨c0, c1⟩
theorem OwnR.lt (h : OwnR w v l) : ∀ k, v.ownBlock = some k → k < w.heap.size := fun k e => by
  rcases h.2 with ⟨rfl, _⟩ | ⟨g, cap, cur, rfl, _, hg, _⟩
  · cases e
  · cases e; exact (Array.getElem?_eq_some_iff.1 hg).1
theorem OwnR.same (h : OwnR w v l) (hk : ∀ k, v.ownBlock = some k → w'.heap[k]? = w.heap[k]?) : OwnR w' v l := by
  refine ⟨h.1, ?_⟩
  rcases h.2 with h2 | ⟨g, cap, cur, e, b, r, q⟩
  · exact .inl h2
  · subst e
    exact .inr ⟨g, _, cur, rfl, b, (hk g rfl).trans r, q⟩
theorem OwnR.grew (h : OwnR w v l) (hb : Below w.heap.size w w') : OwnR w' v l := h.same fun k e => hb.block k (h.lt k e)
theorem OwnR.only {F : Nat → Prop} (h : OwnR w v l) (ho : Only F w w') (hF : ∀ k, v.ownBlock = some k → ¬ F k) : OwnR w' v l := h.same fun k e => ho.block k (h.lt k e) (hF k e)
/-- A row's block is of the runs' type. -/
theorem OwnR.type (h : OwnR w v l) : ∀ k, v.ownBlock = some k → ∃ cur, w.heap[k]? = some (.cells cur 64 (0, 0)) := fun k e => by
  rcases h.2 with ⟨rfl, _⟩ | ⟨g, cap, cur, rfl, _, hg, _⟩
  · cases e
  · cases e; exact ⟨cur, hg⟩
end
theorem infoR : (Try.prog.info? 64).map (fun i => (i.zero, i.size, i.bytes)) = some (some (.agg #[.int .u64 0, .int .u64 0]), 2, 16) := by kernel_rfl
theorem infoR_parts : ∃ i, Try.prog.info? 64 = some i ∧ i.zero = some (.agg #[.int .u64 0, .int .u64 0]) ∧ i.size = 2 ∧ i.bytes = 16 := by
  have h := infoR
  cases hi : Try.prog.info? 64 with
  | none => rw [hi] at h; cases h
  | some i => rw [hi] at h; simp at h; exact ⟨i, rfl, h.1, h.2.1, h.2.2⟩
/-- A box of a run. -/
theorem boxR {w W : World} {a b : Nat} (h : W = w.alloc (.cells #[.int .u64 (a : Int), .int .u64 (b : Int)] 64)) : Below w.heap.size w W ∧ W.heap[w.heap.size]? = some (.cells #[.int .u64 (a : Int), .int .u64 (b : Int)] 64 (0, 0)) ∧ W.heap.size = w.heap.size + 1 := by
  subst h
  exact ⟨(Below.refl _ w).alloc (Nat.le_refl _) _, World.alloc_heap_new w _, World.size_alloc w _⟩
/-- Whether a run's last number is above one. -/
theorem above1_any (q n x y : Nat) (w : World) (hq : w.cell? ⟨q, 0, none⟩ = some (.int .u64 (n : Int))) (hl : q < w.heap.size) : Calls Try.prog 39 #[.agg #[.int .u64 (x : Int), .int .u64 (y : Int)], .pointer (some ⟨q, 0, none⟩)] w fun e W' => e = .returned (.bool (decide (n < y))) ∧ Below w.heap.size w W' := by
  go_enter Try.func39, Try.ntmps39
  go_upto_region 1 with (fail)
  obtain ⟨W0, hW0⟩ : ∃ W0, W0 = w.alloc (.cells #[.int .u64 (x : Int), .int .u64 (y : Int)] 64) := ⟨_, rfl⟩
  rw [← hW0]
  obtain ⟨b0, k0, s0⟩ := boxR hW0
  have c1 := blk_cell k0 1
  have cq := (b0.cell (p := ⟨q, 0, none⟩) hl).trans hq
  have HB := Lib.hid b0
  obtain ⟨p, hp⟩ : ∃ p, p = w.heap.size := ⟨_, rfl⟩
  rw [← hp] at c1 ⊢
  have hpl : p < W0.heap.size := by omega
  clear hW0 b0 k0 s0 hp hq
  go_wp2
  go_ret
  exact ⟨by simp, HB.out⟩
set_option maxRecDepth 100000 in
theorem maj_any (n : Nat) (w : World) (hn : n ≤ 1000) : Calls Try.prog 16 #[.int .i64 (n : Int)] w fun e W' => e = .returned (.int .i64 ((n / 2 + 1 : Nat) : Int)) ∧ W' = w := by
  go_enter Try.func16, Try.ntmps16
  go_wp2
  go_ret
  exact ⟨ret_int (by omega), rfl⟩
end Go.Proofs.Ytnpkaljmncehhaa
