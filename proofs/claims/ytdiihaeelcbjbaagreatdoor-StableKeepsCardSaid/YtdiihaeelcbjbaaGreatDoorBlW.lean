/- Ballots as they lie: values, rows, what came in; the two comparisons, a load. -/
import Derived.Test.YtdiihaeelcbjbaaGreatDoorMBase
import Derived.Test.YtdiihaeelcbjbaaGreatDoorBlM
import Derived.Laws.StructEq
import Derived.Deep.Slices
import Derived.ProofKit
import Derived.SizedLaws
namespace Go.Proofs.YtdiihaeelcbjbaaGreatDoor
open Go.ChangeShapes Go.WideShapes Go.ChangeAt Go.RowKit Go.ChangeMaps

/-- Its two cells. -/
def BA.cells (a : BA) : List Value := [.int .u64 (a.n : Int), .int .i64 a.r]
/-- Ballots that lie in a row. -/
def HasBA (w : World) (A : Option Addr) (l : List BA) : Prop := l ≠ [] → ∃ b o, A = some ⟨b, o, none⟩ ∧ b < w.heap.size ∧ ∀ j (h : j < l.length), l[j].ok ∧ w.cell? ⟨b, o + j * 2, none⟩ = some (.int .u64 (l[j].n : Int)) ∧ w.cell? ⟨b, o + j * 2 + 1, none⟩ = some (.int .i64 l[j].r)
theorem HasBA.below {w W : World} {A : Option Addr} {l : List BA} (h : HasBA w A l) (hb : Below w.heap.size w W) : HasBA W A l := fun hl => by
  obtain ⟨b, o, e, h1, h2⟩ := h hl
  refine ⟨b, o, e, Nat.lt_of_lt_of_le h1 hb.size, fun j hj => ?_⟩
  have k : ∀ i, W.cell? ⟨b, i, none⟩ = w.cell? ⟨b, i, none⟩ := fun i => hb.cell (p := ⟨b, i, none⟩) h1
  rw [k, k]
  exact h2 j hj
theorem HasBA.nil (w : World) (A : Option Addr) : HasBA w A [] := fun h => absurd rfl h
theorem HasBA.okAll {w : World} {A : Option Addr} {l : List BA} (h : HasBA w A l) : ∀ x ∈ l, x.ok := fun x hx => by
  obtain ⟨b, o, _, _, h2⟩ := h (List.ne_nil_of_mem hx)
  obtain ⟨j, hj, rfl⟩ := List.getElem_of_mem hx
  exact (h2 j hj).1
theorem flat_two {l : List BA} {j : Nat} (h : j < l.length) : (l.flatMap BA.cells)[j * 2]? = some (.int .u64 (l[j].n : Int)) ∧ (l.flatMap BA.cells)[j * 2 + 1]? = some (.int .i64 l[j].r) := by
  induction l generalizing j with
  | nil => simp at h
  | cons a l ih =>
    cases j with
    | zero => exact ⟨rfl, rfl⟩
    | succ j =>
      have := ih (j := j) (by simpa using h)
      rw [show (j + 1) * 2 = j * 2 + 2 by omega]
      exact this
/-- A row in a block of its own. -/
theorem hasBA_blk {w : World} {p : Nat} {l : List BA} {t : TypeId} (h : w.heap[p]? = some (.cells (l.flatMap BA.cells).toArray t (0, 0))) (hl : ∀ x ∈ l, x.ok) : HasBA w (some ⟨p, 0, none⟩) l := fun _ =>
  ⟨p, 0, rfl, (Array.getElem?_eq_some_iff.1 h).1, fun j hj => ⟨hl _ (List.getElem_mem hj), by
    rw [Nat.zero_add, blk_cell h]
    simpa using (flat_two hj).1, by
    rw [Nat.zero_add, blk_cell h]
    simpa using (flat_two hj).2⟩⟩
theorem ldBA (w : World) (b o : Nat) (x : Int) (y : Int) (h0 : w.cell? ⟨b, o, none⟩ = some (.int .u64 x)) (h1 : w.cell? ⟨b, o + 1, none⟩ = some (.int .i64 y)) : (Instr.loadAt 25 (.pointer (some ⟨b, o, none⟩))).run Tryz.prog w = .ok (.agg #[.int .u64 x, .int .i64 y]) w := by
  simp [go_sem, h0, h1]
theorem eqBA (w : World) (a b : BA) : (binOp .eql 25 (.agg #[.int .u64 (a.n : Int), .int .i64 a.r]) (.agg #[.int .u64 (b.n : Int), .int .i64 b.r])).run Tryz.prog w = .ok (.bool (decide (a = b))) w := by
  have e : decide (a = b) = (((a.n : Int) == (b.n : Int)) && (a.r == b.r)) := by
    by_cases h1 : a.n = b.n
    · by_cases h2 : a.r = b.r
      · have := BA.ext2 h1 h2
        subst this
        simp
      · have : ¬ a = b := fun e => h2 (by rw [e])
        simp [this, h2]
    · have : ¬ a = b := fun e => h1 (by rw [e])
      have h3 : ¬ (a.n : Int) = b.n := by omega
      simp [this, h3]
  rw [e]
  by_cases h1 : (a.n : Int) = b.n
  · by_cases h2 : a.r = b.r
    · simp [go_sem, h1, h2]
    · simp [go_sem, h1, h2]
  · simp [go_sem, h1]
theorem neBA (w : World) (a b : BA) : (binOp .neq 25 (.agg #[.int .u64 (a.n : Int), .int .i64 a.r]) (.agg #[.int .u64 (b.n : Int), .int .i64 b.r])).run Tryz.prog w = .ok (.bool (!decide (a = b))) w := by
  have e : decide (a = b) = (((a.n : Int) == (b.n : Int)) && (a.r == b.r)) := by
    by_cases h1 : a.n = b.n
    · by_cases h2 : a.r = b.r
      · have := BA.ext2 h1 h2
        subst this
        simp
      · have : ¬ a = b := fun e => h2 (by rw [e])
        simp [this, h2]
    · have : ¬ a = b := fun e => h1 (by rw [e])
      have h3 : ¬ (a.n : Int) = b.n := by omega
      simp [this, h3]
  rw [e]
  by_cases h1 : (a.n : Int) = b.n
  · by_cases h2 : a.r = b.r
    · simp [go_sem, h1, h2]
    · simp [go_sem, h1, h2]
  · simp [go_sem, h1]
/-- A ballot in a new block. -/
theorem boxBA {w W : World} {x y : Int} (h : W = w.alloc (.cells #[.int .u64 x, .int .i64 y] 25)) : Below w.heap.size w W ∧ W.heap[w.heap.size]? = some (.cells #[.int .u64 x, .int .i64 y] 25 (0, 0)) ∧ W.heap.size = w.heap.size + 1 := by
  subst h
  exact ⟨(Below.refl _ w).alloc (Nat.le_refl _) _, World.alloc_heap_new w _, Array.size_push _⟩
theorem cellsBA : Tryz.prog.cellsOf 25 = 2 := by kernel_rfl
theorem cellsB6 : Tryz.prog.cellsOf 23 = 1 := by kernel_rfl
theorem cellsBi : Tryz.prog.cellsOf 3 = 1 := by kernel_rfl
theorem bytesBl : Tryz.prog.bytesOf 25 = 16 := by kernel_rfl
section
variable {H : Type} {enc : TypeId × Value → H}
set_option maxRecDepth 20000 in
/-- A ballot within. -/
theorem open_ba1 {W : World} {n : Nat} {cs : List Value} {y : DataW H × List MemPlace} (h : DataW.trod enc Tryz.prog W 0 (fun _ => true) true n 25 cs = some y) :
    ∃ a : BA, a.ok ∧ cs = a.cells := by
  obtain ⟨xs, m, _, hy, hcl, hxl, hf⟩ := DataW.trod_struct Tryz.underlying25 h
  rw [cellsBA] at hcl
  match xs, hxl, cs, hcl with
  | [y0, y1], _, [v0, v1], _ =>
    have g0 := hf 0 _ rfl
    have g1 := hf 1 _ rfl
    simp [cellsB6, cellsBi] at g0 g1
    obtain ⟨n0, e0, _, w0⟩ := DataW.trod_int Tryz.underlying23 g0
    obtain ⟨n1, e1, _, w1⟩ := DataW.trod_int Tryz.underlying3 g1
    obtain ⟨k, rfl, hk⟩ := wf_u64 w0
    obtain ⟨h1, h2⟩ := wf_i64 w1
    simp at e0 e1
    subst e0 e1
    exact ⟨⟨k, n1⟩, ⟨hk, h1, h2⟩, rfl⟩
set_option maxRecDepth 20000 in
/-- A ballot that came in. -/
theorem open_ba {W : World} {v : Value} {d : DataW H} {p : List MemPlace} (h : DataW.Trod enc Tryz.prog W 0 (fun _ => true) true 25 v d p) :
    ∃ a : BA, a.ok ∧ v = .agg #[.int .u64 (a.n : Int), .int .i64 a.r] := by
  obtain ⟨fuel, hf⟩ := h
  obtain ⟨a, h1, hc⟩ := open_ba1 hf
  refine ⟨a, h1, ?_⟩
  have hs : v.cells.toList.length = 2 := by rw [hc]; rfl
  cases v with
  | agg cs =>
    have : cs.toList = [.int .u64 (a.n : Int), .int .i64 a.r] := hc
    rw [← Array.toList_inj.1 (show cs.toList = (#[.int .u64 (a.n : Int), .int .i64 a.r] : Array Value).toList from this)]
  | _ => simp [Value.cells] at hs
set_option maxRecDepth 20000 in
/-- A row of ballots that came in. -/
theorem open_bas {W : World} {base : Nat} {v : Value} {d : DataW H} {p : List MemPlace} (hval : Value.okWide Tryz.prog W .any base 172 v) (h : DataW.Trod enc Tryz.prog W 0 (fun _ => true) true 172 v d p) (hw : ∀ k ∈ d.weights Tryz.prog 172, k ≤ reachBytes) :
    ∃ A n c ls, v = .slice A n c ∧ n = List.length ls ∧ n ≤ c ∧ n ≤ 140737488351232 ∧ HasBA W A ls := by
  obtain ⟨a0, len, cap, rfl⟩ := okWide_slice Tryz.underlying172 hval
  obtain ⟨fuel, hf⟩ := h
  rcases Deep.open_slice Tryz.underlying172 hf with ⟨hcs, hx⟩ | ⟨a, len', cap', m, n, D, Pl, hcs, _, hl, hm, hmm, hdx, hall⟩
  · simp [Value.cells] at hcs
    obtain ⟨rfl, rfl, rfl⟩ := hcs
    exact ⟨none, 0, 0, [], rfl, rfl, Nat.le_refl _, Nat.zero_le _, fun h => absurd rfl h⟩
  · simp [Value.cells] at hcs
    obtain ⟨rfl, rfl, rfl⟩ := hcs
    simp only [if_true] at hmm
    have hd : d = .slice ((List.range len).map D) ((List.range (m - len)).map fun j => D (len + j)) := congrArg Prod.fst hdx
    have hlen2 : len ≤ 140737488351232 := by
      rw [hd] at hw
      have := hw _ (by simp only [DataW.weights, Tryz.underlying172]; exact List.mem_cons_self ..)
      rw [bytesBl] at this
      simp only [List.length_map, List.length_range, reachBytes] at this
      omega
    have each : ∀ i, i < len → ∃ x : BA, x.ok ∧ ∀ j u, x.cells[j]? = some u → W.cell? ((a.add (i * 2)).add j) = some u := by
      intro i hi
      obtain ⟨cs', h1, h2⟩ := hall i (by omega)
      rw [cellsBA] at h1
      obtain ⟨_, hlen, hcell⟩ := World.cells?_some h1
      obtain ⟨x, hx, hxc⟩ := open_ba1 h2
      refine ⟨x, hx, fun j u hj => ?_⟩
      have hj2 : j < 2 := (List.getElem?_eq_some_iff.1 hj).1
      rw [hcell j hj2, hxc]
      exact hj
    have : Inhabited BA := ⟨B0⟩
    obtain ⟨F, hF⟩ := Deep.choose_lt each
    refine ⟨_, len, cap, (List.range len).map F, rfl, by simp, hl, hlen2, fun hne => ?_⟩
    have hpos : 0 < len := by
      rcases Nat.eq_zero_or_pos len with h0 | h0
      · subst h0; simp at hne
      · exact h0
    have c00 := (hF 0 hpos).2 0 _ rfl
    obtain ⟨ab, ao, spot⟩ := a
    have hspot : spot = none := by simpa [Addr.add] using World.cell?_spot c00
    subst hspot
    refine ⟨ab, ao, rfl, ?_, fun j hj => ?_⟩
    · have := World.block_lt_of_cell? W _ c00
      rw [addr_add, addr_add] at this
      exact this
    · have hj' : j < len := by simpa using hj
      obtain ⟨hok, hc⟩ := hF j hj'
      have e : ((List.range len).map F)[j] = F j := by simp
      rw [e]
      have c0 := hc 0 _ rfl
      have c1 := hc 1 _ rfl
      rw [addr_add, addr_add] at c0 c1
      exact ⟨hok, c0, c1⟩
end
end Go.Proofs.YtdiihaeelcbjbaaGreatDoor
