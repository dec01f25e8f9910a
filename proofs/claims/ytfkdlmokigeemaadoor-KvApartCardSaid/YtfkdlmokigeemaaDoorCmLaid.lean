/- The program's table of how many keys a kind has, out of what the rows list it as. -/
import Derived.Test.YtfkdlmokigeemaaDoorMCqA
import Derived.Test.YtfkdlmokigeemaaDoorCards
import Derived.SevenTiedAt
import Derived.SizedLaws
import Derived.LaidMore
import Derived.LaidHandle
import Derived.OpenShut
import Derived.Lib.LaidTab
import Derived.Stop.Joined
namespace Go.Proofs.YtfkdlmokigeemaaDoor
open Go.ChangeShapes Go.WideShapes Go.ChangeAt Go.RowKit Go.ChangeMaps

abbrev cmdLaid : List (String × DataW Unit) := [("quorate/cmd.keysOf", Rows.laid_quorate_cmd_keysOf)]
def spans : List (Int × Int) := (List.range 9).map fun i => ((leastT i : Int), (mostT i : Int))
def pairD (p : Int × Int) : DataW Unit := .agg [.lit (.int .i64 p.1), .lit (.int .i64 p.2)]
theorem laid_spans : (Rows.laid_quorate_cmd_keysOf : DataW Unit) = .agg (spans.map pairD) := by kernel_rfl
theorem gKeys : Tryd.prog.globalNamed "quorate/cmd.keysOf" = some 0 := by kernel_rfl
theorem tKeys : (Tryd.prog.globals[(0 : Nat)]?).map (·.type) = some 76 := by kernel_rfl
theorem cellsSpans : Tryd.prog.cellsOf 76 = 18 := by kernel_rfl
theorem cellsSpan : Tryd.prog.cellsOf 75 = 2 := by kernel_rfl
theorem cellsInt : Tryd.prog.cellsOf 3 = 1 := by kernel_rfl

set_option maxRecDepth 100000 in
theorem span_cells {W : World} {m : Nat} {cs : List Value} {y : DataW Unit × List MemPlace} {p : Int × Int} (h : DataW.trod (fun _ => ()) Tryd.prog W 0 (fun _ => true) false m 75 cs = some y) (hy : y.1 = pairD p) : cs = [.int .i64 p.1, .int .i64 p.2] := by
  obtain ⟨xs, k, _, hx, hcl, hxl, hf⟩ := DataW.trod_struct Tryd.underlying75 h
  rw [cellsSpan] at hcl
  match xs, hxl, cs, hcl with
  | [y0, y1], _, [v0, v1], _ =>
    have g0 := hf 0 _ rfl
    have g1 := hf 1 _ rfl
    simp [cellsInt] at g0 g1
    obtain ⟨n0, e0, f0, _⟩ := DataW.trod_int Tryd.underlying3 g0
    obtain ⟨n1, e1, f1, _⟩ := DataW.trod_int Tryd.underlying3 g1
    rw [hx, pairD] at hy
    simp [f0, f1] at hy e0 e1
    rw [e0, e1, hy.1, hy.2]
set_option maxRecDepth 100000 in
theorem tabQ_of_met {W : World} (h : laidMet Tryd.prog cmdLaid W) : TabQ W := by
  unfold cmdLaid at h
  rw [laid_spans] at h
  obtain ⟨ps, ⟨g', t', cs, fuel, p, q, hg', ht', hvar, hd, _, _⟩, _⟩ := h
  obtain rfl := Option.some.inj (gKeys.symm.trans hg')
  obtain rfl := Option.some.inj (tKeys.symm.trans ht')
  obtain ⟨xs, m, _, hx, hcl, hxl, hf⟩ := DataW.trod_array Tryd.underlying76 hd
  rw [cellsSpans] at hcl
  have hxs : xs.map (·.1) = spans.map pairD := by
    have := congrArg Prod.fst hx
    simpa using this.symm
  have hcell : ∀ i, i < 9 → W.cell? ⟨0, i * 2, none⟩ = some (.int .i64 (leastT i : Int)) ∧ W.cell? ⟨0, i * 2 + 1, none⟩ = some (.int .i64 (mostT i : Int)) := fun i hi => by
    have hE := hf i hi
    rw [cellsSpan] at hE
    have hix : i < xs.length := by rw [hxl]; exact hi
    rw [List.getElem?_eq_getElem hix] at hE
    have h1 : xs[i].1 = pairD ((leastT i : Int), (mostT i : Int)) := by
      have := congrArg (·[i]?) hxs
      simpa [spans, hi, hix] using this
    have h2 := span_cells hE h1
    have k0 := congrArg (·[0]?) h2
    have k1 := congrArg (·[1]?) h2
    simp [List.getElem?_drop] at k0 k1
    exact ⟨(World.var?_cell gKeys hvar _).trans (by simpa using k0), (World.var?_cell gKeys hvar _).trans (by simpa using k1)⟩
  exact ⟨World.block_lt_of_cell? W _ (hcell 0 (by omega)).1, hcell⟩

theorem tabQ_of_laid {W : World} (h : laidMetH Tryd.prog cmdLaid W) : TabQ W := by
  rw [MakeChecks.laidMetH_plain _ _ _ (by kernel_rfl)] at h
  exact tabQ_of_met h
theorem door_metC (os : Os) (args : Array Value) : laidMetH Tryd.prog cmdLaid ((World.doorLaid Tryd.prog 400 os).forCall (fun _ _ => 0) ⟨#[], args, []⟩).memory :=
  laidMetH_of_parts3 (fuel := 8) (laidMet_of_run' 8 (by kernel_rfl) (by kernel_rfl)) (by kernel_rfl) (by kernel_rfl)
end Go.Proofs.YtfkdlmokigeemaaDoor
