/- The program's table of how many keys a kind has, out of what the rows list it as. The program's tables, its own and the library's, out of what the rows list. -/
import Derived.Test.YthmmbopibpdpiaaGreatDoorMCqA
import Derived.Test.YthmmbopibpdpiaaGreatDoorCards
import Derived.SevenTiedAt
import Derived.SizedLaws
import Derived.LaidMore
import Derived.LaidHandle
import Derived.OpenShut
import Derived.Lib.LaidTab
import Derived.Stop.Joined
import Derived.Test.YthmmbopibpdpiaaGreatDoorMKqT
import Derived.Stop.LaidErr
-- CmLaid
namespace Go.Proofs.YthmmbopibpdpiaaGreatDoor
open Go.ChangeShapes Go.WideShapes Go.ChangeAt Go.RowKit Go.ChangeMaps

abbrev cmdLaid : List (String × DataW Unit) := [("quorate/cmd.keysOf", Rows.laid_quorate_cmd_keysOf)]
def spans : List (Int × Int) := (List.range 9).map fun i => ((leastT i : Int), (mostT i : Int))
def pairD (p : Int × Int) : DataW Unit := .agg [.lit (.int .i64 p.1), .lit (.int .i64 p.2)]
theorem laid_spans : (Rows.laid_quorate_cmd_keysOf : DataW Unit) = .agg (spans.map pairD) := by kernel_rfl
theorem gKeys : Tryz.prog.globalNamed "quorate/cmd.keysOf" = some 0 := by kernel_rfl
theorem tKeys : (Tryz.prog.globals[(0 : Nat)]?).map (·.type) = some 133 := by kernel_rfl
theorem cellsSpans : Tryz.prog.cellsOf 133 = 18 := by kernel_rfl
theorem cellsSpan : Tryz.prog.cellsOf 132 = 2 := by kernel_rfl
theorem cellsInt : Tryz.prog.cellsOf 3 = 1 := by kernel_rfl

set_option maxRecDepth 100000 in
theorem span_cells {W : World} {m : Nat} {cs : List Value} {y : DataW Unit × List MemPlace} {p : Int × Int} (h : DataW.trod (fun _ => ()) Tryz.prog W 0 (fun _ => true) false m 132 cs = some y) (hy : y.1 = pairD p) : cs = [.int .i64 p.1, .int .i64 p.2] := by
  obtain ⟨xs, k, _, hx, hcl, hxl, hf⟩ := DataW.trod_struct Tryz.underlying132 h
  rw [cellsSpan] at hcl
  match xs, hxl, cs, hcl with
  | [y0, y1], _, [v0, v1], _ =>
    have g0 := hf 0 _ rfl
    have g1 := hf 1 _ rfl
    simp [cellsInt] at g0 g1
    obtain ⟨n0, e0, f0, _⟩ := DataW.trod_int Tryz.underlying3 g0
    obtain ⟨n1, e1, f1, _⟩ := DataW.trod_int Tryz.underlying3 g1
    rw [hx, pairD] at hy
    simp [f0, f1] at hy e0 e1
    rw [e0, e1, hy.1, hy.2]
set_option maxRecDepth 100000 in
theorem tabQ_of_met {W : World} (h : laidMet Tryz.prog cmdLaid W) : TabQ W := by
  unfold cmdLaid at h
  rw [laid_spans] at h
  obtain ⟨ps, ⟨g', t', cs, fuel, p, q, hg', ht', hvar, hd, _, _⟩, _⟩ := h
  obtain rfl := Option.some.inj (gKeys.symm.trans hg')
  obtain rfl := Option.some.inj (tKeys.symm.trans ht')
  obtain ⟨xs, m, _, hx, hcl, hxl, hf⟩ := DataW.trod_array Tryz.underlying133 hd
  rw [cellsSpans] at hcl
  have hxs : xs.map (·.1) = spans.map pairD := by
    have := congrArg Prod.fst hx
    simpa using this.symm
  have hcell : ∀ i, i < 9 → W.cell? ⟨0, i * 2, none⟩ = some (.int .i64 (leastT i : Int)) ∧ W.cell? ⟨0, i * 2 + 1, none⟩ = some (.int .i64 (mostT i : Int)) := fun i hi => by
    have hE := hf i hi
    rw [cellsSpan] at hE
    have hix : i < xs.length := by rw [hxl]; exact hi
    rw [List.getElem?_eq_getElem hix] at hE
    have h1 : xs[i].1 = pairD ((leastT i : Int), (mostT i : Int)) := by
      have := congrArg (·[i]?) hxs
      simpa [spans, hi, hix] using this
    have h2 := span_cells hE h1
    have k0 := congrArg (·[0]?) h2
    have k1 := congrArg (·[1]?) h2
    simp [List.getElem?_drop] at k0 k1
    exact ⟨(World.var?_cell gKeys hvar _).trans (by simpa using k0), (World.var?_cell gKeys hvar _).trans (by simpa using k1)⟩
  exact ⟨World.block_lt_of_cell? W _ (hcell 0 (by omega)).1, hcell⟩

theorem tabQ_of_laid {W : World} (h : laidMetH Tryz.prog cmdLaid W) : TabQ W := by
  rw [MakeChecks.laidMetH_plain _ _ _ (by kernel_rfl)] at h
  exact tabQ_of_met h
theorem door_metC (os : Os) (args : Array Value) : laidMetH Tryz.prog cmdLaid ((World.doorLaid Tryz.prog 400 os).forCall (fun _ _ => 0) ⟨#[], args, []⟩).memory :=
  laidMetH_of_parts3 (fuel := 8) (laidMet_of_run' 8 (by kernel_rfl) (by kernel_rfl)) (by kernel_rfl) (by kernel_rfl)
end Go.Proofs.YthmmbopibpdpiaaGreatDoor

-- KqLaid
namespace Go.Proofs.YthmmbopibpdpiaaGreatDoor
open Go.ChangeShapes Go.WideShapes Go.ChangeAt Go.RowKit Go.ChangeMaps

abbrev kvLaid : List (String × DataW Unit) := [("math/bits.deBruijn32tab", Rows.laid_math_bits_deBruijn32tab), ("math/bits.deBruijn64tab", Rows.laid_math_bits_deBruijn64tab), ("internal/strconv.uint64pow10", Rows.laid_internal_strconv_uint64pow10), ("strconv.ErrRange", Rows.laid_strconv_ErrRange), ("strconv.ErrSyntax", Rows.laid_strconv_ErrSyntax), ("quorate/cmd.keysOf", Rows.laid_quorate_cmd_keysOf)]
/-- What is listed behind the first is met too. -/
theorem laid_rest {P : Program} {x : String × DataW Unit} {r : List (String × DataW Unit)} {w : World} (h : laidMet P (x :: r) w) : laidMet P r w := by
  obtain ⟨n, d⟩ := x
  obtain ⟨ps, ⟨g, t, cs, fuel, p, q, _, _, _, _, hr, e⟩, hnd, hall⟩ := h
  subst e
  refine ⟨q, hr, (List.nodup_append.1 hnd).2.1, fun b off hm => hall b off (List.mem_append.2 (.inr hm))⟩
theorem gPow : Tryz.prog.globalNamed "internal/strconv.uint64pow10" = some 1 := by kernel_rfl
theorem tPow : (Tryz.prog.globals[(1 : Nat)]?).map (·.type) = some 192 := by kernel_rfl
theorem cPow : Tryz.prog.cellsOf 192 = 20 := by kernel_rfl
theorem cU64 : Tryz.prog.cellsOf 39 = 1 := by kernel_rfl
theorem laid_pow : (Rows.laid_internal_strconv_uint64pow10 : DataW Unit) = Lib.tabData .u64 Lib.pow10Tab := by kernel_rfl
theorem gSyn : Tryz.prog.globalNamed "strconv.ErrSyntax" = some 2 := by kernel_rfl
theorem tSyn : (Tryz.prog.globals[(2 : Nat)]?).map (·.type) = some 153 := by kernel_rfl
theorem gRan : Tryz.prog.globalNamed "strconv.ErrRange" = some 3 := by kernel_rfl
theorem tRan : (Tryz.prog.globals[(3 : Nat)]?).map (·.type) = some 153 := by kernel_rfl
theorem cErrS : Tryz.prog.cellsOf 207 = 1 := by kernel_rfl
theorem cStr : Tryz.prog.cellsOf 9 = 1 := by kernel_rfl
theorem starE : "*" ++ "errors.errorString" = "*errors.errorString" := by decide
theorem rowE (u : TypeId) (h : Tryz.prog.typeName? 3 u = some "*errors.errorString") : u = 205 :=
  typeName_ptr_named (nm := "errors.errorString") (by rw [starE]; kernel_rfl) (by kernel_rfl) (by decide) u (by rw [starE]; exact h)
theorem tabK_of_laid {W : World} (h : laidMetH Tryz.prog kvLaid W) : TabK W := by
  rw [MakeChecks.laidMetH_plain _ _ _ (by kernel_rfl)] at h
  unfold kvLaid at h
  have h2 := laid_rest (laid_rest h)
  have h3 := laid_rest h2
  have h4 := laid_rest h3
  have h5 := laid_rest h4
  refine ⟨tabQ_of_met h5, ?_, ?_, ?_⟩
  · rw [laid_pow] at h2
    exact Lib.tabIs_of_head gPow tPow Tryz.underlying192 Tryz.underlying39 cU64 cPow h2
  · unfold Rows.laid_strconv_ErrSyntax at h4
    obtain ⟨a0, s0, hv0, -, -, -⟩ := laid_sentinel h4 gSyn tSyn Tryz.underlying153 rowE Tryz.underlying205 Tryz.underlying207 rfl rfl Tryz.underlying9 cErrS cStr
    exact ⟨_, _, hv0⟩
  · unfold Rows.laid_strconv_ErrRange at h3
    obtain ⟨a0, s0, hv0, -, -, -⟩ := laid_sentinel h3 gRan tRan Tryz.underlying153 rowE Tryz.underlying205 Tryz.underlying207 rfl rfl Tryz.underlying9 cErrS cStr
    exact ⟨_, _, hv0⟩
theorem door_metK (os : Os) (args : Array Value) : laidMetH Tryz.prog kvLaid ((World.doorLaid Tryz.prog 400 os).forCall (fun _ _ => 0) ⟨#[], args, []⟩).memory :=
  laidMetH_of_parts3 (fuel := 8) (laidMet_of_run' 8 (by kernel_rfl) (by kernel_rfl)) (by kernel_rfl) (by kernel_rfl)
end Go.Proofs.YthmmbopibpdpiaaGreatDoor
