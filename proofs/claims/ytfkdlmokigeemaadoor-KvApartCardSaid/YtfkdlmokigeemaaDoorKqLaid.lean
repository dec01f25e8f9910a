/- The program's tables, its own and the library's, out of what the rows list. -/
import Derived.Test.YtfkdlmokigeemaaDoorCmLaid
import Derived.Test.YtfkdlmokigeemaaDoorMKqT
import Derived.Stop.LaidErr
namespace Go.Proofs.YtfkdlmokigeemaaDoor
open Go.ChangeShapes Go.WideShapes Go.ChangeAt Go.RowKit Go.ChangeMaps

abbrev kvLaid : List (String × DataW Unit) := [("math/bits.deBruijn32tab", Rows.laid_math_bits_deBruijn32tab), ("math/bits.deBruijn64tab", Rows.laid_math_bits_deBruijn64tab), ("internal/strconv.uint64pow10", Rows.laid_internal_strconv_uint64pow10), ("strconv.ErrRange", Rows.laid_strconv_ErrRange), ("strconv.ErrSyntax", Rows.laid_strconv_ErrSyntax), ("quorate/cmd.keysOf", Rows.laid_quorate_cmd_keysOf)]
/-- What is listed behind the first is met too. -/
theorem laid_rest {P : Program} {x : String × DataW Unit} {r : List (String × DataW Unit)} {w : World} (h : laidMet P (x :: r) w) : laidMet P r w := by
  obtain ⟨n, d⟩ := x
  obtain ⟨ps, ⟨g, t, cs, fuel, p, q, _, _, _, _, hr, e⟩, hnd, hall⟩ := h
  subst e
  refine ⟨q, hr, (List.nodup_append.1 hnd).2.1, fun b off hm => hall b off (List.mem_append.2 (.inr hm))⟩
theorem gPow : Tryd.prog.globalNamed "internal/strconv.uint64pow10" = some 1 := by kernel_rfl
theorem tPow : (Tryd.prog.globals[(1 : Nat)]?).map (·.type) = some 127 := by kernel_rfl
theorem cPow : Tryd.prog.cellsOf 127 = 20 := by kernel_rfl
theorem cU64 : Tryd.prog.cellsOf 99 = 1 := by kernel_rfl
theorem laid_pow : (Rows.laid_internal_strconv_uint64pow10 : DataW Unit) = Lib.tabData .u64 Lib.pow10Tab := by kernel_rfl
theorem gSyn : Tryd.prog.globalNamed "strconv.ErrSyntax" = some 2 := by kernel_rfl
theorem tSyn : (Tryd.prog.globals[(2 : Nat)]?).map (·.type) = some 102 := by kernel_rfl
theorem gRan : Tryd.prog.globalNamed "strconv.ErrRange" = some 3 := by kernel_rfl
theorem tRan : (Tryd.prog.globals[(3 : Nat)]?).map (·.type) = some 102 := by kernel_rfl
theorem cErrS : Tryd.prog.cellsOf 138 = 1 := by kernel_rfl
theorem cStr : Tryd.prog.cellsOf 9 = 1 := by kernel_rfl
theorem starE : "*" ++ "errors.errorString" = "*errors.errorString" := by decide
theorem rowE (u : TypeId) (h : Tryd.prog.typeName? 3 u = some "*errors.errorString") : u = 136 :=
  typeName_ptr_named (nm := "errors.errorString") (by rw [starE]; kernel_rfl) (by kernel_rfl) (by decide) u (by rw [starE]; exact h)
theorem tabK_of_laid {W : World} (h : laidMetH Tryd.prog kvLaid W) : TabK W := by
  rw [MakeChecks.laidMetH_plain _ _ _ (by kernel_rfl)] at h
  unfold kvLaid at h
  have h2 := laid_rest (laid_rest h)
  have h3 := laid_rest h2
  have h4 := laid_rest h3
  have h5 := laid_rest h4
  refine ⟨tabQ_of_met h5, ?_, ?_, ?_⟩
  · rw [laid_pow] at h2
    exact Lib.tabIs_of_head gPow tPow Tryd.underlying127 Tryd.underlying99 cU64 cPow h2
  · unfold Rows.laid_strconv_ErrSyntax at h4
    obtain ⟨a0, s0, hv0, -, -, -⟩ := laid_sentinel h4 gSyn tSyn Tryd.underlying102 rowE Tryd.underlying136 Tryd.underlying138 rfl rfl Tryd.underlying9 cErrS cStr
    exact ⟨_, _, hv0⟩
  · unfold Rows.laid_strconv_ErrRange at h3
    obtain ⟨a0, s0, hv0, -, -, -⟩ := laid_sentinel h3 gRan tRan Tryd.underlying102 rowE Tryd.underlying136 Tryd.underlying138 rfl rfl Tryd.underlying9 cErrS cStr
    exact ⟨_, _, hv0⟩
theorem door_metK (os : Os) (args : Array Value) : laidMetH Tryd.prog kvLaid ((World.doorLaid Tryd.prog 400 os).forCall (fun _ _ => 0) ⟨#[], args, []⟩).memory :=
  laidMetH_of_parts3 (fuel := 8) (laidMet_of_run' 8 (by kernel_rfl) (by kernel_rfl)) (by kernel_rfl) (by kernel_rfl)
end Go.Proofs.YtfkdlmokigeemaaDoor
