/- From the row's condition on the variable to the table that the walks ask for; a start that meets it. -/
import Derived.Test.YtbhncffeoolhfaaDoorOpen
import Derived.Test.YtbhncffeoolhfaaDoorCrcFour
import Derived.Test.YtbhncffeoolhfaaDoorCards
import Derived.Lib.LaidTab
import Derived.LaidMore
import Derived.LaidHandle
import Derived.OpenShut
import Derived.Stop.Joined
namespace Go.Proofs.YtbhncffeoolhfaaDoor
open Go.ChangeShapes Go.WideShapes Go.ChangeAt Go.RowKit Go.ChangeMaps

abbrev crcLaid : List (String × DataW Unit) := [("quorate/crc.effect", Rows.laid_quorate_crc_effect)]
def effs : List Int := (List.range 16).map fun i => (eff i : Int)
theorem laid_eff : (Rows.laid_quorate_crc_effect : DataW Unit) = Lib.tabData .u32 effs := by kernel_rfl
theorem gEffect : Tryd.prog.globalNamed "quorate/crc.effect" = some 0 := by kernel_rfl
theorem tEffect : (Tryd.prog.globals[(0 : Nat)]?).map (·.type) = some 67 := by kernel_rfl
theorem cellsA : Tryd.prog.cellsOf 67 = 16 := by kernel_rfl
theorem cellsE : Tryd.prog.cellsOf 42 = 1 := by kernel_rfl

theorem tab_of_laid {W : World} (h : laidMetH Tryd.prog crcLaid W) : Tab W := by
  rw [MakeChecks.laidMetH_plain _ _ _ (by kernel_rfl)] at h
  unfold crcLaid at h
  rw [laid_eff] at h
  have hT := Lib.tabIs_of_head gEffect tEffect Tryd.underlying67 Tryd.underlying42 cellsE cellsA h
  have hcell : ∀ i, i < 16 → W.cell? ⟨0, i, none⟩ = some (.int .u32 (eff i : Int)) := fun i hi => by
    have := hT.cell gEffect i (by simpa [effs] using hi)
    rw [this]
    simp [effs, List.getD, hi]
  exact ⟨World.block_lt_of_cell? W _ (hcell 0 (by omega)), hcell⟩

theorem door_met (os : Os) (args : Array Value) : laidMetH Tryd.prog crcLaid ((World.doorLaid Tryd.prog 400 os).forCall (fun _ _ => 0) ⟨#[], args, []⟩).memory :=
  laidMetH_of_parts3 (fuel := 8) (laidMet_of_run' 8 (by kernel_rfl) (by kernel_rfl)) (by kernel_rfl) (by kernel_rfl)
end Go.Proofs.YtbhncffeoolhfaaDoor
