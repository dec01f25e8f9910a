/- The table of the effect of four steps, as the program's variable holds it, and the contract of the closure that does four steps. -/
import Derived.Test.YtbhncffeoolhfaaDoorBase
import Derived.Test.YtbhncffeoolhfaaDoorCrcMath
import Derived.Test.YtbhncffeoolhfaaDoorCrcRef
import Derived.LoopTactic
import Derived.RegionTactic
import Derived.BigRegion
import Derived.OneCell
namespace Go.Proofs.YtbhncffeoolhfaaDoor
open Go.RowKit

/-- The effect of four steps on four bits. -/
def eff (i : Nat) : Nat := stps 4 i
/-- The variable holds the table. -/
def Tab (w : World) : Prop := 0 < w.heap.size ∧ ∀ i, i < 16 → w.cell? ⟨0, i, none⟩ = some (.int .u32 (eff i : Int))
theorem Tab.below {w w' : World} {B : Nat} (h : Tab w) (hB : 0 < B) (hb : Below B w w') : Tab w' :=
  ⟨Nat.lt_of_lt_of_le h.1 hb.size, fun i hi => (hb.cell (p := ⟨0, i, none⟩) hB).trans (h.2 i hi)⟩
theorem Tab.grew {w w' : World} (h : Tab w) (hb : Below w.heap.size w w') : Tab w' := h.below h.1 hb

theorem and15_u32 (u : Nat) (h : u < 4294967296) : bits .and .u32 (u : Int) 15 = ((u % 16 : Nat) : Int) := by
  have := u32_and_nat u 15 h (by omega)
  rw [show ((15 : Nat) : Int) = 15 from rfl] at this
  rw [this, show (15 : Nat) = 2 ^ 4 - 1 from rfl, Nat.and_two_pow_sub_one_eq_mod]
theorem eff_lt (i : Nat) (h : i < 16) : eff i < 4294967296 := stps_lt 4 (by omega)
theorem four_steps (s : Nat) : s / 16 ^^^ eff (s % 16) = stps 4 s := by
  rw [stps_split 4 s, Nat.xor_comm]; rfl

/-- The captured variable. -/
def StC (w : World) (g s : Nat) : Prop := w.heap[g]? = some (.cells #[.int .u32 (s : Int)] 42 (0, 0))

set_option maxHeartbeats 1000000 in
theorem four_any (g s : Nat) (hs : s < 4294967296) (w : World) (hT : Tab w) (hg : 0 < g) (hc : StC w g s) :
    Calls Tryd.prog 33 #[.pointer (some ⟨g, 0, none⟩)] w fun e w' => e = .returned (.tuple #[]) ∧ StC w' g (stps 4 s) ∧ Below g w w' := by
  have h1 := cell_of_one hc
  have h2 := free_of_one hc
  obtain ⟨q, hq⟩ : ∃ q, q = s % 16 := ⟨_, rfl⟩
  have hq16 : q < 16 := by omega
  have ha := and15_u32 s hs
  rw [← hq] at ha
  have hcell := hT.2 q hq16
  obtain ⟨E, hE⟩ : ∃ E, E = eff q := ⟨_, rfl⟩
  have hEl : E < 4294967296 := by rw [hE]; exact eff_lt q hq16
  rw [← hE] at hcell
  have HQ := Lib.hid hq
  have HE := Lib.hid hE
  have HC := Lib.hid hc
  clear hq hE hc
  have hqi : (q : Int) < 16 := by omega
  go_enter Tryd.func33, Tryd.ntmps33
  go_region
  all_goals
    go_end0
    refine ⟨rfl, ?_, ?_⟩
    · have e : bits .xor .u32 ((s : Int) / 16) (E : Int) = ((stps 4 s : Nat) : Int) := by
        rw [show ((s : Int) / 16) = ((s / 16 : Nat) : Int) by omega, u32_xor_nat _ _ (by omega) hEl, HE.out, HQ.out, four_steps]
      rw [e]
      exact one_setCell HC.out
    · exact ((Below.refl g w).setCell (Nat.le_refl _) _).drew
end Go.Proofs.YtbhncffeoolhfaaDoor
