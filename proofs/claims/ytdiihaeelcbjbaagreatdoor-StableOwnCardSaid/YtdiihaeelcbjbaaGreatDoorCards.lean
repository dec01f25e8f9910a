/-
  DERIVED. GIVEN WITH THE SEED: THE CARDS: each row of YtdiihaeelcbjbaaGreatDoorRows.lean that lists a variable, with what it lists TIED to the program's text (the seventh form; the later family's looks); each row that meets fmt, with fmt's text TOLD by the authors' own Lean function (tested against real Go, not proved from fmt's source: count such statements apart). THE CARD IS WHAT COUNTS. Prove the row's statement (the work); the ties are given (YtdiihaeelcbjbaaGreatDoorTie.lean); close each card by the builder's one call (the guide's Derived/Test/ToyasCard.lean, 'card_holds'). Laid BY PROGRAM, IN A SANDBOX (cutbox-door.mjs). By AI agents, Wed Nov 11 2026. No macro, syntax, notation, axiom, sorry.
-/
import Derived.Test.YtdiihaeelcbjbaaGreatDoorRows
import GoSem.ClaimSeven
namespace Go.Proofs.YtdiihaeelcbjbaaGreatDoor
namespace Rows

/-- THE TIED CARD OF 'quoratelaw16.StableDead'. -/
def stableDeadCard : Claim7 := { stood := { row := stableDeadRow, standIns := [], harness := (true, "586c44540dea90370bcddc6b6883fe85758b2747dae2ff3aa2a687971456b5b2"), looks := false }, kinds := [], alts := [], laidByText := true, laidKinds := [.data], laidTests := true, laidLooks := .later }
def StableDeadCardSaid : Prop := Claim7.holds Tryz.pinned (.plain (OpenSpec.ofChange stableDeadSpec)) stableDeadCard

/-- THE TIED CARD OF 'quoratelaw16.StableKeeps'. -/
def stableKeepsCard : Claim7 := { stood := { row := stableKeepsRow, standIns := [], harness := (true, "586c44540dea90370bcddc6b6883fe85758b2747dae2ff3aa2a687971456b5b2"), looks := false }, kinds := [], alts := [], laidByText := true, laidKinds := [.data], laidTests := true, laidLooks := .later }
def StableKeepsCardSaid : Prop := Claim7.holds Tryz.pinned (.plain (OpenSpec.ofChange stableKeepsSpec)) stableKeepsCard

/-- THE TIED CARD OF 'quoratelaw16.StableRises'. -/
def stableRisesCard : Claim7 := { stood := { row := stableRisesRow, standIns := [], harness := (true, "586c44540dea90370bcddc6b6883fe85758b2747dae2ff3aa2a687971456b5b2"), looks := false }, kinds := [], alts := [], laidByText := true, laidKinds := [.data], laidTests := true, laidLooks := .later }
def StableRisesCardSaid : Prop := Claim7.holds Tryz.pinned (.plain (OpenSpec.ofChange stableRisesSpec)) stableRisesCard

/-- THE TIED CARD OF 'quoratelaw16.StableOwn'. -/
def stableOwnCard : Claim7 := { stood := { row := stableOwnRow, standIns := [], harness := (true, "586c44540dea90370bcddc6b6883fe85758b2747dae2ff3aa2a687971456b5b2"), looks := false }, kinds := [], alts := [], laidByText := true, laidKinds := [.data], laidTests := true, laidLooks := .later }
def StableOwnCardSaid : Prop := Claim7.holds Tryz.pinned (.plain (OpenSpec.ofChange stableOwnSpec)) stableOwnCard

/-- THE SECOND FORM's CARD OF 'quoratelaw16.StableDead'. -/
def stableDeadUptoCard : Claim7 := { stood := { row := stableDeadUptoRow, standIns := [], harness := (true, "586c44540dea90370bcddc6b6883fe85758b2747dae2ff3aa2a687971456b5b2"), looks := false }, kinds := [], alts := [], laidByText := true, laidKinds := [.data], laidTests := true, laidLooks := .later }
def StableDeadUptoCardSaid : Prop := Claim7.holds Tryz.pinned (.plain (OpenSpec.upto stableDeadSpec)) stableDeadUptoCard

/-- THE SECOND FORM's CARD OF 'quoratelaw16.StableKeeps'. -/
def stableKeepsUptoCard : Claim7 := { stood := { row := stableKeepsUptoRow, standIns := [], harness := (true, "586c44540dea90370bcddc6b6883fe85758b2747dae2ff3aa2a687971456b5b2"), looks := false }, kinds := [], alts := [], laidByText := true, laidKinds := [.data], laidTests := true, laidLooks := .later }
def StableKeepsUptoCardSaid : Prop := Claim7.holds Tryz.pinned (.plain (OpenSpec.upto stableKeepsSpec)) stableKeepsUptoCard

/-- THE SECOND FORM's CARD OF 'quoratelaw16.StableRises'. -/
def stableRisesUptoCard : Claim7 := { stood := { row := stableRisesUptoRow, standIns := [], harness := (true, "586c44540dea90370bcddc6b6883fe85758b2747dae2ff3aa2a687971456b5b2"), looks := false }, kinds := [], alts := [], laidByText := true, laidKinds := [.data], laidTests := true, laidLooks := .later }
def StableRisesUptoCardSaid : Prop := Claim7.holds Tryz.pinned (.plain (OpenSpec.upto stableRisesSpec)) stableRisesUptoCard

/-- THE SECOND FORM's CARD OF 'quoratelaw16.StableOwn'. -/
def stableOwnUptoCard : Claim7 := { stood := { row := stableOwnUptoRow, standIns := [], harness := (true, "586c44540dea90370bcddc6b6883fe85758b2747dae2ff3aa2a687971456b5b2"), looks := false }, kinds := [], alts := [], laidByText := true, laidKinds := [.data], laidTests := true, laidLooks := .later }
def StableOwnUptoCardSaid : Prop := Claim7.holds Tryz.pinned (.plain (OpenSpec.upto stableOwnSpec)) stableOwnUptoCard
end Rows
end Go.Proofs.YtdiihaeelcbjbaaGreatDoor
