/-
  DERIVED. GIVEN WITH THE SEED: THE CARDS: each row of YthmmbopibpdpiaaGreatDoorRows.lean that lists a variable, with what it lists TIED to the program's text (the seventh form; the later family's looks); each row that meets fmt, with fmt's text TOLD by the authors' own Lean function (tested against real Go, not proved from fmt's source: count such statements apart). THE CARD IS WHAT COUNTS. Prove the row's statement (the work); the ties are given (YthmmbopibpdpiaaGreatDoorTie.lean); close each card by the builder's one call (the guide's Derived/Test/ToyasCard.lean, 'card_holds'). Laid BY PROGRAM, IN A SANDBOX (cutbox-door.mjs). By AI agents, Wed Nov 11 2026. No macro, syntax, notation, axiom, sorry.
-/
import Derived.Test.YthmmbopibpdpiaaGreatDoorRows
import GoSem.ClaimSeven
namespace Go.Proofs.YthmmbopibpdpiaaGreatDoor
namespace Rows

/-- THE TIED CARD OF 'quoratelaw11.AppBytes'. -/
def appBytesCard : Claim7 := { stood := { row := appBytesRow, standIns := [], harness := (true, "be29a8f1202d1ad49cce022cd4e34045587b8422a83733990fc257aa1cbe6495"), looks := true }, kinds := [], alts := [], laidByText := true, laidKinds := [.data, .data, .data, .sentinel, .sentinel, .data], laidTests := true, laidLooks := .later }
def AppBytesCardSaid : Prop := Claim7.holds Tryz.pinned (.plain (OpenSpec.ofChange appBytesSpec)) appBytesCard

/-- THE SECOND FORM's CARD OF 'quoratelaw11.AppBytes'. -/
def appBytesUptoCard : Claim7 := { stood := { row := appBytesUptoRow, standIns := [], harness := (true, "be29a8f1202d1ad49cce022cd4e34045587b8422a83733990fc257aa1cbe6495"), looks := true }, kinds := [], alts := [], laidByText := true, laidKinds := [.data, .data, .data, .sentinel, .sentinel, .data], laidTests := true, laidLooks := .later }
def AppBytesUptoCardSaid : Prop := Claim7.holds Tryz.pinned (.plain (OpenSpec.upto appBytesSpec)) appBytesUptoCard
end Rows
end Go.Proofs.YthmmbopibpdpiaaGreatDoor
