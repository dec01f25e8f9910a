/-
  DERIVED. GIVEN WITH THE SEED: THE CARDS: each row of YtfjmdkhemnmkpaaGreatDoorRows.lean that lists a variable, with what it lists TIED to the program's text (the seventh form; the later family's looks); each row that meets fmt, with fmt's text TOLD by the authors' own Lean function (tested against real Go, not proved from fmt's source: count such statements apart). THE CARD IS WHAT COUNTS. Prove the row's statement (the work); the ties are given (YtfjmdkhemnmkpaaGreatDoorTie.lean); close each card by the builder's one call (the guide's Derived/Test/ToyasCard.lean, 'card_holds'). Laid BY PROGRAM, IN A SANDBOX (cutbox-door.mjs). By AI agents, Wed Nov 11 2026. No macro, syntax, notation, axiom, sorry.
-/
import Derived.Test.YtfjmdkhemnmkpaaGreatDoorRows
import GoSem.ClaimSeven
namespace Go.Proofs.YtfjmdkhemnmkpaaGreatDoor
namespace Rows

/-- THE TIED CARD OF 'quoratelaw13.WavesRun'. -/
def wavesRunCard : Claim7 := { stood := { row := wavesRunRow, standIns := [], harness := (true, "a6c6a49f274121e61cb5576a7717da39dd92bbd0ac37bdf39b73ec550211bbb5"), looks := true }, kinds := [], alts := [], laidByText := true, laidKinds := [.data, .data, .data, .sentinel, .sentinel, .data], laidTests := true, laidLooks := .later }
def WavesRunCardSaid : Prop := Claim7.holds Tryz.pinned (.plain (OpenSpec.ofChange wavesRunSpec)) wavesRunCard

/-- THE TIED CARD OF 'quoratelaw13.WavesAlike'. -/
def wavesAlikeCard : Claim7 := { stood := { row := wavesAlikeRow, standIns := [], harness := (true, "a6c6a49f274121e61cb5576a7717da39dd92bbd0ac37bdf39b73ec550211bbb5"), looks := true }, kinds := [], alts := [], laidByText := true, laidKinds := [.data, .data, .data, .sentinel, .sentinel, .data], laidTests := true, laidLooks := .later }
def WavesAlikeCardSaid : Prop := Claim7.holds Tryz.pinned (.plain (OpenSpec.ofChange wavesAlikeSpec)) wavesAlikeCard

/-- THE SECOND FORM's CARD OF 'quoratelaw13.WavesRun'. -/
def wavesRunUptoCard : Claim7 := { stood := { row := wavesRunUptoRow, standIns := [], harness := (true, "a6c6a49f274121e61cb5576a7717da39dd92bbd0ac37bdf39b73ec550211bbb5"), looks := true }, kinds := [], alts := [], laidByText := true, laidKinds := [.data, .data, .data, .sentinel, .sentinel, .data], laidTests := true, laidLooks := .later }
def WavesRunUptoCardSaid : Prop := Claim7.holds Tryz.pinned (.plain (OpenSpec.upto wavesRunSpec)) wavesRunUptoCard

/-- THE SECOND FORM's CARD OF 'quoratelaw13.WavesAlike'. -/
def wavesAlikeUptoCard : Claim7 := { stood := { row := wavesAlikeUptoRow, standIns := [], harness := (true, "a6c6a49f274121e61cb5576a7717da39dd92bbd0ac37bdf39b73ec550211bbb5"), looks := true }, kinds := [], alts := [], laidByText := true, laidKinds := [.data, .data, .data, .sentinel, .sentinel, .data], laidTests := true, laidLooks := .later }
def WavesAlikeUptoCardSaid : Prop := Claim7.holds Tryz.pinned (.plain (OpenSpec.upto wavesAlikeSpec)) wavesAlikeUptoCard
end Rows
end Go.Proofs.YtfjmdkhemnmkpaaGreatDoor
