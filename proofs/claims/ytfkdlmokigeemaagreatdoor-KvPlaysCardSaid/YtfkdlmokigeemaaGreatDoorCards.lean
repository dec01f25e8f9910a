/-
  DERIVED. GIVEN WITH THE SEED: THE CARDS: each row of YtfkdlmokigeemaaGreatDoorRows.lean that lists a variable, with what it lists TIED to the program's text (the seventh form; the later family's looks); each row that meets fmt, with fmt's text TOLD by the authors' own Lean function (tested against real Go, not proved from fmt's source: count such statements apart). THE CARD IS WHAT COUNTS. Prove the row's statement (the work); the ties are given (YtfkdlmokigeemaaGreatDoorTie.lean); close each card by the builder's one call (the guide's Derived/Test/ToyasCard.lean, 'card_holds'). Laid BY PROGRAM, IN A SANDBOX (cutbox-door.mjs). By AI agents, Wed Nov 11 2026. No macro, syntax, notation, axiom, sorry.
-/
import Derived.Test.YtfkdlmokigeemaaGreatDoorRows
import GoSem.ClaimSeven
namespace Go.Proofs.YtfkdlmokigeemaaGreatDoor
namespace Rows

/-- THE TIED CARD OF 'quoratelaw09.KvPlays'. -/
def kvPlaysCard : Claim7 := { stood := { row := kvPlaysRow, standIns := [], harness := (true, "2b84aecfa07cd27c3ba178e19d22706f2501aa89db290716c325324b820f3924"), looks := true }, kinds := [], alts := [], laidByText := true, laidKinds := [.data, .data, .data, .sentinel, .sentinel, .data], laidTests := true, laidLooks := .later }
def KvPlaysCardSaid : Prop := Claim7.holds Tryz.pinned (.plain (OpenSpec.ofChange kvPlaysSpec)) kvPlaysCard

/-- THE TIED CARD OF 'quoratelaw09.KvTakes'. -/
def kvTakesCard : Claim7 := { stood := { row := kvTakesRow, standIns := [], harness := (true, "2b84aecfa07cd27c3ba178e19d22706f2501aa89db290716c325324b820f3924"), looks := true }, kinds := [], alts := [], laidByText := true, laidKinds := [.data, .data, .data, .sentinel, .sentinel, .data], laidTests := true, laidLooks := .later }
def KvTakesCardSaid : Prop := Claim7.holds Tryz.pinned (.plain (OpenSpec.ofChange kvTakesSpec)) kvTakesCard

/-- THE SECOND FORM's CARD OF 'quoratelaw09.KvPlays'. -/
def kvPlaysUptoCard : Claim7 := { stood := { row := kvPlaysUptoRow, standIns := [], harness := (true, "2b84aecfa07cd27c3ba178e19d22706f2501aa89db290716c325324b820f3924"), looks := true }, kinds := [], alts := [], laidByText := true, laidKinds := [.data, .data, .data, .sentinel, .sentinel, .data], laidTests := true, laidLooks := .later }
def KvPlaysUptoCardSaid : Prop := Claim7.holds Tryz.pinned (.plain (OpenSpec.upto kvPlaysSpec)) kvPlaysUptoCard

/-- THE SECOND FORM's CARD OF 'quoratelaw09.KvTakes'. -/
def kvTakesUptoCard : Claim7 := { stood := { row := kvTakesUptoRow, standIns := [], harness := (true, "2b84aecfa07cd27c3ba178e19d22706f2501aa89db290716c325324b820f3924"), looks := true }, kinds := [], alts := [], laidByText := true, laidKinds := [.data, .data, .data, .sentinel, .sentinel, .data], laidTests := true, laidLooks := .later }
def KvTakesUptoCardSaid : Prop := Claim7.holds Tryz.pinned (.plain (OpenSpec.upto kvTakesSpec)) kvTakesUptoCard
end Rows
end Go.Proofs.YtfkdlmokigeemaaGreatDoor
