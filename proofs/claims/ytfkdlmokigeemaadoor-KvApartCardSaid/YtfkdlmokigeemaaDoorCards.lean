/-
  DERIVED. GIVEN WITH THE SEED: THE CARDS: each row of YtfkdlmokigeemaaDoorRows.lean that lists a variable, with what it lists TIED to the program's text (the seventh form; the later family's looks); each row that meets fmt, with fmt's text TOLD by the authors' own Lean function (tested against real Go, not proved from fmt's source: count such statements apart). THE CARD IS WHAT COUNTS. Prove the row's statement (the work); the ties are given (YtfkdlmokigeemaaDoorTie.lean); close each card by the builder's one call (the guide's Derived/Test/ToyasCard.lean, 'card_holds'). Laid BY PROGRAM, IN A SANDBOX (cutbox-door.mjs). By AI agents, Wed Nov 11 2026. No macro, syntax, notation, axiom, sorry.
-/
import Derived.Test.YtfkdlmokigeemaaDoorRows
import GoSem.ClaimSeven
namespace Go.Proofs.YtfkdlmokigeemaaDoor
namespace Rows

/-- THE TIED CARD OF 'quoratelaw09.KvApart'. -/
def kvApartCard : Claim7 := { stood := { row := kvApartRow, standIns := [], harness := (true, "201b2078b42342d89b9f3c77f76b2fc11572200ca7300077965f751756c7df81"), looks := true }, kinds := [], alts := [], laidByText := true, laidKinds := [.data, .data, .data, .sentinel, .sentinel, .data], laidTests := true, laidLooks := .later }
def KvApartCardSaid : Prop := Claim7.holds Tryd.pinned (.plain (OpenSpec.ofChange kvApartSpec)) kvApartCard

/-- THE SECOND FORM's CARD OF 'quoratelaw09.KvApart'. -/
def kvApartUptoCard : Claim7 := { stood := { row := kvApartUptoRow, standIns := [], harness := (true, "201b2078b42342d89b9f3c77f76b2fc11572200ca7300077965f751756c7df81"), looks := true }, kinds := [], alts := [], laidByText := true, laidKinds := [.data, .data, .data, .sentinel, .sentinel, .data], laidTests := true, laidLooks := .later }
def KvApartUptoCardSaid : Prop := Claim7.holds Tryd.pinned (.plain (OpenSpec.upto kvApartSpec)) kvApartUptoCard
end Rows
end Go.Proofs.YtfkdlmokigeemaaDoor
