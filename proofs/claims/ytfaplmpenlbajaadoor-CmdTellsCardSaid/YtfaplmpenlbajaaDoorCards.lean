/-
  DERIVED. GIVEN WITH THE SEED: THE CARDS: each row of YtfaplmpenlbajaaDoorRows.lean that lists a variable, with what it lists TIED to the program's text (the seventh form; the later family's looks); each row that meets fmt, with fmt's text TOLD by the authors' own Lean function (tested against real Go, not proved from fmt's source: count such statements apart). THE CARD IS WHAT COUNTS. Prove the row's statement (the work); the ties are given (YtfaplmpenlbajaaDoorTie.lean); close each card by the builder's one call (the guide's Derived/Test/ToyasCard.lean, 'card_holds'). Laid BY PROGRAM, IN A SANDBOX (cutbox-door.mjs). By AI agents, Wed Nov 11 2026. No macro, syntax, notation, axiom, sorry.
-/
import Derived.Test.YtfaplmpenlbajaaDoorRows
import GoSem.ClaimSeven
namespace Go.Proofs.YtfaplmpenlbajaaDoor
namespace Rows

/-- THE TIED CARD OF 'quoratelaw08.CmdTells'. -/
def cmdTellsCard : Claim7 := { stood := { row := cmdTellsRow, standIns := [], harness := (true, "1acaee4bcd327f6f69c8dfe135c5ff83fa9ce386e89a1f9ec6bc82d2c00de141"), looks := false }, kinds := [], alts := [], laidByText := true, laidKinds := [.data], laidTests := true, laidLooks := .later }
def CmdTellsCardSaid : Prop := Claim7.holds Tryd.pinned (.plain (OpenSpec.ofChange cmdTellsSpec)) cmdTellsCard

/-- THE TIED CARD OF 'quoratelaw08.CmdTakes'. -/
def cmdTakesCard : Claim7 := { stood := { row := cmdTakesRow, standIns := [], harness := (true, "1acaee4bcd327f6f69c8dfe135c5ff83fa9ce386e89a1f9ec6bc82d2c00de141"), looks := false }, kinds := [], alts := [], laidByText := true, laidKinds := [.data], laidTests := true, laidLooks := .later }
def CmdTakesCardSaid : Prop := Claim7.holds Tryd.pinned (.plain (OpenSpec.ofChange cmdTakesSpec)) cmdTakesCard

/-- THE TIED CARD OF 'quoratelaw08.CmdBack'. -/
def cmdBackCard : Claim7 := { stood := { row := cmdBackRow, standIns := [], harness := (true, "1acaee4bcd327f6f69c8dfe135c5ff83fa9ce386e89a1f9ec6bc82d2c00de141"), looks := false }, kinds := [], alts := [], laidByText := true, laidKinds := [.data], laidTests := true, laidLooks := .later }
def CmdBackCardSaid : Prop := Claim7.holds Tryd.pinned (.plain (OpenSpec.ofChange cmdBackSpec)) cmdBackCard

/-- THE SECOND FORM's CARD OF 'quoratelaw08.CmdTells'. -/
def cmdTellsUptoCard : Claim7 := { stood := { row := cmdTellsUptoRow, standIns := [], harness := (true, "1acaee4bcd327f6f69c8dfe135c5ff83fa9ce386e89a1f9ec6bc82d2c00de141"), looks := false }, kinds := [], alts := [], laidByText := true, laidKinds := [.data], laidTests := true, laidLooks := .later }
def CmdTellsUptoCardSaid : Prop := Claim7.holds Tryd.pinned (.plain (OpenSpec.upto cmdTellsSpec)) cmdTellsUptoCard

/-- THE SECOND FORM's CARD OF 'quoratelaw08.CmdTakes'. -/
def cmdTakesUptoCard : Claim7 := { stood := { row := cmdTakesUptoRow, standIns := [], harness := (true, "1acaee4bcd327f6f69c8dfe135c5ff83fa9ce386e89a1f9ec6bc82d2c00de141"), looks := false }, kinds := [], alts := [], laidByText := true, laidKinds := [.data], laidTests := true, laidLooks := .later }
def CmdTakesUptoCardSaid : Prop := Claim7.holds Tryd.pinned (.plain (OpenSpec.upto cmdTakesSpec)) cmdTakesUptoCard

/-- THE SECOND FORM's CARD OF 'quoratelaw08.CmdBack'. -/
def cmdBackUptoCard : Claim7 := { stood := { row := cmdBackUptoRow, standIns := [], harness := (true, "1acaee4bcd327f6f69c8dfe135c5ff83fa9ce386e89a1f9ec6bc82d2c00de141"), looks := false }, kinds := [], alts := [], laidByText := true, laidKinds := [.data], laidTests := true, laidLooks := .later }
def CmdBackUptoCardSaid : Prop := Claim7.holds Tryd.pinned (.plain (OpenSpec.upto cmdBackSpec)) cmdBackUptoCard
end Rows
end Go.Proofs.YtfaplmpenlbajaaDoor
