/-
  DERIVED. GIVEN WITH THE SEED: THE CARDS: each row of YtoplocnkpljofaaDoorRows.lean that lists a variable, with what it lists TIED to the program's text (the seventh form; the later family's looks); each row that meets fmt, with fmt's text TOLD by the authors' own Lean function (tested against real Go, not proved from fmt's source: count such statements apart). THE CARD IS WHAT COUNTS. Prove the row's statement (the work); the ties are given (YtoplocnkpljofaaDoorTie.lean); close each card by the builder's one call (the guide's Derived/Test/ToyasCard.lean, 'card_holds'). Laid BY PROGRAM, IN A SANDBOX (cutbox-door.mjs). By AI agents, Wed Nov 11 2026. No macro, syntax, notation, axiom, sorry.
-/
import Derived.Test.YtoplocnkpljofaaDoorRows
import GoSem.ClaimSeven
namespace Go.Proofs.YtoplocnkpljofaaDoor
namespace Rows

/-- THE TIED CARD OF 'quoratelaw06.RecordOpens'. -/
def recordOpensCard : Claim7 := { stood := { row := recordOpensRow, standIns := [], harness := (true, "c61df079e6db9b918ff3500c592a55802660ebce0407917b15393a4dcfe70ea4"), looks := false }, kinds := [], alts := [], laidByText := true, laidKinds := [.data], laidTests := true, laidLooks := .later }
def RecordOpensCardSaid : Prop := Claim7.holds Tryd.pinned (.plain (OpenSpec.ofChange recordOpensSpec)) recordOpensCard

/-- THE TIED CARD OF 'quoratelaw06.RecordAppends'. -/
def recordAppendsCard : Claim7 := { stood := { row := recordAppendsRow, standIns := [], harness := (true, "c61df079e6db9b918ff3500c592a55802660ebce0407917b15393a4dcfe70ea4"), looks := false }, kinds := [], alts := [], laidByText := true, laidKinds := [.data], laidTests := true, laidLooks := .later }
def RecordAppendsCardSaid : Prop := Claim7.holds Tryd.pinned (.plain (OpenSpec.ofChange recordAppendsSpec)) recordAppendsCard

/-- THE TIED CARD OF 'quoratelaw06.RecordKeeps'. -/
def recordKeepsCard : Claim7 := { stood := { row := recordKeepsRow, standIns := [], harness := (true, "c61df079e6db9b918ff3500c592a55802660ebce0407917b15393a4dcfe70ea4"), looks := false }, kinds := [], alts := [], laidByText := true, laidKinds := [.data], laidTests := true, laidLooks := .later }
def RecordKeepsCardSaid : Prop := Claim7.holds Tryd.pinned (.plain (OpenSpec.ofChange recordKeepsSpec)) recordKeepsCard

/-- THE SECOND FORM's CARD OF 'quoratelaw06.RecordOpens'. -/
def recordOpensUptoCard : Claim7 := { stood := { row := recordOpensUptoRow, standIns := [], harness := (true, "c61df079e6db9b918ff3500c592a55802660ebce0407917b15393a4dcfe70ea4"), looks := false }, kinds := [], alts := [], laidByText := true, laidKinds := [.data], laidTests := true, laidLooks := .later }
def RecordOpensUptoCardSaid : Prop := Claim7.holds Tryd.pinned (.plain (OpenSpec.upto recordOpensSpec)) recordOpensUptoCard

/-- THE SECOND FORM's CARD OF 'quoratelaw06.RecordAppends'. -/
def recordAppendsUptoCard : Claim7 := { stood := { row := recordAppendsUptoRow, standIns := [], harness := (true, "c61df079e6db9b918ff3500c592a55802660ebce0407917b15393a4dcfe70ea4"), looks := false }, kinds := [], alts := [], laidByText := true, laidKinds := [.data], laidTests := true, laidLooks := .later }
def RecordAppendsUptoCardSaid : Prop := Claim7.holds Tryd.pinned (.plain (OpenSpec.upto recordAppendsSpec)) recordAppendsUptoCard

/-- THE SECOND FORM's CARD OF 'quoratelaw06.RecordKeeps'. -/
def recordKeepsUptoCard : Claim7 := { stood := { row := recordKeepsUptoRow, standIns := [], harness := (true, "c61df079e6db9b918ff3500c592a55802660ebce0407917b15393a4dcfe70ea4"), looks := false }, kinds := [], alts := [], laidByText := true, laidKinds := [.data], laidTests := true, laidLooks := .later }
def RecordKeepsUptoCardSaid : Prop := Claim7.holds Tryd.pinned (.plain (OpenSpec.upto recordKeepsSpec)) recordKeepsUptoCard
end Rows
end Go.Proofs.YtoplocnkpljofaaDoor
