/-
  NARROWER THAN 'FOR EVERY INPUT', by the rows' own cells (each row's printed sentence says how): CmdTells: laid · CmdTakes: laid · CmdBack: laid.
  DERIVED. THE GIVEN ROWS OF THIS SEAT. 3 by the template 'for every input the law returns true; each argument reads behind the call as it read before'; 0 by the template 'total and deterministic' (their statements: YtfaplmpenlbajaaDoorTotals.lean).
  GIVEN WITH THE SEED: the statements are not yours to turn. If you find one false, say at which input.
  Laid BY PROGRAM, IN A SANDBOX (cutbox-rows.mjs): the forced cells as the released guide's own fill.sh prints them over the translation ffbf7343daa5d611… (all of the seat's roots in one cut). By AI agents, Wed Nov 11 2026. No macro, syntax, notation, axiom, sorry.
-/
import Derived.Test.YtfaplmpenlbajaaDoorChecked
import GoSem.Claim
import GoSem.ClaimJoined
import GoSem.ClaimMapViews
import Derived.JoinedTies
import Derived.KernelRfl
namespace Go.Proofs.YtfaplmpenlbajaaDoor
/- THE CELL 'sum', in the pinned program and in every row, IS THE sha256 OF THE DUMP (.gsa) THAT YtfaplmpenlbajaaDoorProg.lean LOADS. Nothing in Lean hashes anything: it is a label: what it is worth is what the hold of that sum in a sandbox is worth. -/
noncomputable def Tryd.pinned : Pinned := { name := "ytfaplmpenlbajaadoor", sum := "ffbf7343daa5d611cb73d68dc9238f65912a3973c987a804390a117f24a08fbc", checked := Tryd.checked }
namespace Rows
def none {H : Type} : Left H := { results := [], args := [] }

/- WHAT THE LISTED PACKAGE-LEVEL VARIABLES READ AS WHEN THE CALL BEGINS. Each datum BY PROGRAM (the guide's laid-datum.mjs) off the statement by which the dump's own 'gosem.cut.vars' lays the variable. In a bare row this is a premise. The card (YtfaplmpenlbajaaDoorCards.lean) ties it to the program's text. -/
def laid_quorate_cmd_keysOf {H : Type} : DataW H := .agg [.agg [.lit (.int .i64 0), .lit (.int .i64 0)], .agg [.lit (.int .i64 1), .lit (.int .i64 1)], .agg [.lit (.int .i64 1), .lit (.int .i64 1)], .agg [.lit (.int .i64 1), .lit (.int .i64 1)], .agg [.lit (.int .i64 1), .lit (.int .i64 1)], .agg [.lit (.int .i64 1), .lit (.int .i64 1)], .agg [.lit (.int .i64 2), .lit (.int .i64 2)], .agg [.lit (.int .i64 1), .lit (.int .i64 16)], .agg [.lit (.int .i64 1), .lit (.int .i64 16)]]

/-- 'quoratelaw08.CmdTells': WHATEVER THE INPUT: true; the input reads as it did. -/
def cmdTellsSpec : ChangeSpec := { name := "cmdTells", fn := fun _ => fun
  | [d1, d2, d3] => { results := [.lit (.bool true)], args := [d1, d2, d3] }
  | _ => none }
def cmdTellsRow : OpenClaim := { program := "ytfaplmpenlbajaadoor", sum := "ffbf7343daa5d611cb73d68dc9238f65912a3973c987a804390a117f24a08fbc", func := "quorate/quoratelaw08.CmdTells", spec := "cmdTells", unfollowed := true, recurses := true, named := ["quorate/cmd.keysOf"], apart := false, laid := [("quorate/cmd.keysOf", laid_quorate_cmd_keysOf)] }
def CmdTellsSaid : Prop := cmdTellsRow.holds Tryd.pinned (OpenSpec.ofChange cmdTellsSpec)

/-- ITS FALSE NEIGHBOUR: 'it returns false'. Refute it at one input. -/
def cmdTellsWrong : ChangeSpec := { name := "cmdTells", fn := fun _ => fun
  | [d1, d2, d3] => { results := [.lit (.bool false)], args := [d1, d2, d3] }
  | _ => none }
def CmdTellsWrongFalsely : Prop := cmdTellsRow.holds Tryd.pinned (OpenSpec.ofChange cmdTellsWrong)

/-- 'quoratelaw08.CmdTakes': WHATEVER THE INPUT: true; the input reads as it did. -/
def cmdTakesSpec : ChangeSpec := { name := "cmdTakes", fn := fun _ => fun
  | [d1, d2] => { results := [.lit (.bool true)], args := [d1, d2] }
  | _ => none }
def cmdTakesRow : OpenClaim := { program := "ytfaplmpenlbajaadoor", sum := "ffbf7343daa5d611cb73d68dc9238f65912a3973c987a804390a117f24a08fbc", func := "quorate/quoratelaw08.CmdTakes", spec := "cmdTakes", unfollowed := true, recurses := true, named := ["quorate/cmd.keysOf"], apart := false, laid := [("quorate/cmd.keysOf", laid_quorate_cmd_keysOf)] }
def CmdTakesSaid : Prop := cmdTakesRow.holds Tryd.pinned (OpenSpec.ofChange cmdTakesSpec)

/-- ITS FALSE NEIGHBOUR: 'it returns false'. Refute it at one input. -/
def cmdTakesWrong : ChangeSpec := { name := "cmdTakes", fn := fun _ => fun
  | [d1, d2] => { results := [.lit (.bool false)], args := [d1, d2] }
  | _ => none }
def CmdTakesWrongFalsely : Prop := cmdTakesRow.holds Tryd.pinned (OpenSpec.ofChange cmdTakesWrong)

/-- 'quoratelaw08.CmdBack': WHATEVER THE INPUT: true; the input reads as it did. -/
def cmdBackSpec : ChangeSpec := { name := "cmdBack", fn := fun _ => fun
  | [d1, d2] => { results := [.lit (.bool true)], args := [d1, d2] }
  | _ => none }
def cmdBackRow : OpenClaim := { program := "ytfaplmpenlbajaadoor", sum := "ffbf7343daa5d611cb73d68dc9238f65912a3973c987a804390a117f24a08fbc", func := "quorate/quoratelaw08.CmdBack", spec := "cmdBack", unfollowed := true, recurses := true, named := ["quorate/cmd.keysOf"], apart := false, laid := [("quorate/cmd.keysOf", laid_quorate_cmd_keysOf)] }
def CmdBackSaid : Prop := cmdBackRow.holds Tryd.pinned (OpenSpec.ofChange cmdBackSpec)

/-- ITS FALSE NEIGHBOUR: 'it returns false'. Refute it at one input. -/
def cmdBackWrong : ChangeSpec := { name := "cmdBack", fn := fun _ => fun
  | [d1, d2] => { results := [.lit (.bool false)], args := [d1, d2] }
  | _ => none }
def CmdBackWrongFalsely : Prop := cmdBackRow.holds Tryd.pinned (OpenSpec.ofChange cmdBackWrong)

/- THE SECOND FORM. 'bulk': how many values and letters a reading holds, each counted each time it is reached (what is shared counts as often as it is met; a slice's spare places count too). A statement '..UptoSaid' is the law's where the arguments, and the package variables that the reading takes, are together of bulk at most 1048576: NARROWER than '..Said'. Prove '..Said' where nothing that the law and all that it calls make is longer than what came in: it says more and counts as full. Else prove '..UptoSaid'. A law counts once. -/
mutual
def uptoBulk {H : Type} : DataW H → Nat
  | .lit (.string bytes) => bytes.length + 1
  | .lit _ => 1
  | .nil => 1
  | .ptr d => uptoBulk d + 1
  | .slice elems spare => uptoBulkAll elems + uptoBulkAll spare + 1
  | .agg parts => uptoBulkAll parts + 1
  | .iface _ d => uptoBulk d + 1
  | .map entries => uptoBulkEntries entries + 1
  | .held _ => 1
def uptoBulkAll {H : Type} : List (DataW H) → Nat
  | [] => 0
  | d :: r => uptoBulk d + uptoBulkAll r
def uptoBulkEntries {H : Type} : List (Lit × DataW H) → Nat
  | [] => 0
  | x :: r => uptoBulkEntry x + uptoBulkEntries r
def uptoBulkEntry {H : Type} : Lit × DataW H → Nat
  | (.string bytes, d) => bytes.length + uptoBulk d + 1
  | (_, d) => uptoBulk d + 1
 end
def uptoSmall : (H : Type) → List (DataW H) → Bool := fun _ ds => decide (uptoBulkAll ds ≤ 1048576)
def OpenSpec.upto (s : _root_.Go.ChangeSpec) : _root_.Go.OpenSpec := { _root_.Go.OpenSpec.ofChange s with cond := some uptoSmall }

/-- 'quoratelaw08.CmdTells', WHERE WHAT IT READS IS OF BULK AT MOST 1048576: true; the input reads as it did. -/
def cmdTellsUptoRow : OpenClaim := { program := "ytfaplmpenlbajaadoor", sum := "ffbf7343daa5d611cb73d68dc9238f65912a3973c987a804390a117f24a08fbc", func := "quorate/quoratelaw08.CmdTells", spec := "cmdTells", unfollowed := true, recurses := true, named := ["quorate/cmd.keysOf"], apart := false, laid := [("quorate/cmd.keysOf", laid_quorate_cmd_keysOf)], narrowed := true }
def CmdTellsUptoSaid : Prop := cmdTellsUptoRow.holds Tryd.pinned (OpenSpec.upto cmdTellsSpec)

/-- 'quoratelaw08.CmdTakes', WHERE WHAT IT READS IS OF BULK AT MOST 1048576: true; the input reads as it did. -/
def cmdTakesUptoRow : OpenClaim := { program := "ytfaplmpenlbajaadoor", sum := "ffbf7343daa5d611cb73d68dc9238f65912a3973c987a804390a117f24a08fbc", func := "quorate/quoratelaw08.CmdTakes", spec := "cmdTakes", unfollowed := true, recurses := true, named := ["quorate/cmd.keysOf"], apart := false, laid := [("quorate/cmd.keysOf", laid_quorate_cmd_keysOf)], narrowed := true }
def CmdTakesUptoSaid : Prop := cmdTakesUptoRow.holds Tryd.pinned (OpenSpec.upto cmdTakesSpec)

/-- 'quoratelaw08.CmdBack', WHERE WHAT IT READS IS OF BULK AT MOST 1048576: true; the input reads as it did. -/
def cmdBackUptoRow : OpenClaim := { program := "ytfaplmpenlbajaadoor", sum := "ffbf7343daa5d611cb73d68dc9238f65912a3973c987a804390a117f24a08fbc", func := "quorate/quoratelaw08.CmdBack", spec := "cmdBack", unfollowed := true, recurses := true, named := ["quorate/cmd.keysOf"], apart := false, laid := [("quorate/cmd.keysOf", laid_quorate_cmd_keysOf)], narrowed := true }
def CmdBackUptoSaid : Prop := cmdBackUptoRow.holds Tryd.pinned (OpenSpec.upto cmdBackSpec)

end Rows
end Go.Proofs.YtfaplmpenlbajaaDoor
