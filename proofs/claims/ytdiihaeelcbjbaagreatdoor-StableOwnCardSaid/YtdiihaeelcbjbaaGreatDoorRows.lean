/-
  NARROWER THAN 'FOR EVERY INPUT', by the rows' own cells (each row's printed sentence says how): StableDead: laid · StableKeeps: laid · StableRises: laid · StableOwn: laid.
  DERIVED. THE GIVEN ROWS OF THIS SEAT. 4 by the template 'for every input the law returns true; each argument reads behind the call as it read before'; 0 by the template 'total and deterministic' (their statements: YtdiihaeelcbjbaaGreatDoorTotals.lean).
  GIVEN WITH THE SEED: the statements are not yours to turn. If you find one false, say at which input.
  Laid BY PROGRAM, IN A SANDBOX (cutbox-rows.mjs): the forced cells as the released guide's own fill.sh prints them over the translation fb931750d40df6e2… (all of the seat's roots in one cut). By AI agents, Wed Nov 11 2026. No macro, syntax, notation, axiom, sorry.
-/
import Derived.Test.YtdiihaeelcbjbaaGreatDoorChecked
import GoSem.Claim
import GoSem.ClaimJoined
import GoSem.ClaimMapViews
import Derived.JoinedTies
import Derived.KernelRfl
namespace Go.Proofs.YtdiihaeelcbjbaaGreatDoor
/- THE CELL 'sum', in the pinned program and in every row, IS THE sha256 OF THE DUMP (.gsa) THAT YtdiihaeelcbjbaaGreatDoorProg.lean LOADS. Nothing in Lean hashes anything: it is a label: what it is worth is what the hold of that sum in a sandbox is worth. -/
noncomputable def Tryz.pinned : Pinned := { name := "ytdiihaeelcbjbaagreatdoor", sum := "fb931750d40df6e24400599b5420f46438970003358cbff0ec2c5f52e48d8464", checked := Tryz.checked }
namespace Rows
def none {H : Type} : Left H := { results := [], args := [] }

/- WHAT THE LISTED PACKAGE-LEVEL VARIABLES READ AS WHEN THE CALL BEGINS. Each datum BY PROGRAM (the guide's laid-datum.mjs) off the statement by which the dump's own 'gosem.cut.vars' lays the variable. In a bare row this is a premise. The card (YtdiihaeelcbjbaaGreatDoorCards.lean) ties it to the program's text. -/
def laid_quorate_crc_effect {H : Type} : DataW H := .agg [.lit (.int .u32 0), .lit (.int .u32 274646895), .lit (.int .u32 549293790), .lit (.int .u32 820201905), .lit (.int .u32 1098587580), .lit (.int .u32 1361435347), .lit (.int .u32 1640403810), .lit (.int .u32 1905808397), .lit (.int .u32 2197175160), .lit (.int .u32 2460548119), .lit (.int .u32 2722870694), .lit (.int .u32 2987750089), .lit (.int .u32 3280807620), .lit (.int .u32 3553878443), .lit (.int .u32 3811616794), .lit (.int .u32 4084100981)]

/-- 'quoratelaw16.StableDead': WHATEVER THE INPUT: true; the input reads as it did. -/
def stableDeadSpec : ChangeSpec := { name := "stableDead", fn := fun _ => fun
  | [d1, d2, d3] => { results := [.lit (.bool true)], args := [d1, d2, d3] }
  | _ => none }
def stableDeadRow : OpenClaim := { program := "ytdiihaeelcbjbaagreatdoor", sum := "fb931750d40df6e24400599b5420f46438970003358cbff0ec2c5f52e48d8464", func := "quorate/quoratelaw16.StableDead", spec := "stableDead", unfollowed := true, recurses := true, named := ["quorate/crc.effect"], apart := false, laid := [("quorate/crc.effect", laid_quorate_crc_effect)] }
def StableDeadSaid : Prop := stableDeadRow.holds Tryz.pinned (OpenSpec.ofChange stableDeadSpec)

/-- ITS FALSE NEIGHBOUR: 'it returns false'. Refute it at one input. -/
def stableDeadWrong : ChangeSpec := { name := "stableDead", fn := fun _ => fun
  | [d1, d2, d3] => { results := [.lit (.bool false)], args := [d1, d2, d3] }
  | _ => none }
def StableDeadWrongFalsely : Prop := stableDeadRow.holds Tryz.pinned (OpenSpec.ofChange stableDeadWrong)

/-- 'quoratelaw16.StableKeeps': WHATEVER THE INPUT: true; the input reads as it did. -/
def stableKeepsSpec : ChangeSpec := { name := "stableKeeps", fn := fun _ => fun
  | [d1, d2, d3, d4] => { results := [.lit (.bool true)], args := [d1, d2, d3, d4] }
  | _ => none }
def stableKeepsRow : OpenClaim := { program := "ytdiihaeelcbjbaagreatdoor", sum := "fb931750d40df6e24400599b5420f46438970003358cbff0ec2c5f52e48d8464", func := "quorate/quoratelaw16.StableKeeps", spec := "stableKeeps", unfollowed := true, recurses := true, named := ["quorate/crc.effect"], apart := false, laid := [("quorate/crc.effect", laid_quorate_crc_effect)] }
def StableKeepsSaid : Prop := stableKeepsRow.holds Tryz.pinned (OpenSpec.ofChange stableKeepsSpec)

/-- ITS FALSE NEIGHBOUR: 'it returns false'. Refute it at one input. -/
def stableKeepsWrong : ChangeSpec := { name := "stableKeeps", fn := fun _ => fun
  | [d1, d2, d3, d4] => { results := [.lit (.bool false)], args := [d1, d2, d3, d4] }
  | _ => none }
def StableKeepsWrongFalsely : Prop := stableKeepsRow.holds Tryz.pinned (OpenSpec.ofChange stableKeepsWrong)

/-- 'quoratelaw16.StableRises': WHATEVER THE INPUT: true; the input reads as it did. -/
def stableRisesSpec : ChangeSpec := { name := "stableRises", fn := fun _ => fun
  | [d] => { results := [.lit (.bool true)], args := [d] }
  | _ => none }
def stableRisesRow : OpenClaim := { program := "ytdiihaeelcbjbaagreatdoor", sum := "fb931750d40df6e24400599b5420f46438970003358cbff0ec2c5f52e48d8464", func := "quorate/quoratelaw16.StableRises", spec := "stableRises", unfollowed := true, recurses := true, named := ["quorate/crc.effect"], apart := false, laid := [("quorate/crc.effect", laid_quorate_crc_effect)] }
def StableRisesSaid : Prop := stableRisesRow.holds Tryz.pinned (OpenSpec.ofChange stableRisesSpec)

/-- ITS FALSE NEIGHBOUR: 'it returns false'. Refute it at one input. -/
def stableRisesWrong : ChangeSpec := { name := "stableRises", fn := fun _ => fun
  | [d] => { results := [.lit (.bool false)], args := [d] }
  | _ => none }
def StableRisesWrongFalsely : Prop := stableRisesRow.holds Tryz.pinned (OpenSpec.ofChange stableRisesWrong)

/-- 'quoratelaw16.StableOwn': WHATEVER THE INPUT: true; the input reads as it did. -/
def stableOwnSpec : ChangeSpec := { name := "stableOwn", fn := fun _ => fun
  | [d1, d2, d3] => { results := [.lit (.bool true)], args := [d1, d2, d3] }
  | _ => none }
def stableOwnRow : OpenClaim := { program := "ytdiihaeelcbjbaagreatdoor", sum := "fb931750d40df6e24400599b5420f46438970003358cbff0ec2c5f52e48d8464", func := "quorate/quoratelaw16.StableOwn", spec := "stableOwn", unfollowed := true, recurses := true, named := ["quorate/crc.effect"], apart := false, laid := [("quorate/crc.effect", laid_quorate_crc_effect)] }
def StableOwnSaid : Prop := stableOwnRow.holds Tryz.pinned (OpenSpec.ofChange stableOwnSpec)

/-- ITS FALSE NEIGHBOUR: 'it returns false'. Refute it at one input. -/
def stableOwnWrong : ChangeSpec := { name := "stableOwn", fn := fun _ => fun
  | [d1, d2, d3] => { results := [.lit (.bool false)], args := [d1, d2, d3] }
  | _ => none }
def StableOwnWrongFalsely : Prop := stableOwnRow.holds Tryz.pinned (OpenSpec.ofChange stableOwnWrong)

/- THE SECOND FORM. 'bulk': how many values and letters a reading holds, each counted each time it is reached (what is shared counts as often as it is met; a slice's spare places count too). A statement '..UptoSaid' is the law's where the arguments, and the package variables that the reading takes, are together of bulk at most 1048576: NARROWER than '..Said'. Prove '..Said' where nothing that the law and all that it calls make is longer than what came in: it says more and counts as full. Else prove '..UptoSaid'. A law counts once. -/
mutual
def uptoBulk {H : Type} : DataW H → Nat
  | .lit (.string bytes) => bytes.length + 1
  | .lit _ => 1
  | .nil => 1
  | .ptr d => uptoBulk d + 1
  | .slice elems spare => uptoBulkAll elems + uptoBulkAll spare + 1
  | .agg parts => uptoBulkAll parts + 1
  | .iface _ d => uptoBulk d + 1
  | .map entries => uptoBulkEntries entries + 1
  | .held _ => 1
def uptoBulkAll {H : Type} : List (DataW H) → Nat
  | [] => 0
  | d :: r => uptoBulk d + uptoBulkAll r
def uptoBulkEntries {H : Type} : List (Lit × DataW H) → Nat
  | [] => 0
  | x :: r => uptoBulkEntry x + uptoBulkEntries r
def uptoBulkEntry {H : Type} : Lit × DataW H → Nat
  | (.string bytes, d) => bytes.length + uptoBulk d + 1
  | (_, d) => uptoBulk d + 1
 end
def uptoSmall : (H : Type) → List (DataW H) → Bool := fun _ ds => decide (uptoBulkAll ds ≤ 1048576)
def OpenSpec.upto (s : _root_.Go.ChangeSpec) : _root_.Go.OpenSpec := { _root_.Go.OpenSpec.ofChange s with cond := some uptoSmall }

/-- 'quoratelaw16.StableDead', WHERE WHAT IT READS IS OF BULK AT MOST 1048576: true; the input reads as it did. -/
def stableDeadUptoRow : OpenClaim := { program := "ytdiihaeelcbjbaagreatdoor", sum := "fb931750d40df6e24400599b5420f46438970003358cbff0ec2c5f52e48d8464", func := "quorate/quoratelaw16.StableDead", spec := "stableDead", unfollowed := true, recurses := true, named := ["quorate/crc.effect"], apart := false, laid := [("quorate/crc.effect", laid_quorate_crc_effect)], narrowed := true }
def StableDeadUptoSaid : Prop := stableDeadUptoRow.holds Tryz.pinned (OpenSpec.upto stableDeadSpec)

/-- 'quoratelaw16.StableKeeps', WHERE WHAT IT READS IS OF BULK AT MOST 1048576: true; the input reads as it did. -/
def stableKeepsUptoRow : OpenClaim := { program := "ytdiihaeelcbjbaagreatdoor", sum := "fb931750d40df6e24400599b5420f46438970003358cbff0ec2c5f52e48d8464", func := "quorate/quoratelaw16.StableKeeps", spec := "stableKeeps", unfollowed := true, recurses := true, named := ["quorate/crc.effect"], apart := false, laid := [("quorate/crc.effect", laid_quorate_crc_effect)], narrowed := true }
def StableKeepsUptoSaid : Prop := stableKeepsUptoRow.holds Tryz.pinned (OpenSpec.upto stableKeepsSpec)

/-- 'quoratelaw16.StableRises', WHERE WHAT IT READS IS OF BULK AT MOST 1048576: true; the input reads as it did. -/
def stableRisesUptoRow : OpenClaim := { program := "ytdiihaeelcbjbaagreatdoor", sum := "fb931750d40df6e24400599b5420f46438970003358cbff0ec2c5f52e48d8464", func := "quorate/quoratelaw16.StableRises", spec := "stableRises", unfollowed := true, recurses := true, named := ["quorate/crc.effect"], apart := false, laid := [("quorate/crc.effect", laid_quorate_crc_effect)], narrowed := true }
def StableRisesUptoSaid : Prop := stableRisesUptoRow.holds Tryz.pinned (OpenSpec.upto stableRisesSpec)

/-- 'quoratelaw16.StableOwn', WHERE WHAT IT READS IS OF BULK AT MOST 1048576: true; the input reads as it did. -/
def stableOwnUptoRow : OpenClaim := { program := "ytdiihaeelcbjbaagreatdoor", sum := "fb931750d40df6e24400599b5420f46438970003358cbff0ec2c5f52e48d8464", func := "quorate/quoratelaw16.StableOwn", spec := "stableOwn", unfollowed := true, recurses := true, named := ["quorate/crc.effect"], apart := false, laid := [("quorate/crc.effect", laid_quorate_crc_effect)], narrowed := true }
def StableOwnUptoSaid : Prop := stableOwnUptoRow.holds Tryz.pinned (OpenSpec.upto stableOwnSpec)

end Rows
end Go.Proofs.YtdiihaeelcbjbaaGreatDoor
