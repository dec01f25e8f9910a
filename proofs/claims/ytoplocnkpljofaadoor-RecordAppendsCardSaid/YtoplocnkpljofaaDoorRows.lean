/-
  NARROWER THAN 'FOR EVERY INPUT', by the rows' own cells (each row's printed sentence says how): RecordOpens: laid · RecordAppends: laid · RecordKeeps: laid.
  DERIVED. THE GIVEN ROWS OF THIS SEAT. 3 by the template 'for every input the law returns true; each argument reads behind the call as it read before'; 0 by the template 'total and deterministic' (their statements: YtoplocnkpljofaaDoorTotals.lean).
  GIVEN WITH THE SEED: the statements are not yours to turn. If you find one false, say at which input.
  Laid BY PROGRAM, IN A SANDBOX (cutbox-rows.mjs): the forced cells as the released guide's own fill.sh prints them over the translation 18eaf55eec40eaaa… (all of the seat's roots in one cut). By AI agents, Wed Nov 11 2026. No macro, syntax, notation, axiom, sorry.
-/
import Derived.Test.YtoplocnkpljofaaDoorChecked
import GoSem.Claim
import GoSem.ClaimJoined
import GoSem.ClaimMapViews
import Derived.JoinedTies
import Derived.KernelRfl
namespace Go.Proofs.YtoplocnkpljofaaDoor
/- THE CELL 'sum', in the pinned program and in every row, IS THE sha256 OF THE DUMP (.gsa) THAT YtoplocnkpljofaaDoorProg.lean LOADS. Nothing in Lean hashes anything: it is a label: what it is worth is what the hold of that sum in a sandbox is worth. -/
noncomputable def Tryd.pinned : Pinned := { name := "ytoplocnkpljofaadoor", sum := "18eaf55eec40eaaa9f9564e3b95783408ed431514b18bed91301e52a76bf409a", checked := Tryd.checked }
namespace Rows
def none {H : Type} : Left H := { results := [], args := [] }

/- WHAT THE LISTED PACKAGE-LEVEL VARIABLES READ AS WHEN THE CALL BEGINS. Each datum BY PROGRAM (the guide's laid-datum.mjs) off the statement by which the dump's own 'gosem.cut.vars' lays the variable. In a bare row this is a premise. The card (YtoplocnkpljofaaDoorCards.lean) ties it to the program's text. -/
def laid_quorate_crc_effect {H : Type} : DataW H := .agg [.lit (.int .u32 0), .lit (.int .u32 274646895), .lit (.int .u32 549293790), .lit (.int .u32 820201905), .lit (.int .u32 1098587580), .lit (.int .u32 1361435347), .lit (.int .u32 1640403810), .lit (.int .u32 1905808397), .lit (.int .u32 2197175160), .lit (.int .u32 2460548119), .lit (.int .u32 2722870694), .lit (.int .u32 2987750089), .lit (.int .u32 3280807620), .lit (.int .u32 3553878443), .lit (.int .u32 3811616794), .lit (.int .u32 4084100981)]

/-- 'quoratelaw06.RecordOpens': WHATEVER THE INPUT: true; the input reads as it did. -/
def recordOpensSpec : ChangeSpec := { name := "recordOpens", fn := fun _ => fun
  | [d] => { results := [.lit (.bool true)], args := [d] }
  | _ => none }
def recordOpensRow : OpenClaim := { program := "ytoplocnkpljofaadoor", sum := "18eaf55eec40eaaa9f9564e3b95783408ed431514b18bed91301e52a76bf409a", func := "quorate/quoratelaw06.RecordOpens", spec := "recordOpens", unfollowed := true, recurses := true, named := ["quorate/crc.effect"], apart := false, laid := [("quorate/crc.effect", laid_quorate_crc_effect)] }
def RecordOpensSaid : Prop := recordOpensRow.holds Tryd.pinned (OpenSpec.ofChange recordOpensSpec)

/-- ITS FALSE NEIGHBOUR: 'it returns false'. Refute it at one input. -/
def recordOpensWrong : ChangeSpec := { name := "recordOpens", fn := fun _ => fun
  | [d] => { results := [.lit (.bool false)], args := [d] }
  | _ => none }
def RecordOpensWrongFalsely : Prop := recordOpensRow.holds Tryd.pinned (OpenSpec.ofChange recordOpensWrong)

/-- 'quoratelaw06.RecordAppends': WHATEVER THE INPUT: true; the input reads as it did. -/
def recordAppendsSpec : ChangeSpec := { name := "recordAppends", fn := fun _ => fun
  | [d1, d2] => { results := [.lit (.bool true)], args := [d1, d2] }
  | _ => none }
def recordAppendsRow : OpenClaim := { program := "ytoplocnkpljofaadoor", sum := "18eaf55eec40eaaa9f9564e3b95783408ed431514b18bed91301e52a76bf409a", func := "quorate/quoratelaw06.RecordAppends", spec := "recordAppends", unfollowed := true, recurses := true, named := ["quorate/crc.effect"], apart := false, laid := [("quorate/crc.effect", laid_quorate_crc_effect)] }
def RecordAppendsSaid : Prop := recordAppendsRow.holds Tryd.pinned (OpenSpec.ofChange recordAppendsSpec)

/-- ITS FALSE NEIGHBOUR: 'it returns false'. Refute it at one input. -/
def recordAppendsWrong : ChangeSpec := { name := "recordAppends", fn := fun _ => fun
  | [d1, d2] => { results := [.lit (.bool false)], args := [d1, d2] }
  | _ => none }
def RecordAppendsWrongFalsely : Prop := recordAppendsRow.holds Tryd.pinned (OpenSpec.ofChange recordAppendsWrong)

/-- 'quoratelaw06.RecordKeeps': WHATEVER THE INPUT: true; the input reads as it did. -/
def recordKeepsSpec : ChangeSpec := { name := "recordKeeps", fn := fun _ => fun
  | [d1, d2, d3, d4] => { results := [.lit (.bool true)], args := [d1, d2, d3, d4] }
  | _ => none }
def recordKeepsRow : OpenClaim := { program := "ytoplocnkpljofaadoor", sum := "18eaf55eec40eaaa9f9564e3b95783408ed431514b18bed91301e52a76bf409a", func := "quorate/quoratelaw06.RecordKeeps", spec := "recordKeeps", unfollowed := true, recurses := true, named := ["quorate/crc.effect"], apart := false, laid := [("quorate/crc.effect", laid_quorate_crc_effect)] }
def RecordKeepsSaid : Prop := recordKeepsRow.holds Tryd.pinned (OpenSpec.ofChange recordKeepsSpec)

/-- ITS FALSE NEIGHBOUR: 'it returns false'. Refute it at one input. -/
def recordKeepsWrong : ChangeSpec := { name := "recordKeeps", fn := fun _ => fun
  | [d1, d2, d3, d4] => { results := [.lit (.bool false)], args := [d1, d2, d3, d4] }
  | _ => none }
def RecordKeepsWrongFalsely : Prop := recordKeepsRow.holds Tryd.pinned (OpenSpec.ofChange recordKeepsWrong)

/- THE SECOND FORM. 'bulk': how many values and letters a reading holds, each counted each time it is reached (what is shared counts as often as it is met; a slice's spare places count too). A statement '..UptoSaid' is the law's where the arguments, and the package variables that the reading takes, are together of bulk at most 1048576: NARROWER than '..Said'. Prove '..Said' where nothing that the law and all that it calls make is longer than what came in: it says more and counts as full. Else prove '..UptoSaid'. A law counts once. -/
mutual
def uptoBulk {H : Type} : DataW H → Nat
  | .lit (.string bytes) => bytes.length + 1
  | .lit _ => 1
  | .nil => 1
  | .ptr d => uptoBulk d + 1
  | .slice elems spare => uptoBulkAll elems + uptoBulkAll spare + 1
  | .agg parts => uptoBulkAll parts + 1
  | .iface _ d => uptoBulk d + 1
  | .map entries => uptoBulkEntries entries + 1
  | .held _ => 1
def uptoBulkAll {H : Type} : List (DataW H) → Nat
  | [] => 0
  | d :: r => uptoBulk d + uptoBulkAll r
def uptoBulkEntries {H : Type} : List (Lit × DataW H) → Nat
  | [] => 0
  | x :: r => uptoBulkEntry x + uptoBulkEntries r
def uptoBulkEntry {H : Type} : Lit × DataW H → Nat
  | (.string bytes, d) => bytes.length + uptoBulk d + 1
  | (_, d) => uptoBulk d + 1
 end
def uptoSmall : (H : Type) → List (DataW H) → Bool := fun _ ds => decide (uptoBulkAll ds ≤ 1048576)
def OpenSpec.upto (s : _root_.Go.ChangeSpec) : _root_.Go.OpenSpec := { _root_.Go.OpenSpec.ofChange s with cond := some uptoSmall }

/-- 'quoratelaw06.RecordOpens', WHERE WHAT IT READS IS OF BULK AT MOST 1048576: true; the input reads as it did. -/
def recordOpensUptoRow : OpenClaim := { program := "ytoplocnkpljofaadoor", sum := "18eaf55eec40eaaa9f9564e3b95783408ed431514b18bed91301e52a76bf409a", func := "quorate/quoratelaw06.RecordOpens", spec := "recordOpens", unfollowed := true, recurses := true, named := ["quorate/crc.effect"], apart := false, laid := [("quorate/crc.effect", laid_quorate_crc_effect)], narrowed := true }
def RecordOpensUptoSaid : Prop := recordOpensUptoRow.holds Tryd.pinned (OpenSpec.upto recordOpensSpec)

/-- 'quoratelaw06.RecordAppends', WHERE WHAT IT READS IS OF BULK AT MOST 1048576: true; the input reads as it did. -/
def recordAppendsUptoRow : OpenClaim := { program := "ytoplocnkpljofaadoor", sum := "18eaf55eec40eaaa9f9564e3b95783408ed431514b18bed91301e52a76bf409a", func := "quorate/quoratelaw06.RecordAppends", spec := "recordAppends", unfollowed := true, recurses := true, named := ["quorate/crc.effect"], apart := false, laid := [("quorate/crc.effect", laid_quorate_crc_effect)], narrowed := true }
def RecordAppendsUptoSaid : Prop := recordAppendsUptoRow.holds Tryd.pinned (OpenSpec.upto recordAppendsSpec)

/-- 'quoratelaw06.RecordKeeps', WHERE WHAT IT READS IS OF BULK AT MOST 1048576: true; the input reads as it did. -/
def recordKeepsUptoRow : OpenClaim := { program := "ytoplocnkpljofaadoor", sum := "18eaf55eec40eaaa9f9564e3b95783408ed431514b18bed91301e52a76bf409a", func := "quorate/quoratelaw06.RecordKeeps", spec := "recordKeeps", unfollowed := true, recurses := true, named := ["quorate/crc.effect"], apart := false, laid := [("quorate/crc.effect", laid_quorate_crc_effect)], narrowed := true }
def RecordKeepsUptoSaid : Prop := recordKeepsUptoRow.holds Tryd.pinned (OpenSpec.upto recordKeepsSpec)

end Rows
end Go.Proofs.YtoplocnkpljofaaDoor
