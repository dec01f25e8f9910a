/-
  No cell of these rows narrows 'for every input' (looked for: loops, veiled, ifaces, maps, wideKeys, modest, calm, conditions, laid).
  DERIVED. THE GIVEN ROWS OF THIS SEAT. 5 by the template 'for every input the law returns true; each argument reads behind the call as it read before'; 0 by the template 'total and deterministic' (their statements: YtkeaeahiokgkiaaTotals.lean).
  GIVEN WITH THE SEED: the statements are not yours to turn. If you find one false, say at which input.
  Laid BY PROGRAM, IN A SANDBOX (cutbox-rows.mjs): the forced cells as the released guide's own fill.sh prints them over the translation 18a46b8fb036a156… (all of the seat's roots in one cut). By AI agents, Wed Nov 11 2026. No macro, syntax, notation, axiom, sorry.
-/
import Derived.Test.YtkeaeahiokgkiaaChecked
import GoSem.Claim
import GoSem.ClaimJoined
import GoSem.ClaimMapViews
import Derived.JoinedTies
import Derived.KernelRfl
namespace Go.Proofs.Ytkeaeahiokgkiaa
/- THE CELL 'sum', in the pinned program and in every row, IS THE sha256 OF THE DUMP (.gsa) THAT YtkeaeahiokgkiaaProg.lean LOADS. Nothing in Lean hashes anything: it is a label: what it is worth is what the hold of that sum in a sandbox is worth. -/
noncomputable def Try.pinned : Pinned := { name := "ytkeaeahiokgkiaa", sum := "18a46b8fb036a1565754d14df266611e42431a5a09a6769c690cf44cdb344863", checked := Try.checked }
namespace Rows
def none {H : Type} : Left H := { results := [], args := [] }

/-- 'quoratelaw14.BallotCalls': WHATEVER THE INPUT: true; the input reads as it did. -/
def ballotCallsSpec : ChangeSpec := { name := "ballotCalls", fn := fun _ => fun
  | [d1, d2, d3, d4, d5] => { results := [.lit (.bool true)], args := [d1, d2, d3, d4, d5] }
  | _ => none }
def ballotCallsRow : OpenClaim := { program := "ytkeaeahiokgkiaa", sum := "18a46b8fb036a1565754d14df266611e42431a5a09a6769c690cf44cdb344863", func := "quorate/quoratelaw14.BallotCalls", spec := "ballotCalls", unfollowed := true, recurses := true, apart := false }
def BallotCallsSaid : Prop := ballotCallsRow.holds Try.pinned (OpenSpec.ofChange ballotCallsSpec)

/-- ITS FALSE NEIGHBOUR: 'it returns false'. Refute it at one input. -/
def ballotCallsWrong : ChangeSpec := { name := "ballotCalls", fn := fun _ => fun
  | [d1, d2, d3, d4, d5] => { results := [.lit (.bool false)], args := [d1, d2, d3, d4, d5] }
  | _ => none }
def BallotCallsWrongFalsely : Prop := ballotCallsRow.holds Try.pinned (OpenSpec.ofChange ballotCallsWrong)

/-- 'quoratelaw14.BallotReads': WHATEVER THE INPUT: true; the input reads as it did. -/
def ballotReadsSpec : ChangeSpec := { name := "ballotReads", fn := fun _ => fun
  | [d] => { results := [.lit (.bool true)], args := [d] }
  | _ => none }
def ballotReadsRow : OpenClaim := { program := "ytkeaeahiokgkiaa", sum := "18a46b8fb036a1565754d14df266611e42431a5a09a6769c690cf44cdb344863", func := "quorate/quoratelaw14.BallotReads", spec := "ballotReads", unfollowed := true, recurses := true, apart := false }
def BallotReadsSaid : Prop := ballotReadsRow.holds Try.pinned (OpenSpec.ofChange ballotReadsSpec)

/-- ITS FALSE NEIGHBOUR: 'it returns false'. Refute it at one input. -/
def ballotReadsWrong : ChangeSpec := { name := "ballotReads", fn := fun _ => fun
  | [d] => { results := [.lit (.bool false)], args := [d] }
  | _ => none }
def BallotReadsWrongFalsely : Prop := ballotReadsRow.holds Try.pinned (OpenSpec.ofChange ballotReadsWrong)

/-- 'quoratelaw14.BallotOrder': WHATEVER THE INPUT: true; the input reads as it did. -/
def ballotOrderSpec : ChangeSpec := { name := "ballotOrder", fn := fun _ => fun
  | [d1, d2, d3, d4] => { results := [.lit (.bool true)], args := [d1, d2, d3, d4] }
  | _ => none }
def ballotOrderRow : OpenClaim := { program := "ytkeaeahiokgkiaa", sum := "18a46b8fb036a1565754d14df266611e42431a5a09a6769c690cf44cdb344863", func := "quorate/quoratelaw14.BallotOrder", spec := "ballotOrder", unfollowed := true, recurses := true, apart := false }
def BallotOrderSaid : Prop := ballotOrderRow.holds Try.pinned (OpenSpec.ofChange ballotOrderSpec)

/-- ITS FALSE NEIGHBOUR: 'it returns false'. Refute it at one input. -/
def ballotOrderWrong : ChangeSpec := { name := "ballotOrder", fn := fun _ => fun
  | [d1, d2, d3, d4] => { results := [.lit (.bool false)], args := [d1, d2, d3, d4] }
  | _ => none }
def BallotOrderWrongFalsely : Prop := ballotOrderRow.holds Try.pinned (OpenSpec.ofChange ballotOrderWrong)

/-- 'quoratelaw14.BallotNext': WHATEVER THE INPUT: true; the input reads as it did. -/
def ballotNextSpec : ChangeSpec := { name := "ballotNext", fn := fun _ => fun
  | [d1, d2, d3, d4] => { results := [.lit (.bool true)], args := [d1, d2, d3, d4] }
  | _ => none }
def ballotNextRow : OpenClaim := { program := "ytkeaeahiokgkiaa", sum := "18a46b8fb036a1565754d14df266611e42431a5a09a6769c690cf44cdb344863", func := "quorate/quoratelaw14.BallotNext", spec := "ballotNext", unfollowed := true, recurses := true, apart := false }
def BallotNextSaid : Prop := ballotNextRow.holds Try.pinned (OpenSpec.ofChange ballotNextSpec)

/-- ITS FALSE NEIGHBOUR: 'it returns false'. Refute it at one input. -/
def ballotNextWrong : ChangeSpec := { name := "ballotNext", fn := fun _ => fun
  | [d1, d2, d3, d4] => { results := [.lit (.bool false)], args := [d1, d2, d3, d4] }
  | _ => none }
def BallotNextWrongFalsely : Prop := ballotNextRow.holds Try.pinned (OpenSpec.ofChange ballotNextWrong)

/-- 'quoratelaw14.BallotBack': WHATEVER THE INPUT: true; the input reads as it did. -/
def ballotBackSpec : ChangeSpec := { name := "ballotBack", fn := fun _ => fun
  | [d] => { results := [.lit (.bool true)], args := [d] }
  | _ => none }
def ballotBackRow : OpenClaim := { program := "ytkeaeahiokgkiaa", sum := "18a46b8fb036a1565754d14df266611e42431a5a09a6769c690cf44cdb344863", func := "quorate/quoratelaw14.BallotBack", spec := "ballotBack", unfollowed := true, recurses := true, apart := false }
def BallotBackSaid : Prop := ballotBackRow.holds Try.pinned (OpenSpec.ofChange ballotBackSpec)

/-- ITS FALSE NEIGHBOUR: 'it returns false'. Refute it at one input. -/
def ballotBackWrong : ChangeSpec := { name := "ballotBack", fn := fun _ => fun
  | [d] => { results := [.lit (.bool false)], args := [d] }
  | _ => none }
def BallotBackWrongFalsely : Prop := ballotBackRow.holds Try.pinned (OpenSpec.ofChange ballotBackWrong)

/- THE SECOND FORM. 'bulk': how many values and letters a reading holds, each counted each time it is reached (what is shared counts as often as it is met; a slice's spare places count too). A statement '..UptoSaid' is the law's where the arguments, and the package variables that the reading takes, are together of bulk at most 1048576: NARROWER than '..Said'. Prove '..Said' where nothing that the law and all that it calls make is longer than what came in: it says more and counts as full. Else prove '..UptoSaid'. A law counts once. -/
mutual
def uptoBulk {H : Type} : DataW H → Nat
  | .lit (.string bytes) => bytes.length + 1
  | .lit _ => 1
  | .nil => 1
  | .ptr d => uptoBulk d + 1
  | .slice elems spare => uptoBulkAll elems + uptoBulkAll spare + 1
  | .agg parts => uptoBulkAll parts + 1
  | .iface _ d => uptoBulk d + 1
  | .map entries => uptoBulkEntries entries + 1
  | .held _ => 1
def uptoBulkAll {H : Type} : List (DataW H) → Nat
  | [] => 0
  | d :: r => uptoBulk d + uptoBulkAll r
def uptoBulkEntries {H : Type} : List (Lit × DataW H) → Nat
  | [] => 0
  | x :: r => uptoBulkEntry x + uptoBulkEntries r
def uptoBulkEntry {H : Type} : Lit × DataW H → Nat
  | (.string bytes, d) => bytes.length + uptoBulk d + 1
  | (_, d) => uptoBulk d + 1
 end
def uptoSmall : (H : Type) → List (DataW H) → Bool := fun _ ds => decide (uptoBulkAll ds ≤ 1048576)
def OpenSpec.upto (s : _root_.Go.ChangeSpec) : _root_.Go.OpenSpec := { _root_.Go.OpenSpec.ofChange s with cond := some uptoSmall }

/-- 'quoratelaw14.BallotCalls', WHERE WHAT IT READS IS OF BULK AT MOST 1048576: true; the input reads as it did. -/
def ballotCallsUptoRow : OpenClaim := { program := "ytkeaeahiokgkiaa", sum := "18a46b8fb036a1565754d14df266611e42431a5a09a6769c690cf44cdb344863", func := "quorate/quoratelaw14.BallotCalls", spec := "ballotCalls", unfollowed := true, recurses := true, apart := false, narrowed := true }
def BallotCallsUptoSaid : Prop := ballotCallsUptoRow.holds Try.pinned (OpenSpec.upto ballotCallsSpec)

/-- 'quoratelaw14.BallotReads', WHERE WHAT IT READS IS OF BULK AT MOST 1048576: true; the input reads as it did. -/
def ballotReadsUptoRow : OpenClaim := { program := "ytkeaeahiokgkiaa", sum := "18a46b8fb036a1565754d14df266611e42431a5a09a6769c690cf44cdb344863", func := "quorate/quoratelaw14.BallotReads", spec := "ballotReads", unfollowed := true, recurses := true, apart := false, narrowed := true }
def BallotReadsUptoSaid : Prop := ballotReadsUptoRow.holds Try.pinned (OpenSpec.upto ballotReadsSpec)

/-- 'quoratelaw14.BallotOrder', WHERE WHAT IT READS IS OF BULK AT MOST 1048576: true; the input reads as it did. -/
def ballotOrderUptoRow : OpenClaim := { program := "ytkeaeahiokgkiaa", sum := "18a46b8fb036a1565754d14df266611e42431a5a09a6769c690cf44cdb344863", func := "quorate/quoratelaw14.BallotOrder", spec := "ballotOrder", unfollowed := true, recurses := true, apart := false, narrowed := true }
def BallotOrderUptoSaid : Prop := ballotOrderUptoRow.holds Try.pinned (OpenSpec.upto ballotOrderSpec)

/-- 'quoratelaw14.BallotNext', WHERE WHAT IT READS IS OF BULK AT MOST 1048576: true; the input reads as it did. -/
def ballotNextUptoRow : OpenClaim := { program := "ytkeaeahiokgkiaa", sum := "18a46b8fb036a1565754d14df266611e42431a5a09a6769c690cf44cdb344863", func := "quorate/quoratelaw14.BallotNext", spec := "ballotNext", unfollowed := true, recurses := true, apart := false, narrowed := true }
def BallotNextUptoSaid : Prop := ballotNextUptoRow.holds Try.pinned (OpenSpec.upto ballotNextSpec)

/-- 'quoratelaw14.BallotBack', WHERE WHAT IT READS IS OF BULK AT MOST 1048576: true; the input reads as it did. -/
def ballotBackUptoRow : OpenClaim := { program := "ytkeaeahiokgkiaa", sum := "18a46b8fb036a1565754d14df266611e42431a5a09a6769c690cf44cdb344863", func := "quorate/quoratelaw14.BallotBack", spec := "ballotBack", unfollowed := true, recurses := true, apart := false, narrowed := true }
def BallotBackUptoSaid : Prop := ballotBackUptoRow.holds Try.pinned (OpenSpec.upto ballotBackSpec)

end Rows
end Go.Proofs.Ytkeaeahiokgkiaa
