/-
  No cell of these rows narrows 'for every input' (looked for: loops, veiled, ifaces, maps, wideKeys, modest, calm, conditions, laid).
  DERIVED. THE GIVEN ROWS OF THIS SEAT. 3 by the template 'for every input the law returns true; each argument reads behind the call as it read before'; 0 by the template 'total and deterministic' (their statements: YtnpkaljmncehhaaTotals.lean).
  GIVEN WITH THE SEED: the statements are not yours to turn. If you find one false, say at which input.
  Laid BY PROGRAM, IN A SANDBOX (cutbox-rows.mjs): the forced cells as the released guide's own fill.sh prints them over the translation a8b4f09acf360378… (all of the seat's roots in one cut). By AI agents, Wed Nov 11 2026. No macro, syntax, notation, axiom, sorry.
-/
import Derived.Test.YtnpkaljmncehhaaChecked
import GoSem.Claim
import GoSem.ClaimJoined
import GoSem.ClaimMapViews
import Derived.JoinedTies
import Derived.KernelRfl
namespace Go.Proofs.Ytnpkaljmncehhaa
/- THE CELL 'sum', in the pinned program and in every row, IS THE sha256 OF THE DUMP (.gsa) THAT YtnpkaljmncehhaaProg.lean LOADS. Nothing in Lean hashes anything: it is a label: what it is worth is what the hold of that sum in a sandbox is worth. -/
noncomputable def Try.pinned : Pinned := { name := "ytnpkaljmncehhaa", sum := "a8b4f09acf360378fcad8f36299db77e7dd474e00e301c53123ab8c04131bb61", checked := Try.checked }
namespace Rows
def none {H : Type} : Left H := { results := [], args := [] }

/-- 'quoratelaw15.VotesPlay': WHATEVER THE INPUT: true; the input reads as it did. -/
def votesPlaySpec : ChangeSpec := { name := "votesPlay", fn := fun _ => fun
  | [d1, d2] => { results := [.lit (.bool true)], args := [d1, d2] }
  | _ => none }
def votesPlayRow : OpenClaim := { program := "ytnpkaljmncehhaa", sum := "a8b4f09acf360378fcad8f36299db77e7dd474e00e301c53123ab8c04131bb61", func := "quorate/quoratelaw15.VotesPlay", spec := "votesPlay", inPlace := ["slices.overlaps[quorate/votes.run[uint64]]"], unfollowed := true, recurses := true, apart := false }
def VotesPlaySaid : Prop := votesPlayRow.holds Try.pinned (OpenSpec.ofChange votesPlaySpec)

/-- ITS FALSE NEIGHBOUR: 'it returns false'. Refute it at one input. -/
def votesPlayWrong : ChangeSpec := { name := "votesPlay", fn := fun _ => fun
  | [d1, d2] => { results := [.lit (.bool false)], args := [d1, d2] }
  | _ => none }
def VotesPlayWrongFalsely : Prop := votesPlayRow.holds Try.pinned (OpenSpec.ofChange votesPlayWrong)

/-- 'quoratelaw15.VotesMeet': WHATEVER THE INPUT: true; the input reads as it did. -/
def votesMeetSpec : ChangeSpec := { name := "votesMeet", fn := fun _ => fun
  | [d1, d2, d3] => { results := [.lit (.bool true)], args := [d1, d2, d3] }
  | _ => none }
def votesMeetRow : OpenClaim := { program := "ytnpkaljmncehhaa", sum := "a8b4f09acf360378fcad8f36299db77e7dd474e00e301c53123ab8c04131bb61", func := "quorate/quoratelaw15.VotesMeet", spec := "votesMeet", inPlace := ["slices.overlaps[quorate/votes.run[uint64]]"], unfollowed := true, recurses := true, apart := false }
def VotesMeetSaid : Prop := votesMeetRow.holds Try.pinned (OpenSpec.ofChange votesMeetSpec)

/-- ITS FALSE NEIGHBOUR: 'it returns false'. Refute it at one input. -/
def votesMeetWrong : ChangeSpec := { name := "votesMeet", fn := fun _ => fun
  | [d1, d2, d3] => { results := [.lit (.bool false)], args := [d1, d2, d3] }
  | _ => none }
def VotesMeetWrongFalsely : Prop := votesMeetRow.holds Try.pinned (OpenSpec.ofChange votesMeetWrong)

/-- 'quoratelaw15.VotesOrder': WHATEVER THE INPUT: true; the input reads as it did. -/
def votesOrderSpec : ChangeSpec := { name := "votesOrder", fn := fun _ => fun
  | [d1, d2] => { results := [.lit (.bool true)], args := [d1, d2] }
  | _ => none }
def votesOrderRow : OpenClaim := { program := "ytnpkaljmncehhaa", sum := "a8b4f09acf360378fcad8f36299db77e7dd474e00e301c53123ab8c04131bb61", func := "quorate/quoratelaw15.VotesOrder", spec := "votesOrder", inPlace := ["slices.overlaps[quorate/votes.run[uint64]]"], unfollowed := true, recurses := true, apart := false }
def VotesOrderSaid : Prop := votesOrderRow.holds Try.pinned (OpenSpec.ofChange votesOrderSpec)

/-- ITS FALSE NEIGHBOUR: 'it returns false'. Refute it at one input. -/
def votesOrderWrong : ChangeSpec := { name := "votesOrder", fn := fun _ => fun
  | [d1, d2] => { results := [.lit (.bool false)], args := [d1, d2] }
  | _ => none }
def VotesOrderWrongFalsely : Prop := votesOrderRow.holds Try.pinned (OpenSpec.ofChange votesOrderWrong)

/- THE SECOND FORM. 'bulk': how many values and letters a reading holds, each counted each time it is reached (what is shared counts as often as it is met; a slice's spare places count too). A statement '..UptoSaid' is the law's where the arguments, and the package variables that the reading takes, are together of bulk at most 1048576: NARROWER than '..Said'. Prove '..Said' where nothing that the law and all that it calls make is longer than what came in: it says more and counts as full. Else prove '..UptoSaid'. A law counts once. -/
mutual
def uptoBulk {H : Type} : DataW H → Nat
  | .lit (.string bytes) => bytes.length + 1
  | .lit _ => 1
  | .nil => 1
  | .ptr d => uptoBulk d + 1
  | .slice elems spare => uptoBulkAll elems + uptoBulkAll spare + 1
  | .agg parts => uptoBulkAll parts + 1
  | .iface _ d => uptoBulk d + 1
  | .map entries => uptoBulkEntries entries + 1
  | .held _ => 1
def uptoBulkAll {H : Type} : List (DataW H) → Nat
  | [] => 0
  | d :: r => uptoBulk d + uptoBulkAll r
def uptoBulkEntries {H : Type} : List (Lit × DataW H) → Nat
  | [] => 0
  | x :: r => uptoBulkEntry x + uptoBulkEntries r
def uptoBulkEntry {H : Type} : Lit × DataW H → Nat
  | (.string bytes, d) => bytes.length + uptoBulk d + 1
  | (_, d) => uptoBulk d + 1
 end
def uptoSmall : (H : Type) → List (DataW H) → Bool := fun _ ds => decide (uptoBulkAll ds ≤ 1048576)
def OpenSpec.upto (s : _root_.Go.ChangeSpec) : _root_.Go.OpenSpec := { _root_.Go.OpenSpec.ofChange s with cond := some uptoSmall }

/-- 'quoratelaw15.VotesPlay', WHERE WHAT IT READS IS OF BULK AT MOST 1048576: true; the input reads as it did. -/
def votesPlayUptoRow : OpenClaim := { program := "ytnpkaljmncehhaa", sum := "a8b4f09acf360378fcad8f36299db77e7dd474e00e301c53123ab8c04131bb61", func := "quorate/quoratelaw15.VotesPlay", spec := "votesPlay", inPlace := ["slices.overlaps[quorate/votes.run[uint64]]"], unfollowed := true, recurses := true, apart := false, narrowed := true }
def VotesPlayUptoSaid : Prop := votesPlayUptoRow.holds Try.pinned (OpenSpec.upto votesPlaySpec)

/-- 'quoratelaw15.VotesMeet', WHERE WHAT IT READS IS OF BULK AT MOST 1048576: true; the input reads as it did. -/
def votesMeetUptoRow : OpenClaim := { program := "ytnpkaljmncehhaa", sum := "a8b4f09acf360378fcad8f36299db77e7dd474e00e301c53123ab8c04131bb61", func := "quorate/quoratelaw15.VotesMeet", spec := "votesMeet", inPlace := ["slices.overlaps[quorate/votes.run[uint64]]"], unfollowed := true, recurses := true, apart := false, narrowed := true }
def VotesMeetUptoSaid : Prop := votesMeetUptoRow.holds Try.pinned (OpenSpec.upto votesMeetSpec)

/-- 'quoratelaw15.VotesOrder', WHERE WHAT IT READS IS OF BULK AT MOST 1048576: true; the input reads as it did. -/
def votesOrderUptoRow : OpenClaim := { program := "ytnpkaljmncehhaa", sum := "a8b4f09acf360378fcad8f36299db77e7dd474e00e301c53123ab8c04131bb61", func := "quorate/quoratelaw15.VotesOrder", spec := "votesOrder", inPlace := ["slices.overlaps[quorate/votes.run[uint64]]"], unfollowed := true, recurses := true, apart := false, narrowed := true }
def VotesOrderUptoSaid : Prop := votesOrderUptoRow.holds Try.pinned (OpenSpec.upto votesOrderSpec)

end Rows
end Go.Proofs.Ytnpkaljmncehhaa
