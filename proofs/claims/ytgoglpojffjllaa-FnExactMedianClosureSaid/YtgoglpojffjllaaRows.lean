/-
  No cell of these rows narrows 'for every input' (looked for: loops, veiled, ifaces, maps, wideKeys, modest, calm, conditions, laid).
  DERIVED. THE GIVEN ROWS OF THIS SEAT. 12 by the template 'for every input the law returns true; each argument reads behind the call as it read before'; 0 by the template 'total and deterministic' (their statements: YtgoglpojffjllaaTotals.lean).
  GIVEN WITH THE SEED: the statements are not yours to turn. If you find one false, say at which input.
  Laid BY PROGRAM, IN A SANDBOX (cutbox-rows.mjs): the forced cells as the released guide's own fill.sh prints them over the translation ddbf17af93859fa1… (all of the seat's roots in one cut). By AI agents, Wed Nov 11 2026. No macro, syntax, notation, axiom, sorry.
-/
import Derived.Test.YtgoglpojffjllaaChecked
import GoSem.Claim
import GoSem.ClaimJoined
import GoSem.ClaimMapViews
import Derived.JoinedTies
import Derived.KernelRfl
namespace Go.Proofs.Ytgoglpojffjllaa
/- THE CELL 'sum', in the pinned program and in every row, IS THE sha256 OF THE DUMP (.gsa) THAT YtgoglpojffjllaaProg.lean LOADS. Nothing in Lean hashes anything: it is a label: what it is worth is what the hold of that sum in a sandbox is worth. -/
noncomputable def Try.pinned : Pinned := { name := "ytgoglpojffjllaa", sum := "ddbf17af93859fa149e7a030b7010e5e96875462ae8f9811833f627f83ed9960", checked := Try.checked }
namespace Rows
def none {H : Type} : Left H := { results := [], args := [] }

/-- 'laws.FnExactCriticalParts': WHATEVER THE INPUT: true; the input reads as it did. -/
def fnExactCriticalPartsSpec : ChangeSpec := { name := "fnExactCriticalParts", fn := fun _ => fun
  | [d] => { results := [.lit (.bool true)], args := [d] }
  | _ => none }
def fnExactCriticalPartsRow : OpenClaim := { program := "ytgoglpojffjllaa", sum := "ddbf17af93859fa149e7a030b7010e5e96875462ae8f9811833f627f83ed9960", func := "loop.example/jointjudgments/laws.FnExactCriticalParts", spec := "fnExactCriticalParts", unfollowed := true, recurses := true, plainKeys := false, apart := false }
def FnExactCriticalPartsSaid : Prop := fnExactCriticalPartsRow.holds Try.pinned (OpenSpec.ofChange fnExactCriticalPartsSpec)

/-- ITS FALSE NEIGHBOUR: 'it returns false'. Refute it at one input. -/
def fnExactCriticalPartsWrong : ChangeSpec := { name := "fnExactCriticalParts", fn := fun _ => fun
  | [d] => { results := [.lit (.bool false)], args := [d] }
  | _ => none }
def FnExactCriticalPartsWrongFalsely : Prop := fnExactCriticalPartsRow.holds Try.pinned (OpenSpec.ofChange fnExactCriticalPartsWrong)

/-- 'laws.FnExactSpaceWithout': WHATEVER THE INPUT: true; the input reads as it did. -/
def fnExactSpaceWithoutSpec : ChangeSpec := { name := "fnExactSpaceWithout", fn := fun _ => fun
  | [d1, d2] => { results := [.lit (.bool true)], args := [d1, d2] }
  | _ => none }
def fnExactSpaceWithoutRow : OpenClaim := { program := "ytgoglpojffjllaa", sum := "ddbf17af93859fa149e7a030b7010e5e96875462ae8f9811833f627f83ed9960", func := "loop.example/jointjudgments/laws.FnExactSpaceWithout", spec := "fnExactSpaceWithout", unfollowed := true, recurses := true, plainKeys := false, apart := false }
def FnExactSpaceWithoutSaid : Prop := fnExactSpaceWithoutRow.holds Try.pinned (OpenSpec.ofChange fnExactSpaceWithoutSpec)

/-- ITS FALSE NEIGHBOUR: 'it returns false'. Refute it at one input. -/
def fnExactSpaceWithoutWrong : ChangeSpec := { name := "fnExactSpaceWithout", fn := fun _ => fun
  | [d1, d2] => { results := [.lit (.bool false)], args := [d1, d2] }
  | _ => none }
def FnExactSpaceWithoutWrongFalsely : Prop := fnExactSpaceWithoutRow.holds Try.pinned (OpenSpec.ofChange fnExactSpaceWithoutWrong)

/-- 'laws.FnExactLeadsOf': WHATEVER THE INPUT: true; the input reads as it did. -/
def fnExactLeadsOfSpec : ChangeSpec := { name := "fnExactLeadsOf", fn := fun _ => fun
  | [d] => { results := [.lit (.bool true)], args := [d] }
  | _ => none }
def fnExactLeadsOfRow : OpenClaim := { program := "ytgoglpojffjllaa", sum := "ddbf17af93859fa149e7a030b7010e5e96875462ae8f9811833f627f83ed9960", func := "loop.example/jointjudgments/laws.FnExactLeadsOf", spec := "fnExactLeadsOf", unfollowed := true, recurses := true, plainKeys := false, apart := false }
def FnExactLeadsOfSaid : Prop := fnExactLeadsOfRow.holds Try.pinned (OpenSpec.ofChange fnExactLeadsOfSpec)

/-- ITS FALSE NEIGHBOUR: 'it returns false'. Refute it at one input. -/
def fnExactLeadsOfWrong : ChangeSpec := { name := "fnExactLeadsOf", fn := fun _ => fun
  | [d] => { results := [.lit (.bool false)], args := [d] }
  | _ => none }
def FnExactLeadsOfWrongFalsely : Prop := fnExactLeadsOfRow.holds Try.pinned (OpenSpec.ofChange fnExactLeadsOfWrong)

/-- 'laws.FnExactIsBlocked': WHATEVER THE INPUT: true; the input reads as it did. -/
def fnExactIsBlockedSpec : ChangeSpec := { name := "fnExactIsBlocked", fn := fun _ => fun
  | [d] => { results := [.lit (.bool true)], args := [d] }
  | _ => none }
def fnExactIsBlockedRow : OpenClaim := { program := "ytgoglpojffjllaa", sum := "ddbf17af93859fa149e7a030b7010e5e96875462ae8f9811833f627f83ed9960", func := "loop.example/jointjudgments/laws.FnExactIsBlocked", spec := "fnExactIsBlocked", unfollowed := true, recurses := true, plainKeys := false, apart := false }
def FnExactIsBlockedSaid : Prop := fnExactIsBlockedRow.holds Try.pinned (OpenSpec.ofChange fnExactIsBlockedSpec)

/-- ITS FALSE NEIGHBOUR: 'it returns false'. Refute it at one input. -/
def fnExactIsBlockedWrong : ChangeSpec := { name := "fnExactIsBlocked", fn := fun _ => fun
  | [d] => { results := [.lit (.bool false)], args := [d] }
  | _ => none }
def FnExactIsBlockedWrongFalsely : Prop := fnExactIsBlockedRow.holds Try.pinned (OpenSpec.ofChange fnExactIsBlockedWrong)

/-- 'laws.FnExactDropIssue': WHATEVER THE INPUT: true; the input reads as it did. -/
def fnExactDropIssueSpec : ChangeSpec := { name := "fnExactDropIssue", fn := fun _ => fun
  | [d1, d2] => { results := [.lit (.bool true)], args := [d1, d2] }
  | _ => none }
def fnExactDropIssueRow : OpenClaim := { program := "ytgoglpojffjllaa", sum := "ddbf17af93859fa149e7a030b7010e5e96875462ae8f9811833f627f83ed9960", func := "loop.example/jointjudgments/laws.FnExactDropIssue", spec := "fnExactDropIssue", unfollowed := true, recurses := true, plainKeys := false, apart := false }
def FnExactDropIssueSaid : Prop := fnExactDropIssueRow.holds Try.pinned (OpenSpec.ofChange fnExactDropIssueSpec)

/-- ITS FALSE NEIGHBOUR: 'it returns false'. Refute it at one input. -/
def fnExactDropIssueWrong : ChangeSpec := { name := "fnExactDropIssue", fn := fun _ => fun
  | [d1, d2] => { results := [.lit (.bool false)], args := [d1, d2] }
  | _ => none }
def FnExactDropIssueWrongFalsely : Prop := fnExactDropIssueRow.holds Try.pinned (OpenSpec.ofChange fnExactDropIssueWrong)

/-- 'laws.FnExactFlipIssue': WHATEVER THE INPUT: true; the input reads as it did. -/
def fnExactFlipIssueSpec : ChangeSpec := { name := "fnExactFlipIssue", fn := fun _ => fun
  | [d1, d2] => { results := [.lit (.bool true)], args := [d1, d2] }
  | _ => none }
def fnExactFlipIssueRow : OpenClaim := { program := "ytgoglpojffjllaa", sum := "ddbf17af93859fa149e7a030b7010e5e96875462ae8f9811833f627f83ed9960", func := "loop.example/jointjudgments/laws.FnExactFlipIssue", spec := "fnExactFlipIssue", unfollowed := true, recurses := true, plainKeys := false, apart := false }
def FnExactFlipIssueSaid : Prop := fnExactFlipIssueRow.holds Try.pinned (OpenSpec.ofChange fnExactFlipIssueSpec)

/-- ITS FALSE NEIGHBOUR: 'it returns false'. Refute it at one input. -/
def fnExactFlipIssueWrong : ChangeSpec := { name := "fnExactFlipIssue", fn := fun _ => fun
  | [d1, d2] => { results := [.lit (.bool false)], args := [d1, d2] }
  | _ => none }
def FnExactFlipIssueWrongFalsely : Prop := fnExactFlipIssueRow.holds Try.pinned (OpenSpec.ofChange fnExactFlipIssueWrong)

/-- 'laws.FnExactCrossSpaces': WHATEVER THE INPUT: true; the input reads as it did. -/
def fnExactCrossSpacesSpec : ChangeSpec := { name := "fnExactCrossSpaces", fn := fun _ => fun
  | [d1, d2] => { results := [.lit (.bool true)], args := [d1, d2] }
  | _ => none }
def fnExactCrossSpacesRow : OpenClaim := { program := "ytgoglpojffjllaa", sum := "ddbf17af93859fa149e7a030b7010e5e96875462ae8f9811833f627f83ed9960", func := "loop.example/jointjudgments/laws.FnExactCrossSpaces", spec := "fnExactCrossSpaces", plainKeys := false, apart := false }
def FnExactCrossSpacesSaid : Prop := fnExactCrossSpacesRow.holds Try.pinned (OpenSpec.ofChange fnExactCrossSpacesSpec)

/-- ITS FALSE NEIGHBOUR: 'it returns false'. Refute it at one input. -/
def fnExactCrossSpacesWrong : ChangeSpec := { name := "fnExactCrossSpaces", fn := fun _ => fun
  | [d1, d2] => { results := [.lit (.bool false)], args := [d1, d2] }
  | _ => none }
def FnExactCrossSpacesWrongFalsely : Prop := fnExactCrossSpacesRow.holds Try.pinned (OpenSpec.ofChange fnExactCrossSpacesWrong)

/-- 'laws.FnExactMedianClosure': WHATEVER THE INPUT: true; the input reads as it did. -/
def fnExactMedianClosureSpec : ChangeSpec := { name := "fnExactMedianClosure", fn := fun _ => fun
  | [d] => { results := [.lit (.bool true)], args := [d] }
  | _ => none }
def fnExactMedianClosureRow : OpenClaim := { program := "ytgoglpojffjllaa", sum := "ddbf17af93859fa149e7a030b7010e5e96875462ae8f9811833f627f83ed9960", func := "loop.example/jointjudgments/laws.FnExactMedianClosure", spec := "fnExactMedianClosure", unfollowed := true, recurses := true, plainKeys := false, apart := false }
def FnExactMedianClosureSaid : Prop := fnExactMedianClosureRow.holds Try.pinned (OpenSpec.ofChange fnExactMedianClosureSpec)

/-- ITS FALSE NEIGHBOUR: 'it returns false'. Refute it at one input. -/
def fnExactMedianClosureWrong : ChangeSpec := { name := "fnExactMedianClosure", fn := fun _ => fun
  | [d] => { results := [.lit (.bool false)], args := [d] }
  | _ => none }
def FnExactMedianClosureWrongFalsely : Prop := fnExactMedianClosureRow.holds Try.pinned (OpenSpec.ofChange fnExactMedianClosureWrong)

/-- 'laws.FnExactEvenClosure': WHATEVER THE INPUT: true; the input reads as it did. -/
def fnExactEvenClosureSpec : ChangeSpec := { name := "fnExactEvenClosure", fn := fun _ => fun
  | [d] => { results := [.lit (.bool true)], args := [d] }
  | _ => none }
def fnExactEvenClosureRow : OpenClaim := { program := "ytgoglpojffjllaa", sum := "ddbf17af93859fa149e7a030b7010e5e96875462ae8f9811833f627f83ed9960", func := "loop.example/jointjudgments/laws.FnExactEvenClosure", spec := "fnExactEvenClosure", unfollowed := true, recurses := true, plainKeys := false, apart := false }
def FnExactEvenClosureSaid : Prop := fnExactEvenClosureRow.holds Try.pinned (OpenSpec.ofChange fnExactEvenClosureSpec)

/-- ITS FALSE NEIGHBOUR: 'it returns false'. Refute it at one input. -/
def fnExactEvenClosureWrong : ChangeSpec := { name := "fnExactEvenClosure", fn := fun _ => fun
  | [d] => { results := [.lit (.bool false)], args := [d] }
  | _ => none }
def FnExactEvenClosureWrongFalsely : Prop := fnExactEvenClosureRow.holds Try.pinned (OpenSpec.ofChange fnExactEvenClosureWrong)

/-- 'laws.FnExactValidVotes': WHATEVER THE INPUT: true; the input reads as it did. -/
def fnExactValidVotesSpec : ChangeSpec := { name := "fnExactValidVotes", fn := fun _ => fun
  | [d1, d2] => { results := [.lit (.bool true)], args := [d1, d2] }
  | _ => none }
def fnExactValidVotesRow : OpenClaim := { program := "ytgoglpojffjllaa", sum := "ddbf17af93859fa149e7a030b7010e5e96875462ae8f9811833f627f83ed9960", func := "loop.example/jointjudgments/laws.FnExactValidVotes", spec := "fnExactValidVotes", unfollowed := true, recurses := true, plainKeys := false, apart := false }
def FnExactValidVotesSaid : Prop := fnExactValidVotesRow.holds Try.pinned (OpenSpec.ofChange fnExactValidVotesSpec)

/-- ITS FALSE NEIGHBOUR: 'it returns false'. Refute it at one input. -/
def fnExactValidVotesWrong : ChangeSpec := { name := "fnExactValidVotes", fn := fun _ => fun
  | [d1, d2] => { results := [.lit (.bool false)], args := [d1, d2] }
  | _ => none }
def FnExactValidVotesWrongFalsely : Prop := fnExactValidVotesRow.holds Try.pinned (OpenSpec.ofChange fnExactValidVotesWrong)

/-- 'laws.FnExactSupportOf': WHATEVER THE INPUT: true; the input reads as it did. -/
def fnExactSupportOfSpec : ChangeSpec := { name := "fnExactSupportOf", fn := fun _ => fun
  | [d1, d2] => { results := [.lit (.bool true)], args := [d1, d2] }
  | _ => none }
def fnExactSupportOfRow : OpenClaim := { program := "ytgoglpojffjllaa", sum := "ddbf17af93859fa149e7a030b7010e5e96875462ae8f9811833f627f83ed9960", func := "loop.example/jointjudgments/laws.FnExactSupportOf", spec := "fnExactSupportOf", unfollowed := true, recurses := true, plainKeys := false, apart := false }
def FnExactSupportOfSaid : Prop := fnExactSupportOfRow.holds Try.pinned (OpenSpec.ofChange fnExactSupportOfSpec)

/-- ITS FALSE NEIGHBOUR: 'it returns false'. Refute it at one input. -/
def fnExactSupportOfWrong : ChangeSpec := { name := "fnExactSupportOf", fn := fun _ => fun
  | [d1, d2] => { results := [.lit (.bool false)], args := [d1, d2] }
  | _ => none }
def FnExactSupportOfWrongFalsely : Prop := fnExactSupportOfRow.holds Try.pinned (OpenSpec.ofChange fnExactSupportOfWrong)

/-- 'laws.FnExactMajorityOf': WHATEVER THE INPUT: true; the input reads as it did. -/
def fnExactMajorityOfSpec : ChangeSpec := { name := "fnExactMajorityOf", fn := fun _ => fun
  | [d1, d2] => { results := [.lit (.bool true)], args := [d1, d2] }
  | _ => none }
def fnExactMajorityOfRow : OpenClaim := { program := "ytgoglpojffjllaa", sum := "ddbf17af93859fa149e7a030b7010e5e96875462ae8f9811833f627f83ed9960", func := "loop.example/jointjudgments/laws.FnExactMajorityOf", spec := "fnExactMajorityOf", unfollowed := true, recurses := true, plainKeys := false, apart := false }
def FnExactMajorityOfSaid : Prop := fnExactMajorityOfRow.holds Try.pinned (OpenSpec.ofChange fnExactMajorityOfSpec)

/-- ITS FALSE NEIGHBOUR: 'it returns false'. Refute it at one input. -/
def fnExactMajorityOfWrong : ChangeSpec := { name := "fnExactMajorityOf", fn := fun _ => fun
  | [d1, d2] => { results := [.lit (.bool false)], args := [d1, d2] }
  | _ => none }
def FnExactMajorityOfWrongFalsely : Prop := fnExactMajorityOfRow.holds Try.pinned (OpenSpec.ofChange fnExactMajorityOfWrong)

/- THE SECOND FORM. 'bulk': how many values and letters a reading holds, each counted each time it is reached (what is shared counts as often as it is met; a slice's spare places count too). A statement '..UptoSaid' is the law's where the arguments, and the package variables that the reading takes, are together of bulk at most 1048576: NARROWER than '..Said'. Prove '..Said' where nothing that the law and all that it calls make is longer than what came in: it says more and counts as full. Else prove '..UptoSaid'. A law counts once. -/
mutual
def uptoBulk {H : Type} : DataW H → Nat
  | .lit (.string bytes) => bytes.length + 1
  | .lit _ => 1
  | .nil => 1
  | .ptr d => uptoBulk d + 1
  | .slice elems spare => uptoBulkAll elems + uptoBulkAll spare + 1
  | .agg parts => uptoBulkAll parts + 1
  | .iface _ d => uptoBulk d + 1
  | .map entries => uptoBulkEntries entries + 1
  | .held _ => 1
def uptoBulkAll {H : Type} : List (DataW H) → Nat
  | [] => 0
  | d :: r => uptoBulk d + uptoBulkAll r
def uptoBulkEntries {H : Type} : List (Lit × DataW H) → Nat
  | [] => 0
  | x :: r => uptoBulkEntry x + uptoBulkEntries r
def uptoBulkEntry {H : Type} : Lit × DataW H → Nat
  | (.string bytes, d) => bytes.length + uptoBulk d + 1
  | (_, d) => uptoBulk d + 1
 end
def uptoSmall : (H : Type) → List (DataW H) → Bool := fun _ ds => decide (uptoBulkAll ds ≤ 1048576)
def OpenSpec.upto (s : _root_.Go.ChangeSpec) : _root_.Go.OpenSpec := { _root_.Go.OpenSpec.ofChange s with cond := some uptoSmall }

/-- 'laws.FnExactCriticalParts', WHERE WHAT IT READS IS OF BULK AT MOST 1048576: true; the input reads as it did. -/
def fnExactCriticalPartsUptoRow : OpenClaim := { program := "ytgoglpojffjllaa", sum := "ddbf17af93859fa149e7a030b7010e5e96875462ae8f9811833f627f83ed9960", func := "loop.example/jointjudgments/laws.FnExactCriticalParts", spec := "fnExactCriticalParts", unfollowed := true, recurses := true, plainKeys := false, apart := false, narrowed := true }
def FnExactCriticalPartsUptoSaid : Prop := fnExactCriticalPartsUptoRow.holds Try.pinned (OpenSpec.upto fnExactCriticalPartsSpec)

/-- 'laws.FnExactSpaceWithout', WHERE WHAT IT READS IS OF BULK AT MOST 1048576: true; the input reads as it did. -/
def fnExactSpaceWithoutUptoRow : OpenClaim := { program := "ytgoglpojffjllaa", sum := "ddbf17af93859fa149e7a030b7010e5e96875462ae8f9811833f627f83ed9960", func := "loop.example/jointjudgments/laws.FnExactSpaceWithout", spec := "fnExactSpaceWithout", unfollowed := true, recurses := true, plainKeys := false, apart := false, narrowed := true }
def FnExactSpaceWithoutUptoSaid : Prop := fnExactSpaceWithoutUptoRow.holds Try.pinned (OpenSpec.upto fnExactSpaceWithoutSpec)

/-- 'laws.FnExactLeadsOf', WHERE WHAT IT READS IS OF BULK AT MOST 1048576: true; the input reads as it did. -/
def fnExactLeadsOfUptoRow : OpenClaim := { program := "ytgoglpojffjllaa", sum := "ddbf17af93859fa149e7a030b7010e5e96875462ae8f9811833f627f83ed9960", func := "loop.example/jointjudgments/laws.FnExactLeadsOf", spec := "fnExactLeadsOf", unfollowed := true, recurses := true, plainKeys := false, apart := false, narrowed := true }
def FnExactLeadsOfUptoSaid : Prop := fnExactLeadsOfUptoRow.holds Try.pinned (OpenSpec.upto fnExactLeadsOfSpec)

/-- 'laws.FnExactIsBlocked', WHERE WHAT IT READS IS OF BULK AT MOST 1048576: true; the input reads as it did. -/
def fnExactIsBlockedUptoRow : OpenClaim := { program := "ytgoglpojffjllaa", sum := "ddbf17af93859fa149e7a030b7010e5e96875462ae8f9811833f627f83ed9960", func := "loop.example/jointjudgments/laws.FnExactIsBlocked", spec := "fnExactIsBlocked", unfollowed := true, recurses := true, plainKeys := false, apart := false, narrowed := true }
def FnExactIsBlockedUptoSaid : Prop := fnExactIsBlockedUptoRow.holds Try.pinned (OpenSpec.upto fnExactIsBlockedSpec)

/-- 'laws.FnExactDropIssue', WHERE WHAT IT READS IS OF BULK AT MOST 1048576: true; the input reads as it did. -/
def fnExactDropIssueUptoRow : OpenClaim := { program := "ytgoglpojffjllaa", sum := "ddbf17af93859fa149e7a030b7010e5e96875462ae8f9811833f627f83ed9960", func := "loop.example/jointjudgments/laws.FnExactDropIssue", spec := "fnExactDropIssue", unfollowed := true, recurses := true, plainKeys := false, apart := false, narrowed := true }
def FnExactDropIssueUptoSaid : Prop := fnExactDropIssueUptoRow.holds Try.pinned (OpenSpec.upto fnExactDropIssueSpec)

/-- 'laws.FnExactFlipIssue', WHERE WHAT IT READS IS OF BULK AT MOST 1048576: true; the input reads as it did. -/
def fnExactFlipIssueUptoRow : OpenClaim := { program := "ytgoglpojffjllaa", sum := "ddbf17af93859fa149e7a030b7010e5e96875462ae8f9811833f627f83ed9960", func := "loop.example/jointjudgments/laws.FnExactFlipIssue", spec := "fnExactFlipIssue", unfollowed := true, recurses := true, plainKeys := false, apart := false, narrowed := true }
def FnExactFlipIssueUptoSaid : Prop := fnExactFlipIssueUptoRow.holds Try.pinned (OpenSpec.upto fnExactFlipIssueSpec)

/-- 'laws.FnExactCrossSpaces', WHERE WHAT IT READS IS OF BULK AT MOST 1048576: true; the input reads as it did. -/
def fnExactCrossSpacesUptoRow : OpenClaim := { program := "ytgoglpojffjllaa", sum := "ddbf17af93859fa149e7a030b7010e5e96875462ae8f9811833f627f83ed9960", func := "loop.example/jointjudgments/laws.FnExactCrossSpaces", spec := "fnExactCrossSpaces", plainKeys := false, apart := false, narrowed := true }
def FnExactCrossSpacesUptoSaid : Prop := fnExactCrossSpacesUptoRow.holds Try.pinned (OpenSpec.upto fnExactCrossSpacesSpec)

/-- 'laws.FnExactMedianClosure', WHERE WHAT IT READS IS OF BULK AT MOST 1048576: true; the input reads as it did. -/
def fnExactMedianClosureUptoRow : OpenClaim := { program := "ytgoglpojffjllaa", sum := "ddbf17af93859fa149e7a030b7010e5e96875462ae8f9811833f627f83ed9960", func := "loop.example/jointjudgments/laws.FnExactMedianClosure", spec := "fnExactMedianClosure", unfollowed := true, recurses := true, plainKeys := false, apart := false, narrowed := true }
def FnExactMedianClosureUptoSaid : Prop := fnExactMedianClosureUptoRow.holds Try.pinned (OpenSpec.upto fnExactMedianClosureSpec)

/-- 'laws.FnExactEvenClosure', WHERE WHAT IT READS IS OF BULK AT MOST 1048576: true; the input reads as it did. -/
def fnExactEvenClosureUptoRow : OpenClaim := { program := "ytgoglpojffjllaa", sum := "ddbf17af93859fa149e7a030b7010e5e96875462ae8f9811833f627f83ed9960", func := "loop.example/jointjudgments/laws.FnExactEvenClosure", spec := "fnExactEvenClosure", unfollowed := true, recurses := true, plainKeys := false, apart := false, narrowed := true }
def FnExactEvenClosureUptoSaid : Prop := fnExactEvenClosureUptoRow.holds Try.pinned (OpenSpec.upto fnExactEvenClosureSpec)

/-- 'laws.FnExactValidVotes', WHERE WHAT IT READS IS OF BULK AT MOST 1048576: true; the input reads as it did. -/
def fnExactValidVotesUptoRow : OpenClaim := { program := "ytgoglpojffjllaa", sum := "ddbf17af93859fa149e7a030b7010e5e96875462ae8f9811833f627f83ed9960", func := "loop.example/jointjudgments/laws.FnExactValidVotes", spec := "fnExactValidVotes", unfollowed := true, recurses := true, plainKeys := false, apart := false, narrowed := true }
def FnExactValidVotesUptoSaid : Prop := fnExactValidVotesUptoRow.holds Try.pinned (OpenSpec.upto fnExactValidVotesSpec)

/-- 'laws.FnExactSupportOf', WHERE WHAT IT READS IS OF BULK AT MOST 1048576: true; the input reads as it did. -/
def fnExactSupportOfUptoRow : OpenClaim := { program := "ytgoglpojffjllaa", sum := "ddbf17af93859fa149e7a030b7010e5e96875462ae8f9811833f627f83ed9960", func := "loop.example/jointjudgments/laws.FnExactSupportOf", spec := "fnExactSupportOf", unfollowed := true, recurses := true, plainKeys := false, apart := false, narrowed := true }
def FnExactSupportOfUptoSaid : Prop := fnExactSupportOfUptoRow.holds Try.pinned (OpenSpec.upto fnExactSupportOfSpec)

/-- 'laws.FnExactMajorityOf', WHERE WHAT IT READS IS OF BULK AT MOST 1048576: true; the input reads as it did. -/
def fnExactMajorityOfUptoRow : OpenClaim := { program := "ytgoglpojffjllaa", sum := "ddbf17af93859fa149e7a030b7010e5e96875462ae8f9811833f627f83ed9960", func := "loop.example/jointjudgments/laws.FnExactMajorityOf", spec := "fnExactMajorityOf", unfollowed := true, recurses := true, plainKeys := false, apart := false, narrowed := true }
def FnExactMajorityOfUptoSaid : Prop := fnExactMajorityOfUptoRow.holds Try.pinned (OpenSpec.upto fnExactMajorityOfSpec)

end Rows
end Go.Proofs.Ytgoglpojffjllaa
