/-
  No cell of these rows narrows 'for every input' (looked for: loops, veiled, ifaces, maps, wideKeys, modest, calm, conditions, laid).
  DERIVED. THE GIVEN ROWS OF THIS SEAT. 12 by the template 'for every input the law returns true; each argument reads behind the call as it read before'; 0 by the template 'total and deterministic' (their statements: YtgkaghappogglaaTotals.lean).
  GIVEN WITH THE SEED: the statements are not yours to turn. If you find one false, say at which input.
  Laid BY PROGRAM, IN A SANDBOX (cutbox-rows.mjs): the forced cells as the released guide's own fill.sh prints them over the translation f4625a13600077bc… (all of the seat's roots in one cut). By AI agents, Wed Nov 11 2026. No macro, syntax, notation, axiom, sorry.
-/
import Derived.Test.YtgkaghappogglaaChecked
import GoSem.Claim
import GoSem.ClaimJoined
import GoSem.ClaimMapViews
import Derived.JoinedTies
import Derived.KernelRfl
namespace Go.Proofs.Ytgkaghappogglaa
/- THE CELL 'sum', in the pinned program and in every row, IS THE sha256 OF THE DUMP (.gsa) THAT YtgkaghappogglaaProg.lean LOADS. Nothing in Lean hashes anything: it is a label: what it is worth is what the hold of that sum in a sandbox is worth. -/
noncomputable def Try.pinned : Pinned := { name := "ytgkaghappogglaa", sum := "f4625a13600077bcf734b5a7095d312b68faddef68d54ce13e2514fec718a52a", checked := Try.checked }
namespace Rows
def none {H : Type} : Left H := { results := [], args := [] }

/-- 'laws.FnValidBallots': WHATEVER THE INPUT: true; the input reads as it did. -/
def fnValidBallotsSpec : ChangeSpec := { name := "fnValidBallots", fn := fun _ => fun
  | [d] => { results := [.lit (.bool true)], args := [d] }
  | _ => none }
def fnValidBallotsRow : OpenClaim := { program := "ytgkaghappogglaa", sum := "f4625a13600077bcf734b5a7095d312b68faddef68d54ce13e2514fec718a52a", func := "loop.example/jointjudgments/laws.FnValidBallots", spec := "fnValidBallots", unfollowed := true, recurses := true, apart := false }
def FnValidBallotsSaid : Prop := fnValidBallotsRow.holds Try.pinned (OpenSpec.ofChange fnValidBallotsSpec)

/-- ITS FALSE NEIGHBOUR: 'it returns false'. Refute it at one input. -/
def fnValidBallotsWrong : ChangeSpec := { name := "fnValidBallots", fn := fun _ => fun
  | [d] => { results := [.lit (.bool false)], args := [d] }
  | _ => none }
def FnValidBallotsWrongFalsely : Prop := fnValidBallotsRow.holds Try.pinned (OpenSpec.ofChange fnValidBallotsWrong)

/-- 'laws.FnCommitteesOf': WHATEVER THE INPUT: true; the input reads as it did. -/
def fnCommitteesOfSpec : ChangeSpec := { name := "fnCommitteesOf", fn := fun _ => fun
  | [d] => { results := [.lit (.bool true)], args := [d] }
  | _ => none }
def fnCommitteesOfRow : OpenClaim := { program := "ytgkaghappogglaa", sum := "f4625a13600077bcf734b5a7095d312b68faddef68d54ce13e2514fec718a52a", func := "loop.example/jointjudgments/laws.FnCommitteesOf", spec := "fnCommitteesOf", apart := false }
def FnCommitteesOfSaid : Prop := fnCommitteesOfRow.holds Try.pinned (OpenSpec.ofChange fnCommitteesOfSpec)

/-- ITS FALSE NEIGHBOUR: 'it returns false'. Refute it at one input. -/
def fnCommitteesOfWrong : ChangeSpec := { name := "fnCommitteesOf", fn := fun _ => fun
  | [d] => { results := [.lit (.bool false)], args := [d] }
  | _ => none }
def FnCommitteesOfWrongFalsely : Prop := fnCommitteesOfRow.holds Try.pinned (OpenSpec.ofChange fnCommitteesOfWrong)

/-- 'laws.FnApprovalsOf': WHATEVER THE INPUT: true; the input reads as it did. -/
def fnApprovalsOfSpec : ChangeSpec := { name := "fnApprovalsOf", fn := fun _ => fun
  | [d] => { results := [.lit (.bool true)], args := [d] }
  | _ => none }
def fnApprovalsOfRow : OpenClaim := { program := "ytgkaghappogglaa", sum := "f4625a13600077bcf734b5a7095d312b68faddef68d54ce13e2514fec718a52a", func := "loop.example/jointjudgments/laws.FnApprovalsOf", spec := "fnApprovalsOf", unfollowed := true, recurses := true, apart := false }
def FnApprovalsOfSaid : Prop := fnApprovalsOfRow.holds Try.pinned (OpenSpec.ofChange fnApprovalsOfSpec)

/-- ITS FALSE NEIGHBOUR: 'it returns false'. Refute it at one input. -/
def fnApprovalsOfWrong : ChangeSpec := { name := "fnApprovalsOf", fn := fun _ => fun
  | [d] => { results := [.lit (.bool false)], args := [d] }
  | _ => none }
def FnApprovalsOfWrongFalsely : Prop := fnApprovalsOfRow.holds Try.pinned (OpenSpec.ofChange fnApprovalsOfWrong)

/-- 'laws.FnScoreOf': WHATEVER THE INPUT: true; the input reads as it did. -/
def fnScoreOfSpec : ChangeSpec := { name := "fnScoreOf", fn := fun _ => fun
  | [d] => { results := [.lit (.bool true)], args := [d] }
  | _ => none }
def fnScoreOfRow : OpenClaim := { program := "ytgkaghappogglaa", sum := "f4625a13600077bcf734b5a7095d312b68faddef68d54ce13e2514fec718a52a", func := "loop.example/jointjudgments/laws.FnScoreOf", spec := "fnScoreOf", unfollowed := true, recurses := true, apart := false }
def FnScoreOfSaid : Prop := fnScoreOfRow.holds Try.pinned (OpenSpec.ofChange fnScoreOfSpec)

/-- ITS FALSE NEIGHBOUR: 'it returns false'. Refute it at one input. -/
def fnScoreOfWrong : ChangeSpec := { name := "fnScoreOf", fn := fun _ => fun
  | [d] => { results := [.lit (.bool false)], args := [d] }
  | _ => none }
def FnScoreOfWrongFalsely : Prop := fnScoreOfRow.holds Try.pinned (OpenSpec.ofChange fnScoreOfWrong)

/-- 'laws.FnBestOf': WHATEVER THE INPUT: true; the input reads as it did. -/
def fnBestOfSpec : ChangeSpec := { name := "fnBestOf", fn := fun _ => fun
  | [d] => { results := [.lit (.bool true)], args := [d] }
  | _ => none }
def fnBestOfRow : OpenClaim := { program := "ytgkaghappogglaa", sum := "f4625a13600077bcf734b5a7095d312b68faddef68d54ce13e2514fec718a52a", func := "loop.example/jointjudgments/laws.FnBestOf", spec := "fnBestOf", unfollowed := true, recurses := true, apart := false }
def FnBestOfSaid : Prop := fnBestOfRow.holds Try.pinned (OpenSpec.ofChange fnBestOfSpec)

/-- ITS FALSE NEIGHBOUR: 'it returns false'. Refute it at one input. -/
def fnBestOfWrong : ChangeSpec := { name := "fnBestOf", fn := fun _ => fun
  | [d] => { results := [.lit (.bool false)], args := [d] }
  | _ => none }
def FnBestOfWrongFalsely : Prop := fnBestOfRow.holds Try.pinned (OpenSpec.ofChange fnBestOfWrong)

/-- 'laws.FnGreedyOf': WHATEVER THE INPUT: true; the input reads as it did. -/
def fnGreedyOfSpec : ChangeSpec := { name := "fnGreedyOf", fn := fun _ => fun
  | [d] => { results := [.lit (.bool true)], args := [d] }
  | _ => none }
def fnGreedyOfRow : OpenClaim := { program := "ytgkaghappogglaa", sum := "f4625a13600077bcf734b5a7095d312b68faddef68d54ce13e2514fec718a52a", func := "loop.example/jointjudgments/laws.FnGreedyOf", spec := "fnGreedyOf", unfollowed := true, recurses := true, apart := false }
def FnGreedyOfSaid : Prop := fnGreedyOfRow.holds Try.pinned (OpenSpec.ofChange fnGreedyOfSpec)

/-- ITS FALSE NEIGHBOUR: 'it returns false'. Refute it at one input. -/
def fnGreedyOfWrong : ChangeSpec := { name := "fnGreedyOf", fn := fun _ => fun
  | [d] => { results := [.lit (.bool false)], args := [d] }
  | _ => none }
def FnGreedyOfWrongFalsely : Prop := fnGreedyOfRow.holds Try.pinned (OpenSpec.ofChange fnGreedyOfWrong)

/-- 'laws.FnWrongedBy': WHATEVER THE INPUT: true; the input reads as it did. -/
def fnWrongedBySpec : ChangeSpec := { name := "fnWrongedBy", fn := fun _ => fun
  | [d] => { results := [.lit (.bool true)], args := [d] }
  | _ => none }
def fnWrongedByRow : OpenClaim := { program := "ytgkaghappogglaa", sum := "f4625a13600077bcf734b5a7095d312b68faddef68d54ce13e2514fec718a52a", func := "loop.example/jointjudgments/laws.FnWrongedBy", spec := "fnWrongedBy", unfollowed := true, recurses := true, apart := false }
def FnWrongedBySaid : Prop := fnWrongedByRow.holds Try.pinned (OpenSpec.ofChange fnWrongedBySpec)

/-- ITS FALSE NEIGHBOUR: 'it returns false'. Refute it at one input. -/
def fnWrongedByWrong : ChangeSpec := { name := "fnWrongedBy", fn := fun _ => fun
  | [d] => { results := [.lit (.bool false)], args := [d] }
  | _ => none }
def FnWrongedByWrongFalsely : Prop := fnWrongedByRow.holds Try.pinned (OpenSpec.ofChange fnWrongedByWrong)

/-- 'laws.FnIsJust': WHATEVER THE INPUT: true; the input reads as it did. -/
def fnIsJustSpec : ChangeSpec := { name := "fnIsJust", fn := fun _ => fun
  | [d] => { results := [.lit (.bool true)], args := [d] }
  | _ => none }
def fnIsJustRow : OpenClaim := { program := "ytgkaghappogglaa", sum := "f4625a13600077bcf734b5a7095d312b68faddef68d54ce13e2514fec718a52a", func := "loop.example/jointjudgments/laws.FnIsJust", spec := "fnIsJust", unfollowed := true, recurses := true, apart := false }
def FnIsJustSaid : Prop := fnIsJustRow.holds Try.pinned (OpenSpec.ofChange fnIsJustSpec)

/-- ITS FALSE NEIGHBOUR: 'it returns false'. Refute it at one input. -/
def fnIsJustWrong : ChangeSpec := { name := "fnIsJust", fn := fun _ => fun
  | [d] => { results := [.lit (.bool false)], args := [d] }
  | _ => none }
def FnIsJustWrongFalsely : Prop := fnIsJustRow.holds Try.pinned (OpenSpec.ofChange fnIsJustWrong)

/-- 'laws.FnLoadedOf': WHATEVER THE INPUT: true; the input reads as it did. -/
def fnLoadedOfSpec : ChangeSpec := { name := "fnLoadedOf", fn := fun _ => fun
  | [d] => { results := [.lit (.bool true)], args := [d] }
  | _ => none }
def fnLoadedOfRow : OpenClaim := { program := "ytgkaghappogglaa", sum := "f4625a13600077bcf734b5a7095d312b68faddef68d54ce13e2514fec718a52a", func := "loop.example/jointjudgments/laws.FnLoadedOf", spec := "fnLoadedOf", unfollowed := true, recurses := true, apart := false }
def FnLoadedOfSaid : Prop := fnLoadedOfRow.holds Try.pinned (OpenSpec.ofChange fnLoadedOfSpec)

/-- ITS FALSE NEIGHBOUR: 'it returns false'. Refute it at one input. -/
def fnLoadedOfWrong : ChangeSpec := { name := "fnLoadedOf", fn := fun _ => fun
  | [d] => { results := [.lit (.bool false)], args := [d] }
  | _ => none }
def FnLoadedOfWrongFalsely : Prop := fnLoadedOfRow.holds Try.pinned (OpenSpec.ofChange fnLoadedOfWrong)

/-- 'laws.FnIsServed': WHATEVER THE INPUT: true; the input reads as it did. -/
def fnIsServedSpec : ChangeSpec := { name := "fnIsServed", fn := fun _ => fun
  | [d] => { results := [.lit (.bool true)], args := [d] }
  | _ => none }
def fnIsServedRow : OpenClaim := { program := "ytgkaghappogglaa", sum := "f4625a13600077bcf734b5a7095d312b68faddef68d54ce13e2514fec718a52a", func := "loop.example/jointjudgments/laws.FnIsServed", spec := "fnIsServed", unfollowed := true, recurses := true, apart := false }
def FnIsServedSaid : Prop := fnIsServedRow.holds Try.pinned (OpenSpec.ofChange fnIsServedSpec)

/-- ITS FALSE NEIGHBOUR: 'it returns false'. Refute it at one input. -/
def fnIsServedWrong : ChangeSpec := { name := "fnIsServed", fn := fun _ => fun
  | [d] => { results := [.lit (.bool false)], args := [d] }
  | _ => none }
def FnIsServedWrongFalsely : Prop := fnIsServedRow.holds Try.pinned (OpenSpec.ofChange fnIsServedWrong)

/-- 'laws.FnSwapOf': WHATEVER THE INPUT: true; the input reads as it did. -/
def fnSwapOfSpec : ChangeSpec := { name := "fnSwapOf", fn := fun _ => fun
  | [d] => { results := [.lit (.bool true)], args := [d] }
  | _ => none }
def fnSwapOfRow : OpenClaim := { program := "ytgkaghappogglaa", sum := "f4625a13600077bcf734b5a7095d312b68faddef68d54ce13e2514fec718a52a", func := "loop.example/jointjudgments/laws.FnSwapOf", spec := "fnSwapOf", unfollowed := true, recurses := true, apart := false }
def FnSwapOfSaid : Prop := fnSwapOfRow.holds Try.pinned (OpenSpec.ofChange fnSwapOfSpec)

/-- ITS FALSE NEIGHBOUR: 'it returns false'. Refute it at one input. -/
def fnSwapOfWrong : ChangeSpec := { name := "fnSwapOf", fn := fun _ => fun
  | [d] => { results := [.lit (.bool false)], args := [d] }
  | _ => none }
def FnSwapOfWrongFalsely : Prop := fnSwapOfRow.holds Try.pinned (OpenSpec.ofChange fnSwapOfWrong)

/-- 'laws.FnCommitteeOf': WHATEVER THE INPUT: true; the input reads as it did. -/
def fnCommitteeOfSpec : ChangeSpec := { name := "fnCommitteeOf", fn := fun _ => fun
  | [d] => { results := [.lit (.bool true)], args := [d] }
  | _ => none }
def fnCommitteeOfRow : OpenClaim := { program := "ytgkaghappogglaa", sum := "f4625a13600077bcf734b5a7095d312b68faddef68d54ce13e2514fec718a52a", func := "loop.example/jointjudgments/laws.FnCommitteeOf", spec := "fnCommitteeOf", apart := false }
def FnCommitteeOfSaid : Prop := fnCommitteeOfRow.holds Try.pinned (OpenSpec.ofChange fnCommitteeOfSpec)

/-- ITS FALSE NEIGHBOUR: 'it returns false'. Refute it at one input. -/
def fnCommitteeOfWrong : ChangeSpec := { name := "fnCommitteeOf", fn := fun _ => fun
  | [d] => { results := [.lit (.bool false)], args := [d] }
  | _ => none }
def FnCommitteeOfWrongFalsely : Prop := fnCommitteeOfRow.holds Try.pinned (OpenSpec.ofChange fnCommitteeOfWrong)

/- THE SECOND FORM. 'bulk': how many values and letters a reading holds, each counted each time it is reached (what is shared counts as often as it is met; a slice's spare places count too). A statement '..UptoSaid' is the law's where the arguments, and the package variables that the reading takes, are together of bulk at most 1048576: NARROWER than '..Said'. Prove '..Said' where nothing that the law and all that it calls make is longer than what came in: it says more and counts as full. Else prove '..UptoSaid'. A law counts once. -/
mutual
def uptoBulk {H : Type} : DataW H → Nat
  | .lit (.string bytes) => bytes.length + 1
  | .lit _ => 1
  | .nil => 1
  | .ptr d => uptoBulk d + 1
  | .slice elems spare => uptoBulkAll elems + uptoBulkAll spare + 1
  | .agg parts => uptoBulkAll parts + 1
  | .iface _ d => uptoBulk d + 1
  | .map entries => uptoBulkEntries entries + 1
  | .held _ => 1
def uptoBulkAll {H : Type} : List (DataW H) → Nat
  | [] => 0
  | d :: r => uptoBulk d + uptoBulkAll r
def uptoBulkEntries {H : Type} : List (Lit × DataW H) → Nat
  | [] => 0
  | x :: r => uptoBulkEntry x + uptoBulkEntries r
def uptoBulkEntry {H : Type} : Lit × DataW H → Nat
  | (.string bytes, d) => bytes.length + uptoBulk d + 1
  | (_, d) => uptoBulk d + 1
 end
def uptoSmall : (H : Type) → List (DataW H) → Bool := fun _ ds => decide (uptoBulkAll ds ≤ 1048576)
def OpenSpec.upto (s : _root_.Go.ChangeSpec) : _root_.Go.OpenSpec := { _root_.Go.OpenSpec.ofChange s with cond := some uptoSmall }

/-- 'laws.FnValidBallots', WHERE WHAT IT READS IS OF BULK AT MOST 1048576: true; the input reads as it did. -/
def fnValidBallotsUptoRow : OpenClaim := { program := "ytgkaghappogglaa", sum := "f4625a13600077bcf734b5a7095d312b68faddef68d54ce13e2514fec718a52a", func := "loop.example/jointjudgments/laws.FnValidBallots", spec := "fnValidBallots", unfollowed := true, recurses := true, apart := false, narrowed := true }
def FnValidBallotsUptoSaid : Prop := fnValidBallotsUptoRow.holds Try.pinned (OpenSpec.upto fnValidBallotsSpec)

/-- 'laws.FnCommitteesOf', WHERE WHAT IT READS IS OF BULK AT MOST 1048576: true; the input reads as it did. -/
def fnCommitteesOfUptoRow : OpenClaim := { program := "ytgkaghappogglaa", sum := "f4625a13600077bcf734b5a7095d312b68faddef68d54ce13e2514fec718a52a", func := "loop.example/jointjudgments/laws.FnCommitteesOf", spec := "fnCommitteesOf", apart := false, narrowed := true }
def FnCommitteesOfUptoSaid : Prop := fnCommitteesOfUptoRow.holds Try.pinned (OpenSpec.upto fnCommitteesOfSpec)

/-- 'laws.FnApprovalsOf', WHERE WHAT IT READS IS OF BULK AT MOST 1048576: true; the input reads as it did. -/
def fnApprovalsOfUptoRow : OpenClaim := { program := "ytgkaghappogglaa", sum := "f4625a13600077bcf734b5a7095d312b68faddef68d54ce13e2514fec718a52a", func := "loop.example/jointjudgments/laws.FnApprovalsOf", spec := "fnApprovalsOf", unfollowed := true, recurses := true, apart := false, narrowed := true }
def FnApprovalsOfUptoSaid : Prop := fnApprovalsOfUptoRow.holds Try.pinned (OpenSpec.upto fnApprovalsOfSpec)

/-- 'laws.FnScoreOf', WHERE WHAT IT READS IS OF BULK AT MOST 1048576: true; the input reads as it did. -/
def fnScoreOfUptoRow : OpenClaim := { program := "ytgkaghappogglaa", sum := "f4625a13600077bcf734b5a7095d312b68faddef68d54ce13e2514fec718a52a", func := "loop.example/jointjudgments/laws.FnScoreOf", spec := "fnScoreOf", unfollowed := true, recurses := true, apart := false, narrowed := true }
def FnScoreOfUptoSaid : Prop := fnScoreOfUptoRow.holds Try.pinned (OpenSpec.upto fnScoreOfSpec)

/-- 'laws.FnBestOf', WHERE WHAT IT READS IS OF BULK AT MOST 1048576: true; the input reads as it did. -/
def fnBestOfUptoRow : OpenClaim := { program := "ytgkaghappogglaa", sum := "f4625a13600077bcf734b5a7095d312b68faddef68d54ce13e2514fec718a52a", func := "loop.example/jointjudgments/laws.FnBestOf", spec := "fnBestOf", unfollowed := true, recurses := true, apart := false, narrowed := true }
def FnBestOfUptoSaid : Prop := fnBestOfUptoRow.holds Try.pinned (OpenSpec.upto fnBestOfSpec)

/-- 'laws.FnGreedyOf', WHERE WHAT IT READS IS OF BULK AT MOST 1048576: true; the input reads as it did. -/
def fnGreedyOfUptoRow : OpenClaim := { program := "ytgkaghappogglaa", sum := "f4625a13600077bcf734b5a7095d312b68faddef68d54ce13e2514fec718a52a", func := "loop.example/jointjudgments/laws.FnGreedyOf", spec := "fnGreedyOf", unfollowed := true, recurses := true, apart := false, narrowed := true }
def FnGreedyOfUptoSaid : Prop := fnGreedyOfUptoRow.holds Try.pinned (OpenSpec.upto fnGreedyOfSpec)

/-- 'laws.FnWrongedBy', WHERE WHAT IT READS IS OF BULK AT MOST 1048576: true; the input reads as it did. -/
def fnWrongedByUptoRow : OpenClaim := { program := "ytgkaghappogglaa", sum := "f4625a13600077bcf734b5a7095d312b68faddef68d54ce13e2514fec718a52a", func := "loop.example/jointjudgments/laws.FnWrongedBy", spec := "fnWrongedBy", unfollowed := true, recurses := true, apart := false, narrowed := true }
def FnWrongedByUptoSaid : Prop := fnWrongedByUptoRow.holds Try.pinned (OpenSpec.upto fnWrongedBySpec)

/-- 'laws.FnIsJust', WHERE WHAT IT READS IS OF BULK AT MOST 1048576: true; the input reads as it did. -/
def fnIsJustUptoRow : OpenClaim := { program := "ytgkaghappogglaa", sum := "f4625a13600077bcf734b5a7095d312b68faddef68d54ce13e2514fec718a52a", func := "loop.example/jointjudgments/laws.FnIsJust", spec := "fnIsJust", unfollowed := true, recurses := true, apart := false, narrowed := true }
def FnIsJustUptoSaid : Prop := fnIsJustUptoRow.holds Try.pinned (OpenSpec.upto fnIsJustSpec)

/-- 'laws.FnLoadedOf', WHERE WHAT IT READS IS OF BULK AT MOST 1048576: true; the input reads as it did. -/
def fnLoadedOfUptoRow : OpenClaim := { program := "ytgkaghappogglaa", sum := "f4625a13600077bcf734b5a7095d312b68faddef68d54ce13e2514fec718a52a", func := "loop.example/jointjudgments/laws.FnLoadedOf", spec := "fnLoadedOf", unfollowed := true, recurses := true, apart := false, narrowed := true }
def FnLoadedOfUptoSaid : Prop := fnLoadedOfUptoRow.holds Try.pinned (OpenSpec.upto fnLoadedOfSpec)

/-- 'laws.FnIsServed', WHERE WHAT IT READS IS OF BULK AT MOST 1048576: true; the input reads as it did. -/
def fnIsServedUptoRow : OpenClaim := { program := "ytgkaghappogglaa", sum := "f4625a13600077bcf734b5a7095d312b68faddef68d54ce13e2514fec718a52a", func := "loop.example/jointjudgments/laws.FnIsServed", spec := "fnIsServed", unfollowed := true, recurses := true, apart := false, narrowed := true }
def FnIsServedUptoSaid : Prop := fnIsServedUptoRow.holds Try.pinned (OpenSpec.upto fnIsServedSpec)

/-- 'laws.FnSwapOf', WHERE WHAT IT READS IS OF BULK AT MOST 1048576: true; the input reads as it did. -/
def fnSwapOfUptoRow : OpenClaim := { program := "ytgkaghappogglaa", sum := "f4625a13600077bcf734b5a7095d312b68faddef68d54ce13e2514fec718a52a", func := "loop.example/jointjudgments/laws.FnSwapOf", spec := "fnSwapOf", unfollowed := true, recurses := true, apart := false, narrowed := true }
def FnSwapOfUptoSaid : Prop := fnSwapOfUptoRow.holds Try.pinned (OpenSpec.upto fnSwapOfSpec)

/-- 'laws.FnCommitteeOf', WHERE WHAT IT READS IS OF BULK AT MOST 1048576: true; the input reads as it did. -/
def fnCommitteeOfUptoRow : OpenClaim := { program := "ytgkaghappogglaa", sum := "f4625a13600077bcf734b5a7095d312b68faddef68d54ce13e2514fec718a52a", func := "loop.example/jointjudgments/laws.FnCommitteeOf", spec := "fnCommitteeOf", apart := false, narrowed := true }
def FnCommitteeOfUptoSaid : Prop := fnCommitteeOfUptoRow.holds Try.pinned (OpenSpec.upto fnCommitteeOfSpec)

end Rows
end Go.Proofs.Ytgkaghappogglaa
