/-
  No cell of these rows narrows 'for every input' (looked for: loops, veiled, ifaces, maps, wideKeys, modest, calm, conditions, laid).
  DERIVED. THE GIVEN ROWS OF THIS SEAT. 12 by the template 'for every input the law returns true; each argument reads behind the call as it read before'; 0 by the template 'total and deterministic' (their statements: YtkefflidoepfgaaTotals.lean).
  GIVEN WITH THE SEED: the statements are not yours to turn. If you find one false, say at which input.
  Laid BY PROGRAM, IN A SANDBOX (cutbox-rows.mjs): the forced cells as the released guide's own fill.sh prints them over the translation b4b12290008096d8… (all of the seat's roots in one cut). By AI agents, Wed Nov 11 2026. No macro, syntax, notation, axiom, sorry.
-/
import Derived.Test.YtkefflidoepfgaaChecked
import GoSem.Claim
import GoSem.ClaimJoined
import GoSem.ClaimMapViews
import Derived.JoinedTies
import Derived.KernelRfl
namespace Go.Proofs.Ytkefflidoepfgaa
/- THE CELL 'sum', in the pinned program and in every row, IS THE sha256 OF THE DUMP (.gsa) THAT YtkefflidoepfgaaProg.lean LOADS. Nothing in Lean hashes anything: it is a label: what it is worth is what the hold of that sum in a sandbox is worth. -/
noncomputable def Try.pinned : Pinned := { name := "ytkefflidoepfgaa", sum := "b4b12290008096d8ef08cc20a3401c5ab1d43cdcc21a75093e4c417a95344ae6", checked := Try.checked }
namespace Rows
def none {H : Type} : Left H := { results := [], args := [] }

/-- 'laws.FnExactValidBallots': WHATEVER THE INPUT: true; the input reads as it did. -/
def fnExactValidBallotsSpec : ChangeSpec := { name := "fnExactValidBallots", fn := fun _ => fun
  | [d1, d2] => { results := [.lit (.bool true)], args := [d1, d2] }
  | _ => none }
def fnExactValidBallotsRow : OpenClaim := { program := "ytkefflidoepfgaa", sum := "b4b12290008096d8ef08cc20a3401c5ab1d43cdcc21a75093e4c417a95344ae6", func := "loop.example/jointjudgments/laws.FnExactValidBallots", spec := "fnExactValidBallots", unfollowed := true, recurses := true, apart := false }
def FnExactValidBallotsSaid : Prop := fnExactValidBallotsRow.holds Try.pinned (OpenSpec.ofChange fnExactValidBallotsSpec)

/-- ITS FALSE NEIGHBOUR: 'it returns false'. Refute it at one input. -/
def fnExactValidBallotsWrong : ChangeSpec := { name := "fnExactValidBallots", fn := fun _ => fun
  | [d1, d2] => { results := [.lit (.bool false)], args := [d1, d2] }
  | _ => none }
def FnExactValidBallotsWrongFalsely : Prop := fnExactValidBallotsRow.holds Try.pinned (OpenSpec.ofChange fnExactValidBallotsWrong)

/-- 'laws.FnExactCommitteesOf': WHATEVER THE INPUT: true; the input reads as it did. -/
def fnExactCommitteesOfSpec : ChangeSpec := { name := "fnExactCommitteesOf", fn := fun _ => fun
  | [d1, d2] => { results := [.lit (.bool true)], args := [d1, d2] }
  | _ => none }
def fnExactCommitteesOfRow : OpenClaim := { program := "ytkefflidoepfgaa", sum := "b4b12290008096d8ef08cc20a3401c5ab1d43cdcc21a75093e4c417a95344ae6", func := "loop.example/jointjudgments/laws.FnExactCommitteesOf", spec := "fnExactCommitteesOf", apart := false }
def FnExactCommitteesOfSaid : Prop := fnExactCommitteesOfRow.holds Try.pinned (OpenSpec.ofChange fnExactCommitteesOfSpec)

/-- ITS FALSE NEIGHBOUR: 'it returns false'. Refute it at one input. -/
def fnExactCommitteesOfWrong : ChangeSpec := { name := "fnExactCommitteesOf", fn := fun _ => fun
  | [d1, d2] => { results := [.lit (.bool false)], args := [d1, d2] }
  | _ => none }
def FnExactCommitteesOfWrongFalsely : Prop := fnExactCommitteesOfRow.holds Try.pinned (OpenSpec.ofChange fnExactCommitteesOfWrong)

/-- 'laws.FnExactApprovalsOf': WHATEVER THE INPUT: true; the input reads as it did. -/
def fnExactApprovalsOfSpec : ChangeSpec := { name := "fnExactApprovalsOf", fn := fun _ => fun
  | [d1, d2] => { results := [.lit (.bool true)], args := [d1, d2] }
  | _ => none }
def fnExactApprovalsOfRow : OpenClaim := { program := "ytkefflidoepfgaa", sum := "b4b12290008096d8ef08cc20a3401c5ab1d43cdcc21a75093e4c417a95344ae6", func := "loop.example/jointjudgments/laws.FnExactApprovalsOf", spec := "fnExactApprovalsOf", unfollowed := true, recurses := true, apart := false }
def FnExactApprovalsOfSaid : Prop := fnExactApprovalsOfRow.holds Try.pinned (OpenSpec.ofChange fnExactApprovalsOfSpec)

/-- ITS FALSE NEIGHBOUR: 'it returns false'. Refute it at one input. -/
def fnExactApprovalsOfWrong : ChangeSpec := { name := "fnExactApprovalsOf", fn := fun _ => fun
  | [d1, d2] => { results := [.lit (.bool false)], args := [d1, d2] }
  | _ => none }
def FnExactApprovalsOfWrongFalsely : Prop := fnExactApprovalsOfRow.holds Try.pinned (OpenSpec.ofChange fnExactApprovalsOfWrong)

/-- 'laws.FnExactScoreOf': WHATEVER THE INPUT: true; the input reads as it did. -/
def fnExactScoreOfSpec : ChangeSpec := { name := "fnExactScoreOf", fn := fun _ => fun
  | [d1, d2, d3, d4] => { results := [.lit (.bool true)], args := [d1, d2, d3, d4] }
  | _ => none }
def fnExactScoreOfRow : OpenClaim := { program := "ytkefflidoepfgaa", sum := "b4b12290008096d8ef08cc20a3401c5ab1d43cdcc21a75093e4c417a95344ae6", func := "loop.example/jointjudgments/laws.FnExactScoreOf", spec := "fnExactScoreOf", unfollowed := true, recurses := true, apart := false }
def FnExactScoreOfSaid : Prop := fnExactScoreOfRow.holds Try.pinned (OpenSpec.ofChange fnExactScoreOfSpec)

/-- ITS FALSE NEIGHBOUR: 'it returns false'. Refute it at one input. -/
def fnExactScoreOfWrong : ChangeSpec := { name := "fnExactScoreOf", fn := fun _ => fun
  | [d1, d2, d3, d4] => { results := [.lit (.bool false)], args := [d1, d2, d3, d4] }
  | _ => none }
def FnExactScoreOfWrongFalsely : Prop := fnExactScoreOfRow.holds Try.pinned (OpenSpec.ofChange fnExactScoreOfWrong)

/-- 'laws.FnExactBestOf': WHATEVER THE INPUT: true; the input reads as it did. -/
def fnExactBestOfSpec : ChangeSpec := { name := "fnExactBestOf", fn := fun _ => fun
  | [d1, d2, d3, d4] => { results := [.lit (.bool true)], args := [d1, d2, d3, d4] }
  | _ => none }
def fnExactBestOfRow : OpenClaim := { program := "ytkefflidoepfgaa", sum := "b4b12290008096d8ef08cc20a3401c5ab1d43cdcc21a75093e4c417a95344ae6", func := "loop.example/jointjudgments/laws.FnExactBestOf", spec := "fnExactBestOf", unfollowed := true, recurses := true, apart := false }
def FnExactBestOfSaid : Prop := fnExactBestOfRow.holds Try.pinned (OpenSpec.ofChange fnExactBestOfSpec)

/-- ITS FALSE NEIGHBOUR: 'it returns false'. Refute it at one input. -/
def fnExactBestOfWrong : ChangeSpec := { name := "fnExactBestOf", fn := fun _ => fun
  | [d1, d2, d3, d4] => { results := [.lit (.bool false)], args := [d1, d2, d3, d4] }
  | _ => none }
def FnExactBestOfWrongFalsely : Prop := fnExactBestOfRow.holds Try.pinned (OpenSpec.ofChange fnExactBestOfWrong)

/-- 'laws.FnExactGreedyOf': WHATEVER THE INPUT: true; the input reads as it did. -/
def fnExactGreedyOfSpec : ChangeSpec := { name := "fnExactGreedyOf", fn := fun _ => fun
  | [d1, d2, d3, d4] => { results := [.lit (.bool true)], args := [d1, d2, d3, d4] }
  | _ => none }
def fnExactGreedyOfRow : OpenClaim := { program := "ytkefflidoepfgaa", sum := "b4b12290008096d8ef08cc20a3401c5ab1d43cdcc21a75093e4c417a95344ae6", func := "loop.example/jointjudgments/laws.FnExactGreedyOf", spec := "fnExactGreedyOf", unfollowed := true, recurses := true, apart := false }
def FnExactGreedyOfSaid : Prop := fnExactGreedyOfRow.holds Try.pinned (OpenSpec.ofChange fnExactGreedyOfSpec)

/-- ITS FALSE NEIGHBOUR: 'it returns false'. Refute it at one input. -/
def fnExactGreedyOfWrong : ChangeSpec := { name := "fnExactGreedyOf", fn := fun _ => fun
  | [d1, d2, d3, d4] => { results := [.lit (.bool false)], args := [d1, d2, d3, d4] }
  | _ => none }
def FnExactGreedyOfWrongFalsely : Prop := fnExactGreedyOfRow.holds Try.pinned (OpenSpec.ofChange fnExactGreedyOfWrong)

/-- 'laws.FnExactWrongedBy': WHATEVER THE INPUT: true; the input reads as it did. -/
def fnExactWrongedBySpec : ChangeSpec := { name := "fnExactWrongedBy", fn := fun _ => fun
  | [d1, d2, d3, d4, d5] => { results := [.lit (.bool true)], args := [d1, d2, d3, d4, d5] }
  | _ => none }
def fnExactWrongedByRow : OpenClaim := { program := "ytkefflidoepfgaa", sum := "b4b12290008096d8ef08cc20a3401c5ab1d43cdcc21a75093e4c417a95344ae6", func := "loop.example/jointjudgments/laws.FnExactWrongedBy", spec := "fnExactWrongedBy", unfollowed := true, recurses := true, apart := false }
def FnExactWrongedBySaid : Prop := fnExactWrongedByRow.holds Try.pinned (OpenSpec.ofChange fnExactWrongedBySpec)

/-- ITS FALSE NEIGHBOUR: 'it returns false'. Refute it at one input. -/
def fnExactWrongedByWrong : ChangeSpec := { name := "fnExactWrongedBy", fn := fun _ => fun
  | [d1, d2, d3, d4, d5] => { results := [.lit (.bool false)], args := [d1, d2, d3, d4, d5] }
  | _ => none }
def FnExactWrongedByWrongFalsely : Prop := fnExactWrongedByRow.holds Try.pinned (OpenSpec.ofChange fnExactWrongedByWrong)

/-- 'laws.FnExactIsJust': WHATEVER THE INPUT: true; the input reads as it did. -/
def fnExactIsJustSpec : ChangeSpec := { name := "fnExactIsJust", fn := fun _ => fun
  | [d1, d2, d3, d4, d5] => { results := [.lit (.bool true)], args := [d1, d2, d3, d4, d5] }
  | _ => none }
def fnExactIsJustRow : OpenClaim := { program := "ytkefflidoepfgaa", sum := "b4b12290008096d8ef08cc20a3401c5ab1d43cdcc21a75093e4c417a95344ae6", func := "loop.example/jointjudgments/laws.FnExactIsJust", spec := "fnExactIsJust", unfollowed := true, recurses := true, apart := false }
def FnExactIsJustSaid : Prop := fnExactIsJustRow.holds Try.pinned (OpenSpec.ofChange fnExactIsJustSpec)

/-- ITS FALSE NEIGHBOUR: 'it returns false'. Refute it at one input. -/
def fnExactIsJustWrong : ChangeSpec := { name := "fnExactIsJust", fn := fun _ => fun
  | [d1, d2, d3, d4, d5] => { results := [.lit (.bool false)], args := [d1, d2, d3, d4, d5] }
  | _ => none }
def FnExactIsJustWrongFalsely : Prop := fnExactIsJustRow.holds Try.pinned (OpenSpec.ofChange fnExactIsJustWrong)

/-- 'laws.FnExactLoadedOf': WHATEVER THE INPUT: true; the input reads as it did. -/
def fnExactLoadedOfSpec : ChangeSpec := { name := "fnExactLoadedOf", fn := fun _ => fun
  | [d1, d2, d3] => { results := [.lit (.bool true)], args := [d1, d2, d3] }
  | _ => none }
def fnExactLoadedOfRow : OpenClaim := { program := "ytkefflidoepfgaa", sum := "b4b12290008096d8ef08cc20a3401c5ab1d43cdcc21a75093e4c417a95344ae6", func := "loop.example/jointjudgments/laws.FnExactLoadedOf", spec := "fnExactLoadedOf", unfollowed := true, recurses := true, apart := false }
def FnExactLoadedOfSaid : Prop := fnExactLoadedOfRow.holds Try.pinned (OpenSpec.ofChange fnExactLoadedOfSpec)

/-- ITS FALSE NEIGHBOUR: 'it returns false'. Refute it at one input. -/
def fnExactLoadedOfWrong : ChangeSpec := { name := "fnExactLoadedOf", fn := fun _ => fun
  | [d1, d2, d3] => { results := [.lit (.bool false)], args := [d1, d2, d3] }
  | _ => none }
def FnExactLoadedOfWrongFalsely : Prop := fnExactLoadedOfRow.holds Try.pinned (OpenSpec.ofChange fnExactLoadedOfWrong)

/-- 'laws.FnExactIsServed': WHATEVER THE INPUT: true; the input reads as it did. -/
def fnExactIsServedSpec : ChangeSpec := { name := "fnExactIsServed", fn := fun _ => fun
  | [d1, d2, d3, d4] => { results := [.lit (.bool true)], args := [d1, d2, d3, d4] }
  | _ => none }
def fnExactIsServedRow : OpenClaim := { program := "ytkefflidoepfgaa", sum := "b4b12290008096d8ef08cc20a3401c5ab1d43cdcc21a75093e4c417a95344ae6", func := "loop.example/jointjudgments/laws.FnExactIsServed", spec := "fnExactIsServed", unfollowed := true, recurses := true, apart := false }
def FnExactIsServedSaid : Prop := fnExactIsServedRow.holds Try.pinned (OpenSpec.ofChange fnExactIsServedSpec)

/-- ITS FALSE NEIGHBOUR: 'it returns false'. Refute it at one input. -/
def fnExactIsServedWrong : ChangeSpec := { name := "fnExactIsServed", fn := fun _ => fun
  | [d1, d2, d3, d4] => { results := [.lit (.bool false)], args := [d1, d2, d3, d4] }
  | _ => none }
def FnExactIsServedWrongFalsely : Prop := fnExactIsServedRow.holds Try.pinned (OpenSpec.ofChange fnExactIsServedWrong)

/-- 'laws.FnExactSwapOf': WHATEVER THE INPUT: true; the input reads as it did. -/
def fnExactSwapOfSpec : ChangeSpec := { name := "fnExactSwapOf", fn := fun _ => fun
  | [d1, d2, d3] => { results := [.lit (.bool true)], args := [d1, d2, d3] }
  | _ => none }
def fnExactSwapOfRow : OpenClaim := { program := "ytkefflidoepfgaa", sum := "b4b12290008096d8ef08cc20a3401c5ab1d43cdcc21a75093e4c417a95344ae6", func := "loop.example/jointjudgments/laws.FnExactSwapOf", spec := "fnExactSwapOf", unfollowed := true, recurses := true, apart := false }
def FnExactSwapOfSaid : Prop := fnExactSwapOfRow.holds Try.pinned (OpenSpec.ofChange fnExactSwapOfSpec)

/-- ITS FALSE NEIGHBOUR: 'it returns false'. Refute it at one input. -/
def fnExactSwapOfWrong : ChangeSpec := { name := "fnExactSwapOf", fn := fun _ => fun
  | [d1, d2, d3] => { results := [.lit (.bool false)], args := [d1, d2, d3] }
  | _ => none }
def FnExactSwapOfWrongFalsely : Prop := fnExactSwapOfRow.holds Try.pinned (OpenSpec.ofChange fnExactSwapOfWrong)

/-- 'laws.FnExactCommitteeOf': WHATEVER THE INPUT: true; the input reads as it did. -/
def fnExactCommitteeOfSpec : ChangeSpec := { name := "fnExactCommitteeOf", fn := fun _ => fun
  | [d] => { results := [.lit (.bool true)], args := [d] }
  | _ => none }
def fnExactCommitteeOfRow : OpenClaim := { program := "ytkefflidoepfgaa", sum := "b4b12290008096d8ef08cc20a3401c5ab1d43cdcc21a75093e4c417a95344ae6", func := "loop.example/jointjudgments/laws.FnExactCommitteeOf", spec := "fnExactCommitteeOf", apart := false }
def FnExactCommitteeOfSaid : Prop := fnExactCommitteeOfRow.holds Try.pinned (OpenSpec.ofChange fnExactCommitteeOfSpec)

/-- ITS FALSE NEIGHBOUR: 'it returns false'. Refute it at one input. -/
def fnExactCommitteeOfWrong : ChangeSpec := { name := "fnExactCommitteeOf", fn := fun _ => fun
  | [d] => { results := [.lit (.bool false)], args := [d] }
  | _ => none }
def FnExactCommitteeOfWrongFalsely : Prop := fnExactCommitteeOfRow.holds Try.pinned (OpenSpec.ofChange fnExactCommitteeOfWrong)

/- THE SECOND FORM. 'bulk': how many values and letters a reading holds, each counted each time it is reached (what is shared counts as often as it is met; a slice's spare places count too). A statement '..UptoSaid' is the law's where the arguments, and the package variables that the reading takes, are together of bulk at most 1048576: NARROWER than '..Said'. Prove '..Said' where nothing that the law and all that it calls make is longer than what came in: it says more and counts as full. Else prove '..UptoSaid'. A law counts once. -/
mutual
def uptoBulk {H : Type} : DataW H → Nat
  | .lit (.string bytes) => bytes.length + 1
  | .lit _ => 1
  | .nil => 1
  | .ptr d => uptoBulk d + 1
  | .slice elems spare => uptoBulkAll elems + uptoBulkAll spare + 1
  | .agg parts => uptoBulkAll parts + 1
  | .iface _ d => uptoBulk d + 1
  | .map entries => uptoBulkEntries entries + 1
  | .held _ => 1
def uptoBulkAll {H : Type} : List (DataW H) → Nat
  | [] => 0
  | d :: r => uptoBulk d + uptoBulkAll r
def uptoBulkEntries {H : Type} : List (Lit × DataW H) → Nat
  | [] => 0
  | x :: r => uptoBulkEntry x + uptoBulkEntries r
def uptoBulkEntry {H : Type} : Lit × DataW H → Nat
  | (.string bytes, d) => bytes.length + uptoBulk d + 1
  | (_, d) => uptoBulk d + 1
 end
def uptoSmall : (H : Type) → List (DataW H) → Bool := fun _ ds => decide (uptoBulkAll ds ≤ 1048576)
def OpenSpec.upto (s : _root_.Go.ChangeSpec) : _root_.Go.OpenSpec := { _root_.Go.OpenSpec.ofChange s with cond := some uptoSmall }

/-- 'laws.FnExactValidBallots', WHERE WHAT IT READS IS OF BULK AT MOST 1048576: true; the input reads as it did. -/
def fnExactValidBallotsUptoRow : OpenClaim := { program := "ytkefflidoepfgaa", sum := "b4b12290008096d8ef08cc20a3401c5ab1d43cdcc21a75093e4c417a95344ae6", func := "loop.example/jointjudgments/laws.FnExactValidBallots", spec := "fnExactValidBallots", unfollowed := true, recurses := true, apart := false, narrowed := true }
def FnExactValidBallotsUptoSaid : Prop := fnExactValidBallotsUptoRow.holds Try.pinned (OpenSpec.upto fnExactValidBallotsSpec)

/-- 'laws.FnExactCommitteesOf', WHERE WHAT IT READS IS OF BULK AT MOST 1048576: true; the input reads as it did. -/
def fnExactCommitteesOfUptoRow : OpenClaim := { program := "ytkefflidoepfgaa", sum := "b4b12290008096d8ef08cc20a3401c5ab1d43cdcc21a75093e4c417a95344ae6", func := "loop.example/jointjudgments/laws.FnExactCommitteesOf", spec := "fnExactCommitteesOf", apart := false, narrowed := true }
def FnExactCommitteesOfUptoSaid : Prop := fnExactCommitteesOfUptoRow.holds Try.pinned (OpenSpec.upto fnExactCommitteesOfSpec)

/-- 'laws.FnExactApprovalsOf', WHERE WHAT IT READS IS OF BULK AT MOST 1048576: true; the input reads as it did. -/
def fnExactApprovalsOfUptoRow : OpenClaim := { program := "ytkefflidoepfgaa", sum := "b4b12290008096d8ef08cc20a3401c5ab1d43cdcc21a75093e4c417a95344ae6", func := "loop.example/jointjudgments/laws.FnExactApprovalsOf", spec := "fnExactApprovalsOf", unfollowed := true, recurses := true, apart := false, narrowed := true }
def FnExactApprovalsOfUptoSaid : Prop := fnExactApprovalsOfUptoRow.holds Try.pinned (OpenSpec.upto fnExactApprovalsOfSpec)

/-- 'laws.FnExactScoreOf', WHERE WHAT IT READS IS OF BULK AT MOST 1048576: true; the input reads as it did. -/
def fnExactScoreOfUptoRow : OpenClaim := { program := "ytkefflidoepfgaa", sum := "b4b12290008096d8ef08cc20a3401c5ab1d43cdcc21a75093e4c417a95344ae6", func := "loop.example/jointjudgments/laws.FnExactScoreOf", spec := "fnExactScoreOf", unfollowed := true, recurses := true, apart := false, narrowed := true }
def FnExactScoreOfUptoSaid : Prop := fnExactScoreOfUptoRow.holds Try.pinned (OpenSpec.upto fnExactScoreOfSpec)

/-- 'laws.FnExactBestOf', WHERE WHAT IT READS IS OF BULK AT MOST 1048576: true; the input reads as it did. -/
def fnExactBestOfUptoRow : OpenClaim := { program := "ytkefflidoepfgaa", sum := "b4b12290008096d8ef08cc20a3401c5ab1d43cdcc21a75093e4c417a95344ae6", func := "loop.example/jointjudgments/laws.FnExactBestOf", spec := "fnExactBestOf", unfollowed := true, recurses := true, apart := false, narrowed := true }
def FnExactBestOfUptoSaid : Prop := fnExactBestOfUptoRow.holds Try.pinned (OpenSpec.upto fnExactBestOfSpec)

/-- 'laws.FnExactGreedyOf', WHERE WHAT IT READS IS OF BULK AT MOST 1048576: true; the input reads as it did. -/
def fnExactGreedyOfUptoRow : OpenClaim := { program := "ytkefflidoepfgaa", sum := "b4b12290008096d8ef08cc20a3401c5ab1d43cdcc21a75093e4c417a95344ae6", func := "loop.example/jointjudgments/laws.FnExactGreedyOf", spec := "fnExactGreedyOf", unfollowed := true, recurses := true, apart := false, narrowed := true }
def FnExactGreedyOfUptoSaid : Prop := fnExactGreedyOfUptoRow.holds Try.pinned (OpenSpec.upto fnExactGreedyOfSpec)

/-- 'laws.FnExactWrongedBy', WHERE WHAT IT READS IS OF BULK AT MOST 1048576: true; the input reads as it did. -/
def fnExactWrongedByUptoRow : OpenClaim := { program := "ytkefflidoepfgaa", sum := "b4b12290008096d8ef08cc20a3401c5ab1d43cdcc21a75093e4c417a95344ae6", func := "loop.example/jointjudgments/laws.FnExactWrongedBy", spec := "fnExactWrongedBy", unfollowed := true, recurses := true, apart := false, narrowed := true }
def FnExactWrongedByUptoSaid : Prop := fnExactWrongedByUptoRow.holds Try.pinned (OpenSpec.upto fnExactWrongedBySpec)

/-- 'laws.FnExactIsJust', WHERE WHAT IT READS IS OF BULK AT MOST 1048576: true; the input reads as it did. -/
def fnExactIsJustUptoRow : OpenClaim := { program := "ytkefflidoepfgaa", sum := "b4b12290008096d8ef08cc20a3401c5ab1d43cdcc21a75093e4c417a95344ae6", func := "loop.example/jointjudgments/laws.FnExactIsJust", spec := "fnExactIsJust", unfollowed := true, recurses := true, apart := false, narrowed := true }
def FnExactIsJustUptoSaid : Prop := fnExactIsJustUptoRow.holds Try.pinned (OpenSpec.upto fnExactIsJustSpec)

/-- 'laws.FnExactLoadedOf', WHERE WHAT IT READS IS OF BULK AT MOST 1048576: true; the input reads as it did. -/
def fnExactLoadedOfUptoRow : OpenClaim := { program := "ytkefflidoepfgaa", sum := "b4b12290008096d8ef08cc20a3401c5ab1d43cdcc21a75093e4c417a95344ae6", func := "loop.example/jointjudgments/laws.FnExactLoadedOf", spec := "fnExactLoadedOf", unfollowed := true, recurses := true, apart := false, narrowed := true }
def FnExactLoadedOfUptoSaid : Prop := fnExactLoadedOfUptoRow.holds Try.pinned (OpenSpec.upto fnExactLoadedOfSpec)

/-- 'laws.FnExactIsServed', WHERE WHAT IT READS IS OF BULK AT MOST 1048576: true; the input reads as it did. -/
def fnExactIsServedUptoRow : OpenClaim := { program := "ytkefflidoepfgaa", sum := "b4b12290008096d8ef08cc20a3401c5ab1d43cdcc21a75093e4c417a95344ae6", func := "loop.example/jointjudgments/laws.FnExactIsServed", spec := "fnExactIsServed", unfollowed := true, recurses := true, apart := false, narrowed := true }
def FnExactIsServedUptoSaid : Prop := fnExactIsServedUptoRow.holds Try.pinned (OpenSpec.upto fnExactIsServedSpec)

/-- 'laws.FnExactSwapOf', WHERE WHAT IT READS IS OF BULK AT MOST 1048576: true; the input reads as it did. -/
def fnExactSwapOfUptoRow : OpenClaim := { program := "ytkefflidoepfgaa", sum := "b4b12290008096d8ef08cc20a3401c5ab1d43cdcc21a75093e4c417a95344ae6", func := "loop.example/jointjudgments/laws.FnExactSwapOf", spec := "fnExactSwapOf", unfollowed := true, recurses := true, apart := false, narrowed := true }
def FnExactSwapOfUptoSaid : Prop := fnExactSwapOfUptoRow.holds Try.pinned (OpenSpec.upto fnExactSwapOfSpec)

/-- 'laws.FnExactCommitteeOf', WHERE WHAT IT READS IS OF BULK AT MOST 1048576: true; the input reads as it did. -/
def fnExactCommitteeOfUptoRow : OpenClaim := { program := "ytkefflidoepfgaa", sum := "b4b12290008096d8ef08cc20a3401c5ab1d43cdcc21a75093e4c417a95344ae6", func := "loop.example/jointjudgments/laws.FnExactCommitteeOf", spec := "fnExactCommitteeOf", apart := false, narrowed := true }
def FnExactCommitteeOfUptoSaid : Prop := fnExactCommitteeOfUptoRow.holds Try.pinned (OpenSpec.upto fnExactCommitteeOfSpec)

end Rows
end Go.Proofs.Ytkefflidoepfgaa
