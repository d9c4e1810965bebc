/-
  No cell of these rows narrows 'for every input' (looked for: loops, veiled, ifaces, maps, wideKeys, modest, calm, conditions, laid).
  DERIVED. THE GIVEN ROWS OF THIS SEAT. 12 by the template 'for every input the law returns true; each argument reads behind the call as it read before'; 0 by the template 'total and deterministic' (their statements: YtklfpbidbiippaaTotals.lean).
  GIVEN WITH THE SEED: the statements are not yours to turn. If you find one false, say at which input.
  Laid BY PROGRAM, IN A SANDBOX (cutbox-rows.mjs): the forced cells as the released guide's own fill.sh prints them over the translation 56646d063bba8b63… (all of the seat's roots in one cut). By AI agents, Wed Nov 11 2026. No macro, syntax, notation, axiom, sorry.
-/
import Derived.Test.YtklfpbidbiippaaChecked
import GoSem.Claim
import GoSem.ClaimJoined
import GoSem.ClaimMapViews
import Derived.JoinedTies
import Derived.KernelRfl
namespace Go.Proofs.Ytklfpbidbiippaa
/- THE CELL 'sum', in the pinned program and in every row, IS THE sha256 OF THE DUMP (.gsa) THAT YtklfpbidbiippaaProg.lean LOADS. Nothing in Lean hashes anything: it is a label: what it is worth is what the hold of that sum in a sandbox is worth. -/
noncomputable def Try.pinned : Pinned := { name := "ytklfpbidbiippaa", sum := "56646d063bba8b638d08e190e3945fa2bbc1baf6e2d0b009160ef3c4692e015e", checked := Try.checked }
namespace Rows
def none {H : Type} : Left H := { results := [], args := [] }

/-- 'laws.FnValidVotes': WHATEVER THE INPUT: true; the input reads as it did. -/
def fnValidVotesSpec : ChangeSpec := { name := "fnValidVotes", fn := fun _ => fun
  | [d] => { results := [.lit (.bool true)], args := [d] }
  | _ => none }
def fnValidVotesRow : OpenClaim := { program := "ytklfpbidbiippaa", sum := "56646d063bba8b638d08e190e3945fa2bbc1baf6e2d0b009160ef3c4692e015e", func := "loop.example/jointjudgments/laws.FnValidVotes", spec := "fnValidVotes", unfollowed := true, recurses := true, apart := false }
def FnValidVotesSaid : Prop := fnValidVotesRow.holds Try.pinned (OpenSpec.ofChange fnValidVotesSpec)

/-- ITS FALSE NEIGHBOUR: 'it returns false'. Refute it at one input. -/
def fnValidVotesWrong : ChangeSpec := { name := "fnValidVotes", fn := fun _ => fun
  | [d] => { results := [.lit (.bool false)], args := [d] }
  | _ => none }
def FnValidVotesWrongFalsely : Prop := fnValidVotesRow.holds Try.pinned (OpenSpec.ofChange fnValidVotesWrong)

/-- 'laws.FnEvenClosure': WHATEVER THE INPUT: true; the input reads as it did. -/
def fnEvenClosureSpec : ChangeSpec := { name := "fnEvenClosure", fn := fun _ => fun
  | [d] => { results := [.lit (.bool true)], args := [d] }
  | _ => none }
def fnEvenClosureRow : OpenClaim := { program := "ytklfpbidbiippaa", sum := "56646d063bba8b638d08e190e3945fa2bbc1baf6e2d0b009160ef3c4692e015e", func := "loop.example/jointjudgments/laws.FnEvenClosure", spec := "fnEvenClosure", unfollowed := true, recurses := true, apart := false }
def FnEvenClosureSaid : Prop := fnEvenClosureRow.holds Try.pinned (OpenSpec.ofChange fnEvenClosureSpec)

/-- ITS FALSE NEIGHBOUR: 'it returns false'. Refute it at one input. -/
def fnEvenClosureWrong : ChangeSpec := { name := "fnEvenClosure", fn := fun _ => fun
  | [d] => { results := [.lit (.bool false)], args := [d] }
  | _ => none }
def FnEvenClosureWrongFalsely : Prop := fnEvenClosureRow.holds Try.pinned (OpenSpec.ofChange fnEvenClosureWrong)

/-- 'laws.FnHullOf': WHATEVER THE INPUT: true; the input reads as it did. -/
def fnHullOfSpec : ChangeSpec := { name := "fnHullOf", fn := fun _ => fun
  | [d] => { results := [.lit (.bool true)], args := [d] }
  | _ => none }
def fnHullOfRow : OpenClaim := { program := "ytklfpbidbiippaa", sum := "56646d063bba8b638d08e190e3945fa2bbc1baf6e2d0b009160ef3c4692e015e", func := "loop.example/jointjudgments/laws.FnHullOf", spec := "fnHullOf", unfollowed := true, recurses := true, apart := false }
def FnHullOfSaid : Prop := fnHullOfRow.holds Try.pinned (OpenSpec.ofChange fnHullOfSpec)

/-- ITS FALSE NEIGHBOUR: 'it returns false'. Refute it at one input. -/
def fnHullOfWrong : ChangeSpec := { name := "fnHullOf", fn := fun _ => fun
  | [d] => { results := [.lit (.bool false)], args := [d] }
  | _ => none }
def FnHullOfWrongFalsely : Prop := fnHullOfRow.holds Try.pinned (OpenSpec.ofChange fnHullOfWrong)

/-- 'laws.FnIsMonotone': WHATEVER THE INPUT: true; the input reads as it did. -/
def fnIsMonotoneSpec : ChangeSpec := { name := "fnIsMonotone", fn := fun _ => fun
  | [d] => { results := [.lit (.bool true)], args := [d] }
  | _ => none }
def fnIsMonotoneRow : OpenClaim := { program := "ytklfpbidbiippaa", sum := "56646d063bba8b638d08e190e3945fa2bbc1baf6e2d0b009160ef3c4692e015e", func := "loop.example/jointjudgments/laws.FnIsMonotone", spec := "fnIsMonotone", unfollowed := true, recurses := true, apart := false }
def FnIsMonotoneSaid : Prop := fnIsMonotoneRow.holds Try.pinned (OpenSpec.ofChange fnIsMonotoneSpec)

/-- ITS FALSE NEIGHBOUR: 'it returns false'. Refute it at one input. -/
def fnIsMonotoneWrong : ChangeSpec := { name := "fnIsMonotone", fn := fun _ => fun
  | [d] => { results := [.lit (.bool false)], args := [d] }
  | _ => none }
def FnIsMonotoneWrongFalsely : Prop := fnIsMonotoneRow.holds Try.pinned (OpenSpec.ofChange fnIsMonotoneWrong)

/-- 'laws.FnIsUnanimous': WHATEVER THE INPUT: true; the input reads as it did. -/
def fnIsUnanimousSpec : ChangeSpec := { name := "fnIsUnanimous", fn := fun _ => fun
  | [d] => { results := [.lit (.bool true)], args := [d] }
  | _ => none }
def fnIsUnanimousRow : OpenClaim := { program := "ytklfpbidbiippaa", sum := "56646d063bba8b638d08e190e3945fa2bbc1baf6e2d0b009160ef3c4692e015e", func := "loop.example/jointjudgments/laws.FnIsUnanimous", spec := "fnIsUnanimous", unfollowed := true, recurses := true, apart := false }
def FnIsUnanimousSaid : Prop := fnIsUnanimousRow.holds Try.pinned (OpenSpec.ofChange fnIsUnanimousSpec)

/-- ITS FALSE NEIGHBOUR: 'it returns false'. Refute it at one input. -/
def fnIsUnanimousWrong : ChangeSpec := { name := "fnIsUnanimous", fn := fun _ => fun
  | [d] => { results := [.lit (.bool false)], args := [d] }
  | _ => none }
def FnIsUnanimousWrongFalsely : Prop := fnIsUnanimousRow.holds Try.pinned (OpenSpec.ofChange fnIsUnanimousWrong)

/-- 'laws.FnIsNeutral': WHATEVER THE INPUT: true; the input reads as it did. -/
def fnIsNeutralSpec : ChangeSpec := { name := "fnIsNeutral", fn := fun _ => fun
  | [d] => { results := [.lit (.bool true)], args := [d] }
  | _ => none }
def fnIsNeutralRow : OpenClaim := { program := "ytklfpbidbiippaa", sum := "56646d063bba8b638d08e190e3945fa2bbc1baf6e2d0b009160ef3c4692e015e", func := "loop.example/jointjudgments/laws.FnIsNeutral", spec := "fnIsNeutral", unfollowed := true, recurses := true, apart := false }
def FnIsNeutralSaid : Prop := fnIsNeutralRow.holds Try.pinned (OpenSpec.ofChange fnIsNeutralSpec)

/-- ITS FALSE NEIGHBOUR: 'it returns false'. Refute it at one input. -/
def fnIsNeutralWrong : ChangeSpec := { name := "fnIsNeutral", fn := fun _ => fun
  | [d] => { results := [.lit (.bool false)], args := [d] }
  | _ => none }
def FnIsNeutralWrongFalsely : Prop := fnIsNeutralRow.holds Try.pinned (OpenSpec.ofChange fnIsNeutralWrong)

/-- 'laws.FnApplyRule': WHATEVER THE INPUT: true; the input reads as it did. -/
def fnApplyRuleSpec : ChangeSpec := { name := "fnApplyRule", fn := fun _ => fun
  | [d] => { results := [.lit (.bool true)], args := [d] }
  | _ => none }
def fnApplyRuleRow : OpenClaim := { program := "ytklfpbidbiippaa", sum := "56646d063bba8b638d08e190e3945fa2bbc1baf6e2d0b009160ef3c4692e015e", func := "loop.example/jointjudgments/laws.FnApplyRule", spec := "fnApplyRule", unfollowed := true, recurses := true, apart := false }
def FnApplyRuleSaid : Prop := fnApplyRuleRow.holds Try.pinned (OpenSpec.ofChange fnApplyRuleSpec)

/-- ITS FALSE NEIGHBOUR: 'it returns false'. Refute it at one input. -/
def fnApplyRuleWrong : ChangeSpec := { name := "fnApplyRule", fn := fun _ => fun
  | [d] => { results := [.lit (.bool false)], args := [d] }
  | _ => none }
def FnApplyRuleWrongFalsely : Prop := fnApplyRuleRow.holds Try.pinned (OpenSpec.ofChange fnApplyRuleWrong)

/-- 'laws.FnRuleOfQuotas': WHATEVER THE INPUT: true; the input reads as it did. -/
def fnRuleOfQuotasSpec : ChangeSpec := { name := "fnRuleOfQuotas", fn := fun _ => fun
  | [d] => { results := [.lit (.bool true)], args := [d] }
  | _ => none }
def fnRuleOfQuotasRow : OpenClaim := { program := "ytklfpbidbiippaa", sum := "56646d063bba8b638d08e190e3945fa2bbc1baf6e2d0b009160ef3c4692e015e", func := "loop.example/jointjudgments/laws.FnRuleOfQuotas", spec := "fnRuleOfQuotas", unfollowed := true, recurses := true, apart := false }
def FnRuleOfQuotasSaid : Prop := fnRuleOfQuotasRow.holds Try.pinned (OpenSpec.ofChange fnRuleOfQuotasSpec)

/-- ITS FALSE NEIGHBOUR: 'it returns false'. Refute it at one input. -/
def fnRuleOfQuotasWrong : ChangeSpec := { name := "fnRuleOfQuotas", fn := fun _ => fun
  | [d] => { results := [.lit (.bool false)], args := [d] }
  | _ => none }
def FnRuleOfQuotasWrongFalsely : Prop := fnRuleOfQuotasRow.holds Try.pinned (OpenSpec.ofChange fnRuleOfQuotasWrong)

/-- 'laws.FnExactRuleOfQuotas': WHATEVER THE INPUT: true; the input reads as it did. -/
def fnExactRuleOfQuotasSpec : ChangeSpec := { name := "fnExactRuleOfQuotas", fn := fun _ => fun
  | [d1, d2, d3] => { results := [.lit (.bool true)], args := [d1, d2, d3] }
  | _ => none }
def fnExactRuleOfQuotasRow : OpenClaim := { program := "ytklfpbidbiippaa", sum := "56646d063bba8b638d08e190e3945fa2bbc1baf6e2d0b009160ef3c4692e015e", func := "loop.example/jointjudgments/laws.FnExactRuleOfQuotas", spec := "fnExactRuleOfQuotas", unfollowed := true, recurses := true, apart := false }
def FnExactRuleOfQuotasSaid : Prop := fnExactRuleOfQuotasRow.holds Try.pinned (OpenSpec.ofChange fnExactRuleOfQuotasSpec)

/-- ITS FALSE NEIGHBOUR: 'it returns false'. Refute it at one input. -/
def fnExactRuleOfQuotasWrong : ChangeSpec := { name := "fnExactRuleOfQuotas", fn := fun _ => fun
  | [d1, d2, d3] => { results := [.lit (.bool false)], args := [d1, d2, d3] }
  | _ => none }
def FnExactRuleOfQuotasWrongFalsely : Prop := fnExactRuleOfQuotasRow.holds Try.pinned (OpenSpec.ofChange fnExactRuleOfQuotasWrong)

/-- 'laws.FnExactIsSafe': WHATEVER THE INPUT: true; the input reads as it did. -/
def fnExactIsSafeSpec : ChangeSpec := { name := "fnExactIsSafe", fn := fun _ => fun
  | [d1, d2] => { results := [.lit (.bool true)], args := [d1, d2] }
  | _ => none }
def fnExactIsSafeRow : OpenClaim := { program := "ytklfpbidbiippaa", sum := "56646d063bba8b638d08e190e3945fa2bbc1baf6e2d0b009160ef3c4692e015e", func := "loop.example/jointjudgments/laws.FnExactIsSafe", spec := "fnExactIsSafe", unfollowed := true, recurses := true, apart := false }
def FnExactIsSafeSaid : Prop := fnExactIsSafeRow.holds Try.pinned (OpenSpec.ofChange fnExactIsSafeSpec)

/-- ITS FALSE NEIGHBOUR: 'it returns false'. Refute it at one input. -/
def fnExactIsSafeWrong : ChangeSpec := { name := "fnExactIsSafe", fn := fun _ => fun
  | [d1, d2] => { results := [.lit (.bool false)], args := [d1, d2] }
  | _ => none }
def FnExactIsSafeWrongFalsely : Prop := fnExactIsSafeRow.holds Try.pinned (OpenSpec.ofChange fnExactIsSafeWrong)

/-- 'laws.FnExactSpaceWithout': WHATEVER THE INPUT: true; the input reads as it did. -/
def fnExactSpaceWithoutSpec : ChangeSpec := { name := "fnExactSpaceWithout", fn := fun _ => fun
  | [d1, d2] => { results := [.lit (.bool true)], args := [d1, d2] }
  | _ => none }
def fnExactSpaceWithoutRow : OpenClaim := { program := "ytklfpbidbiippaa", sum := "56646d063bba8b638d08e190e3945fa2bbc1baf6e2d0b009160ef3c4692e015e", func := "loop.example/jointjudgments/laws.FnExactSpaceWithout", spec := "fnExactSpaceWithout", unfollowed := true, recurses := true, apart := false }
def FnExactSpaceWithoutSaid : Prop := fnExactSpaceWithoutRow.holds Try.pinned (OpenSpec.ofChange fnExactSpaceWithoutSpec)

/-- ITS FALSE NEIGHBOUR: 'it returns false'. Refute it at one input. -/
def fnExactSpaceWithoutWrong : ChangeSpec := { name := "fnExactSpaceWithout", fn := fun _ => fun
  | [d1, d2] => { results := [.lit (.bool false)], args := [d1, d2] }
  | _ => none }
def FnExactSpaceWithoutWrongFalsely : Prop := fnExactSpaceWithoutRow.holds Try.pinned (OpenSpec.ofChange fnExactSpaceWithoutWrong)

/-- 'laws.FnSpaceWithout': WHATEVER THE INPUT: true; the input reads as it did. -/
def fnSpaceWithoutSpec : ChangeSpec := { name := "fnSpaceWithout", fn := fun _ => fun
  | [d] => { results := [.lit (.bool true)], args := [d] }
  | _ => none }
def fnSpaceWithoutRow : OpenClaim := { program := "ytklfpbidbiippaa", sum := "56646d063bba8b638d08e190e3945fa2bbc1baf6e2d0b009160ef3c4692e015e", func := "loop.example/jointjudgments/laws.FnSpaceWithout", spec := "fnSpaceWithout", unfollowed := true, recurses := true, apart := false }
def FnSpaceWithoutSaid : Prop := fnSpaceWithoutRow.holds Try.pinned (OpenSpec.ofChange fnSpaceWithoutSpec)

/-- ITS FALSE NEIGHBOUR: 'it returns false'. Refute it at one input. -/
def fnSpaceWithoutWrong : ChangeSpec := { name := "fnSpaceWithout", fn := fun _ => fun
  | [d] => { results := [.lit (.bool false)], args := [d] }
  | _ => none }
def FnSpaceWithoutWrongFalsely : Prop := fnSpaceWithoutRow.holds Try.pinned (OpenSpec.ofChange fnSpaceWithoutWrong)

/- THE SECOND FORM. 'bulk': how many values and letters a reading holds, each counted each time it is reached (what is shared counts as often as it is met; a slice's spare places count too). A statement '..UptoSaid' is the law's where the arguments, and the package variables that the reading takes, are together of bulk at most 1048576: NARROWER than '..Said'. Prove '..Said' where nothing that the law and all that it calls make is longer than what came in: it says more and counts as full. Else prove '..UptoSaid'. A law counts once. -/
mutual
def uptoBulk {H : Type} : DataW H → Nat
  | .lit (.string bytes) => bytes.length + 1
  | .lit _ => 1
  | .nil => 1
  | .ptr d => uptoBulk d + 1
  | .slice elems spare => uptoBulkAll elems + uptoBulkAll spare + 1
  | .agg parts => uptoBulkAll parts + 1
  | .iface _ d => uptoBulk d + 1
  | .map entries => uptoBulkEntries entries + 1
  | .held _ => 1
def uptoBulkAll {H : Type} : List (DataW H) → Nat
  | [] => 0
  | d :: r => uptoBulk d + uptoBulkAll r
def uptoBulkEntries {H : Type} : List (Lit × DataW H) → Nat
  | [] => 0
  | x :: r => uptoBulkEntry x + uptoBulkEntries r
def uptoBulkEntry {H : Type} : Lit × DataW H → Nat
  | (.string bytes, d) => bytes.length + uptoBulk d + 1
  | (_, d) => uptoBulk d + 1
 end
def uptoSmall : (H : Type) → List (DataW H) → Bool := fun _ ds => decide (uptoBulkAll ds ≤ 1048576)
def OpenSpec.upto (s : _root_.Go.ChangeSpec) : _root_.Go.OpenSpec := { _root_.Go.OpenSpec.ofChange s with cond := some uptoSmall }

/-- 'laws.FnValidVotes', WHERE WHAT IT READS IS OF BULK AT MOST 1048576: true; the input reads as it did. -/
def fnValidVotesUptoRow : OpenClaim := { program := "ytklfpbidbiippaa", sum := "56646d063bba8b638d08e190e3945fa2bbc1baf6e2d0b009160ef3c4692e015e", func := "loop.example/jointjudgments/laws.FnValidVotes", spec := "fnValidVotes", unfollowed := true, recurses := true, apart := false, narrowed := true }
def FnValidVotesUptoSaid : Prop := fnValidVotesUptoRow.holds Try.pinned (OpenSpec.upto fnValidVotesSpec)

/-- 'laws.FnEvenClosure', WHERE WHAT IT READS IS OF BULK AT MOST 1048576: true; the input reads as it did. -/
def fnEvenClosureUptoRow : OpenClaim := { program := "ytklfpbidbiippaa", sum := "56646d063bba8b638d08e190e3945fa2bbc1baf6e2d0b009160ef3c4692e015e", func := "loop.example/jointjudgments/laws.FnEvenClosure", spec := "fnEvenClosure", unfollowed := true, recurses := true, apart := false, narrowed := true }
def FnEvenClosureUptoSaid : Prop := fnEvenClosureUptoRow.holds Try.pinned (OpenSpec.upto fnEvenClosureSpec)

/-- 'laws.FnHullOf', WHERE WHAT IT READS IS OF BULK AT MOST 1048576: true; the input reads as it did. -/
def fnHullOfUptoRow : OpenClaim := { program := "ytklfpbidbiippaa", sum := "56646d063bba8b638d08e190e3945fa2bbc1baf6e2d0b009160ef3c4692e015e", func := "loop.example/jointjudgments/laws.FnHullOf", spec := "fnHullOf", unfollowed := true, recurses := true, apart := false, narrowed := true }
def FnHullOfUptoSaid : Prop := fnHullOfUptoRow.holds Try.pinned (OpenSpec.upto fnHullOfSpec)

/-- 'laws.FnIsMonotone', WHERE WHAT IT READS IS OF BULK AT MOST 1048576: true; the input reads as it did. -/
def fnIsMonotoneUptoRow : OpenClaim := { program := "ytklfpbidbiippaa", sum := "56646d063bba8b638d08e190e3945fa2bbc1baf6e2d0b009160ef3c4692e015e", func := "loop.example/jointjudgments/laws.FnIsMonotone", spec := "fnIsMonotone", unfollowed := true, recurses := true, apart := false, narrowed := true }
def FnIsMonotoneUptoSaid : Prop := fnIsMonotoneUptoRow.holds Try.pinned (OpenSpec.upto fnIsMonotoneSpec)

/-- 'laws.FnIsUnanimous', WHERE WHAT IT READS IS OF BULK AT MOST 1048576: true; the input reads as it did. -/
def fnIsUnanimousUptoRow : OpenClaim := { program := "ytklfpbidbiippaa", sum := "56646d063bba8b638d08e190e3945fa2bbc1baf6e2d0b009160ef3c4692e015e", func := "loop.example/jointjudgments/laws.FnIsUnanimous", spec := "fnIsUnanimous", unfollowed := true, recurses := true, apart := false, narrowed := true }
def FnIsUnanimousUptoSaid : Prop := fnIsUnanimousUptoRow.holds Try.pinned (OpenSpec.upto fnIsUnanimousSpec)

/-- 'laws.FnIsNeutral', WHERE WHAT IT READS IS OF BULK AT MOST 1048576: true; the input reads as it did. -/
def fnIsNeutralUptoRow : OpenClaim := { program := "ytklfpbidbiippaa", sum := "56646d063bba8b638d08e190e3945fa2bbc1baf6e2d0b009160ef3c4692e015e", func := "loop.example/jointjudgments/laws.FnIsNeutral", spec := "fnIsNeutral", unfollowed := true, recurses := true, apart := false, narrowed := true }
def FnIsNeutralUptoSaid : Prop := fnIsNeutralUptoRow.holds Try.pinned (OpenSpec.upto fnIsNeutralSpec)

/-- 'laws.FnApplyRule', WHERE WHAT IT READS IS OF BULK AT MOST 1048576: true; the input reads as it did. -/
def fnApplyRuleUptoRow : OpenClaim := { program := "ytklfpbidbiippaa", sum := "56646d063bba8b638d08e190e3945fa2bbc1baf6e2d0b009160ef3c4692e015e", func := "loop.example/jointjudgments/laws.FnApplyRule", spec := "fnApplyRule", unfollowed := true, recurses := true, apart := false, narrowed := true }
def FnApplyRuleUptoSaid : Prop := fnApplyRuleUptoRow.holds Try.pinned (OpenSpec.upto fnApplyRuleSpec)

/-- 'laws.FnRuleOfQuotas', WHERE WHAT IT READS IS OF BULK AT MOST 1048576: true; the input reads as it did. -/
def fnRuleOfQuotasUptoRow : OpenClaim := { program := "ytklfpbidbiippaa", sum := "56646d063bba8b638d08e190e3945fa2bbc1baf6e2d0b009160ef3c4692e015e", func := "loop.example/jointjudgments/laws.FnRuleOfQuotas", spec := "fnRuleOfQuotas", unfollowed := true, recurses := true, apart := false, narrowed := true }
def FnRuleOfQuotasUptoSaid : Prop := fnRuleOfQuotasUptoRow.holds Try.pinned (OpenSpec.upto fnRuleOfQuotasSpec)

/-- 'laws.FnExactRuleOfQuotas', WHERE WHAT IT READS IS OF BULK AT MOST 1048576: true; the input reads as it did. -/
def fnExactRuleOfQuotasUptoRow : OpenClaim := { program := "ytklfpbidbiippaa", sum := "56646d063bba8b638d08e190e3945fa2bbc1baf6e2d0b009160ef3c4692e015e", func := "loop.example/jointjudgments/laws.FnExactRuleOfQuotas", spec := "fnExactRuleOfQuotas", unfollowed := true, recurses := true, apart := false, narrowed := true }
def FnExactRuleOfQuotasUptoSaid : Prop := fnExactRuleOfQuotasUptoRow.holds Try.pinned (OpenSpec.upto fnExactRuleOfQuotasSpec)

/-- 'laws.FnExactIsSafe', WHERE WHAT IT READS IS OF BULK AT MOST 1048576: true; the input reads as it did. -/
def fnExactIsSafeUptoRow : OpenClaim := { program := "ytklfpbidbiippaa", sum := "56646d063bba8b638d08e190e3945fa2bbc1baf6e2d0b009160ef3c4692e015e", func := "loop.example/jointjudgments/laws.FnExactIsSafe", spec := "fnExactIsSafe", unfollowed := true, recurses := true, apart := false, narrowed := true }
def FnExactIsSafeUptoSaid : Prop := fnExactIsSafeUptoRow.holds Try.pinned (OpenSpec.upto fnExactIsSafeSpec)

/-- 'laws.FnExactSpaceWithout', WHERE WHAT IT READS IS OF BULK AT MOST 1048576: true; the input reads as it did. -/
def fnExactSpaceWithoutUptoRow : OpenClaim := { program := "ytklfpbidbiippaa", sum := "56646d063bba8b638d08e190e3945fa2bbc1baf6e2d0b009160ef3c4692e015e", func := "loop.example/jointjudgments/laws.FnExactSpaceWithout", spec := "fnExactSpaceWithout", unfollowed := true, recurses := true, apart := false, narrowed := true }
def FnExactSpaceWithoutUptoSaid : Prop := fnExactSpaceWithoutUptoRow.holds Try.pinned (OpenSpec.upto fnExactSpaceWithoutSpec)

/-- 'laws.FnSpaceWithout', WHERE WHAT IT READS IS OF BULK AT MOST 1048576: true; the input reads as it did. -/
def fnSpaceWithoutUptoRow : OpenClaim := { program := "ytklfpbidbiippaa", sum := "56646d063bba8b638d08e190e3945fa2bbc1baf6e2d0b009160ef3c4692e015e", func := "loop.example/jointjudgments/laws.FnSpaceWithout", spec := "fnSpaceWithout", unfollowed := true, recurses := true, apart := false, narrowed := true }
def FnSpaceWithoutUptoSaid : Prop := fnSpaceWithoutUptoRow.holds Try.pinned (OpenSpec.upto fnSpaceWithoutSpec)

end Rows
end Go.Proofs.Ytklfpbidbiippaa
