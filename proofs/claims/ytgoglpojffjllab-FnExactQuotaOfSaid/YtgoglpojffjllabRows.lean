/-
  No cell of these rows narrows 'for every input' (looked for: loops, veiled, ifaces, maps, wideKeys, modest, calm, conditions, laid).
  DERIVED. THE GIVEN ROWS OF THIS SEAT. 12 by the template 'for every input the law returns true; each argument reads behind the call as it read before'; 0 by the template 'total and deterministic' (their statements: YtgoglpojffjllabTotals.lean).
  GIVEN WITH THE SEED: the statements are not yours to turn. If you find one false, say at which input.
  Laid BY PROGRAM, IN A SANDBOX (cutbox-rows.mjs): the forced cells as the released guide's own fill.sh prints them over the translation 320e9a71a1b15364… (all of the seat's roots in one cut). By AI agents, Wed Nov 11 2026. No macro, syntax, notation, axiom, sorry.
-/
import Derived.Test.YtgoglpojffjllabChecked
import GoSem.Claim
import GoSem.ClaimJoined
import GoSem.ClaimMapViews
import Derived.JoinedTies
import Derived.KernelRfl
namespace Go.Proofs.Ytgoglpojffjllab
/- THE CELL 'sum', in the pinned program and in every row, IS THE sha256 OF THE DUMP (.gsa) THAT YtgoglpojffjllabProg.lean LOADS. Nothing in Lean hashes anything: it is a label: what it is worth is what the hold of that sum in a sandbox is worth. -/
noncomputable def Try.pinned : Pinned := { name := "ytgoglpojffjllab", sum := "320e9a71a1b15364468e8d6e7fed1aabb55d5e34c79c4b7fff23a7543baa4e93", checked := Try.checked }
namespace Rows
def none {H : Type} : Left H := { results := [], args := [] }

/-- 'laws.FnExactQuotaOf': WHATEVER THE INPUT: true; the input reads as it did. -/
def fnExactQuotaOfSpec : ChangeSpec := { name := "fnExactQuotaOf", fn := fun _ => fun
  | [d1, d2, d3] => { results := [.lit (.bool true)], args := [d1, d2, d3] }
  | _ => none }
def fnExactQuotaOfRow : OpenClaim := { program := "ytgoglpojffjllab", sum := "320e9a71a1b15364468e8d6e7fed1aabb55d5e34c79c4b7fff23a7543baa4e93", func := "loop.example/jointjudgments/laws.FnExactQuotaOf", spec := "fnExactQuotaOf", unfollowed := true, recurses := true, plainKeys := false, apart := false }
def FnExactQuotaOfSaid : Prop := fnExactQuotaOfRow.holds Try.pinned (OpenSpec.ofChange fnExactQuotaOfSpec)

/-- ITS FALSE NEIGHBOUR: 'it returns false'. Refute it at one input. -/
def fnExactQuotaOfWrong : ChangeSpec := { name := "fnExactQuotaOf", fn := fun _ => fun
  | [d1, d2, d3] => { results := [.lit (.bool false)], args := [d1, d2, d3] }
  | _ => none }
def FnExactQuotaOfWrongFalsely : Prop := fnExactQuotaOfRow.holds Try.pinned (OpenSpec.ofChange fnExactQuotaOfWrong)

/-- 'laws.FnExactIsQuotaSafe': WHATEVER THE INPUT: true; the input reads as it did. -/
def fnExactIsQuotaSafeSpec : ChangeSpec := { name := "fnExactIsQuotaSafe", fn := fun _ => fun
  | [d1, d2, d3] => { results := [.lit (.bool true)], args := [d1, d2, d3] }
  | _ => none }
def fnExactIsQuotaSafeRow : OpenClaim := { program := "ytgoglpojffjllab", sum := "320e9a71a1b15364468e8d6e7fed1aabb55d5e34c79c4b7fff23a7543baa4e93", func := "loop.example/jointjudgments/laws.FnExactIsQuotaSafe", spec := "fnExactIsQuotaSafe", unfollowed := true, recurses := true, plainKeys := false, apart := false }
def FnExactIsQuotaSafeSaid : Prop := fnExactIsQuotaSafeRow.holds Try.pinned (OpenSpec.ofChange fnExactIsQuotaSafeSpec)

/-- ITS FALSE NEIGHBOUR: 'it returns false'. Refute it at one input. -/
def fnExactIsQuotaSafeWrong : ChangeSpec := { name := "fnExactIsQuotaSafe", fn := fun _ => fun
  | [d1, d2, d3] => { results := [.lit (.bool false)], args := [d1, d2, d3] }
  | _ => none }
def FnExactIsQuotaSafeWrongFalsely : Prop := fnExactIsQuotaSafeRow.holds Try.pinned (OpenSpec.ofChange fnExactIsQuotaSafeWrong)

/-- 'laws.FnExactMedianRule': WHATEVER THE INPUT: true; the input reads as it did. -/
def fnExactMedianRuleSpec : ChangeSpec := { name := "fnExactMedianRule", fn := fun _ => fun
  | [d1, d2] => { results := [.lit (.bool true)], args := [d1, d2] }
  | _ => none }
def fnExactMedianRuleRow : OpenClaim := { program := "ytgoglpojffjllab", sum := "320e9a71a1b15364468e8d6e7fed1aabb55d5e34c79c4b7fff23a7543baa4e93", func := "loop.example/jointjudgments/laws.FnExactMedianRule", spec := "fnExactMedianRule", unfollowed := true, recurses := true, plainKeys := false, apart := false }
def FnExactMedianRuleSaid : Prop := fnExactMedianRuleRow.holds Try.pinned (OpenSpec.ofChange fnExactMedianRuleSpec)

/-- ITS FALSE NEIGHBOUR: 'it returns false'. Refute it at one input. -/
def fnExactMedianRuleWrong : ChangeSpec := { name := "fnExactMedianRule", fn := fun _ => fun
  | [d1, d2] => { results := [.lit (.bool false)], args := [d1, d2] }
  | _ => none }
def FnExactMedianRuleWrongFalsely : Prop := fnExactMedianRuleRow.holds Try.pinned (OpenSpec.ofChange fnExactMedianRuleWrong)

/-- 'laws.FnExactMiddleRule': WHATEVER THE INPUT: true; the input reads as it did. -/
def fnExactMiddleRuleSpec : ChangeSpec := { name := "fnExactMiddleRule", fn := fun _ => fun
  | [d1, d2] => { results := [.lit (.bool true)], args := [d1, d2] }
  | _ => none }
def fnExactMiddleRuleRow : OpenClaim := { program := "ytgoglpojffjllab", sum := "320e9a71a1b15364468e8d6e7fed1aabb55d5e34c79c4b7fff23a7543baa4e93", func := "loop.example/jointjudgments/laws.FnExactMiddleRule", spec := "fnExactMiddleRule", unfollowed := true, recurses := true, plainKeys := false, apart := false }
def FnExactMiddleRuleSaid : Prop := fnExactMiddleRuleRow.holds Try.pinned (OpenSpec.ofChange fnExactMiddleRuleSpec)

/-- ITS FALSE NEIGHBOUR: 'it returns false'. Refute it at one input. -/
def fnExactMiddleRuleWrong : ChangeSpec := { name := "fnExactMiddleRule", fn := fun _ => fun
  | [d1, d2] => { results := [.lit (.bool false)], args := [d1, d2] }
  | _ => none }
def FnExactMiddleRuleWrongFalsely : Prop := fnExactMiddleRuleRow.holds Try.pinned (OpenSpec.ofChange fnExactMiddleRuleWrong)

/-- 'laws.FnExactWantedPart': WHATEVER THE INPUT: true; the input reads as it did. -/
def fnExactWantedPartSpec : ChangeSpec := { name := "fnExactWantedPart", fn := fun _ => fun
  | [d1, d2] => { results := [.lit (.bool true)], args := [d1, d2] }
  | _ => none }
def fnExactWantedPartRow : OpenClaim := { program := "ytgoglpojffjllab", sum := "320e9a71a1b15364468e8d6e7fed1aabb55d5e34c79c4b7fff23a7543baa4e93", func := "loop.example/jointjudgments/laws.FnExactWantedPart", spec := "fnExactWantedPart", unfollowed := true, recurses := true, plainKeys := false, apart := false }
def FnExactWantedPartSaid : Prop := fnExactWantedPartRow.holds Try.pinned (OpenSpec.ofChange fnExactWantedPartSpec)

/-- ITS FALSE NEIGHBOUR: 'it returns false'. Refute it at one input. -/
def fnExactWantedPartWrong : ChangeSpec := { name := "fnExactWantedPart", fn := fun _ => fun
  | [d1, d2] => { results := [.lit (.bool false)], args := [d1, d2] }
  | _ => none }
def FnExactWantedPartWrongFalsely : Prop := fnExactWantedPartRow.holds Try.pinned (OpenSpec.ofChange fnExactWantedPartWrong)

/-- 'laws.FnExactIsSettled': WHATEVER THE INPUT: true; the input reads as it did. -/
def fnExactIsSettledSpec : ChangeSpec := { name := "fnExactIsSettled", fn := fun _ => fun
  | [d1, d2] => { results := [.lit (.bool true)], args := [d1, d2] }
  | _ => none }
def fnExactIsSettledRow : OpenClaim := { program := "ytgoglpojffjllab", sum := "320e9a71a1b15364468e8d6e7fed1aabb55d5e34c79c4b7fff23a7543baa4e93", func := "loop.example/jointjudgments/laws.FnExactIsSettled", spec := "fnExactIsSettled", unfollowed := true, recurses := true, plainKeys := false, apart := false }
def FnExactIsSettledSaid : Prop := fnExactIsSettledRow.holds Try.pinned (OpenSpec.ofChange fnExactIsSettledSpec)

/-- ITS FALSE NEIGHBOUR: 'it returns false'. Refute it at one input. -/
def fnExactIsSettledWrong : ChangeSpec := { name := "fnExactIsSettled", fn := fun _ => fun
  | [d1, d2] => { results := [.lit (.bool false)], args := [d1, d2] }
  | _ => none }
def FnExactIsSettledWrongFalsely : Prop := fnExactIsSettledRow.holds Try.pinned (OpenSpec.ofChange fnExactIsSettledWrong)

/-- 'laws.FnExactKeptRule': WHATEVER THE INPUT: true; the input reads as it did. -/
def fnExactKeptRuleSpec : ChangeSpec := { name := "fnExactKeptRule", fn := fun _ => fun
  | [d1, d2] => { results := [.lit (.bool true)], args := [d1, d2] }
  | _ => none }
def fnExactKeptRuleRow : OpenClaim := { program := "ytgoglpojffjllab", sum := "320e9a71a1b15364468e8d6e7fed1aabb55d5e34c79c4b7fff23a7543baa4e93", func := "loop.example/jointjudgments/laws.FnExactKeptRule", spec := "fnExactKeptRule", unfollowed := true, recurses := true, plainKeys := false, apart := false }
def FnExactKeptRuleSaid : Prop := fnExactKeptRuleRow.holds Try.pinned (OpenSpec.ofChange fnExactKeptRuleSpec)

/-- ITS FALSE NEIGHBOUR: 'it returns false'. Refute it at one input. -/
def fnExactKeptRuleWrong : ChangeSpec := { name := "fnExactKeptRule", fn := fun _ => fun
  | [d1, d2] => { results := [.lit (.bool false)], args := [d1, d2] }
  | _ => none }
def FnExactKeptRuleWrongFalsely : Prop := fnExactKeptRuleRow.holds Try.pinned (OpenSpec.ofChange fnExactKeptRuleWrong)

/-- 'laws.FnExactSlaterRule': WHATEVER THE INPUT: true; the input reads as it did. -/
def fnExactSlaterRuleSpec : ChangeSpec := { name := "fnExactSlaterRule", fn := fun _ => fun
  | [d1, d2] => { results := [.lit (.bool true)], args := [d1, d2] }
  | _ => none }
def fnExactSlaterRuleRow : OpenClaim := { program := "ytgoglpojffjllab", sum := "320e9a71a1b15364468e8d6e7fed1aabb55d5e34c79c4b7fff23a7543baa4e93", func := "loop.example/jointjudgments/laws.FnExactSlaterRule", spec := "fnExactSlaterRule", unfollowed := true, recurses := true, plainKeys := false, apart := false }
def FnExactSlaterRuleSaid : Prop := fnExactSlaterRuleRow.holds Try.pinned (OpenSpec.ofChange fnExactSlaterRuleSpec)

/-- ITS FALSE NEIGHBOUR: 'it returns false'. Refute it at one input. -/
def fnExactSlaterRuleWrong : ChangeSpec := { name := "fnExactSlaterRule", fn := fun _ => fun
  | [d1, d2] => { results := [.lit (.bool false)], args := [d1, d2] }
  | _ => none }
def FnExactSlaterRuleWrongFalsely : Prop := fnExactSlaterRuleRow.holds Try.pinned (OpenSpec.ofChange fnExactSlaterRuleWrong)

/-- 'laws.FnExactTurnRule': WHATEVER THE INPUT: true; the input reads as it did. -/
def fnExactTurnRuleSpec : ChangeSpec := { name := "fnExactTurnRule", fn := fun _ => fun
  | [d1, d2, d3] => { results := [.lit (.bool true)], args := [d1, d2, d3] }
  | _ => none }
def fnExactTurnRuleRow : OpenClaim := { program := "ytgoglpojffjllab", sum := "320e9a71a1b15364468e8d6e7fed1aabb55d5e34c79c4b7fff23a7543baa4e93", func := "loop.example/jointjudgments/laws.FnExactTurnRule", spec := "fnExactTurnRule", unfollowed := true, recurses := true, plainKeys := false, apart := false }
def FnExactTurnRuleSaid : Prop := fnExactTurnRuleRow.holds Try.pinned (OpenSpec.ofChange fnExactTurnRuleSpec)

/-- ITS FALSE NEIGHBOUR: 'it returns false'. Refute it at one input. -/
def fnExactTurnRuleWrong : ChangeSpec := { name := "fnExactTurnRule", fn := fun _ => fun
  | [d1, d2, d3] => { results := [.lit (.bool false)], args := [d1, d2, d3] }
  | _ => none }
def FnExactTurnRuleWrongFalsely : Prop := fnExactTurnRuleRow.holds Try.pinned (OpenSpec.ofChange fnExactTurnRuleWrong)

/-- 'laws.FnExactRankedRule': WHATEVER THE INPUT: true; the input reads as it did. -/
def fnExactRankedRuleSpec : ChangeSpec := { name := "fnExactRankedRule", fn := fun _ => fun
  | [d1, d2] => { results := [.lit (.bool true)], args := [d1, d2] }
  | _ => none }
def fnExactRankedRuleRow : OpenClaim := { program := "ytgoglpojffjllab", sum := "320e9a71a1b15364468e8d6e7fed1aabb55d5e34c79c4b7fff23a7543baa4e93", func := "loop.example/jointjudgments/laws.FnExactRankedRule", spec := "fnExactRankedRule", unfollowed := true, recurses := true, plainKeys := false, apart := false }
def FnExactRankedRuleSaid : Prop := fnExactRankedRuleRow.holds Try.pinned (OpenSpec.ofChange fnExactRankedRuleSpec)

/-- ITS FALSE NEIGHBOUR: 'it returns false'. Refute it at one input. -/
def fnExactRankedRuleWrong : ChangeSpec := { name := "fnExactRankedRule", fn := fun _ => fun
  | [d1, d2] => { results := [.lit (.bool false)], args := [d1, d2] }
  | _ => none }
def FnExactRankedRuleWrongFalsely : Prop := fnExactRankedRuleRow.holds Try.pinned (OpenSpec.ofChange fnExactRankedRuleWrong)

/-- 'laws.FnExactPremiseRule': WHATEVER THE INPUT: true; the input reads as it did. -/
def fnExactPremiseRuleSpec : ChangeSpec := { name := "fnExactPremiseRule", fn := fun _ => fun
  | [d1, d2, d3] => { results := [.lit (.bool true)], args := [d1, d2, d3] }
  | _ => none }
def fnExactPremiseRuleRow : OpenClaim := { program := "ytgoglpojffjllab", sum := "320e9a71a1b15364468e8d6e7fed1aabb55d5e34c79c4b7fff23a7543baa4e93", func := "loop.example/jointjudgments/laws.FnExactPremiseRule", spec := "fnExactPremiseRule", unfollowed := true, recurses := true, plainKeys := false, apart := false }
def FnExactPremiseRuleSaid : Prop := fnExactPremiseRuleRow.holds Try.pinned (OpenSpec.ofChange fnExactPremiseRuleSpec)

/-- ITS FALSE NEIGHBOUR: 'it returns false'. Refute it at one input. -/
def fnExactPremiseRuleWrong : ChangeSpec := { name := "fnExactPremiseRule", fn := fun _ => fun
  | [d1, d2, d3] => { results := [.lit (.bool false)], args := [d1, d2, d3] }
  | _ => none }
def FnExactPremiseRuleWrongFalsely : Prop := fnExactPremiseRuleRow.holds Try.pinned (OpenSpec.ofChange fnExactPremiseRuleWrong)

/-- 'laws.FnExactLineOf': WHATEVER THE INPUT: true; the input reads as it did. -/
def fnExactLineOfSpec : ChangeSpec := { name := "fnExactLineOf", fn := fun _ => fun
  | [d1, d2] => { results := [.lit (.bool true)], args := [d1, d2] }
  | _ => none }
def fnExactLineOfRow : OpenClaim := { program := "ytgoglpojffjllab", sum := "320e9a71a1b15364468e8d6e7fed1aabb55d5e34c79c4b7fff23a7543baa4e93", func := "loop.example/jointjudgments/laws.FnExactLineOf", spec := "fnExactLineOf", unfollowed := true, recurses := true, plainKeys := false, apart := false }
def FnExactLineOfSaid : Prop := fnExactLineOfRow.holds Try.pinned (OpenSpec.ofChange fnExactLineOfSpec)

/-- ITS FALSE NEIGHBOUR: 'it returns false'. Refute it at one input. -/
def fnExactLineOfWrong : ChangeSpec := { name := "fnExactLineOf", fn := fun _ => fun
  | [d1, d2] => { results := [.lit (.bool false)], args := [d1, d2] }
  | _ => none }
def FnExactLineOfWrongFalsely : Prop := fnExactLineOfRow.holds Try.pinned (OpenSpec.ofChange fnExactLineOfWrong)

/- THE SECOND FORM. 'bulk': how many values and letters a reading holds, each counted each time it is reached (what is shared counts as often as it is met; a slice's spare places count too). A statement '..UptoSaid' is the law's where the arguments, and the package variables that the reading takes, are together of bulk at most 1048576: NARROWER than '..Said'. Prove '..Said' where nothing that the law and all that it calls make is longer than what came in: it says more and counts as full. Else prove '..UptoSaid'. A law counts once. -/
mutual
def uptoBulk {H : Type} : DataW H → Nat
  | .lit (.string bytes) => bytes.length + 1
  | .lit _ => 1
  | .nil => 1
  | .ptr d => uptoBulk d + 1
  | .slice elems spare => uptoBulkAll elems + uptoBulkAll spare + 1
  | .agg parts => uptoBulkAll parts + 1
  | .iface _ d => uptoBulk d + 1
  | .map entries => uptoBulkEntries entries + 1
  | .held _ => 1
def uptoBulkAll {H : Type} : List (DataW H) → Nat
  | [] => 0
  | d :: r => uptoBulk d + uptoBulkAll r
def uptoBulkEntries {H : Type} : List (Lit × DataW H) → Nat
  | [] => 0
  | x :: r => uptoBulkEntry x + uptoBulkEntries r
def uptoBulkEntry {H : Type} : Lit × DataW H → Nat
  | (.string bytes, d) => bytes.length + uptoBulk d + 1
  | (_, d) => uptoBulk d + 1
 end
def uptoSmall : (H : Type) → List (DataW H) → Bool := fun _ ds => decide (uptoBulkAll ds ≤ 1048576)
def OpenSpec.upto (s : _root_.Go.ChangeSpec) : _root_.Go.OpenSpec := { _root_.Go.OpenSpec.ofChange s with cond := some uptoSmall }

/-- 'laws.FnExactQuotaOf', WHERE WHAT IT READS IS OF BULK AT MOST 1048576: true; the input reads as it did. -/
def fnExactQuotaOfUptoRow : OpenClaim := { program := "ytgoglpojffjllab", sum := "320e9a71a1b15364468e8d6e7fed1aabb55d5e34c79c4b7fff23a7543baa4e93", func := "loop.example/jointjudgments/laws.FnExactQuotaOf", spec := "fnExactQuotaOf", unfollowed := true, recurses := true, plainKeys := false, apart := false, narrowed := true }
def FnExactQuotaOfUptoSaid : Prop := fnExactQuotaOfUptoRow.holds Try.pinned (OpenSpec.upto fnExactQuotaOfSpec)

/-- 'laws.FnExactIsQuotaSafe', WHERE WHAT IT READS IS OF BULK AT MOST 1048576: true; the input reads as it did. -/
def fnExactIsQuotaSafeUptoRow : OpenClaim := { program := "ytgoglpojffjllab", sum := "320e9a71a1b15364468e8d6e7fed1aabb55d5e34c79c4b7fff23a7543baa4e93", func := "loop.example/jointjudgments/laws.FnExactIsQuotaSafe", spec := "fnExactIsQuotaSafe", unfollowed := true, recurses := true, plainKeys := false, apart := false, narrowed := true }
def FnExactIsQuotaSafeUptoSaid : Prop := fnExactIsQuotaSafeUptoRow.holds Try.pinned (OpenSpec.upto fnExactIsQuotaSafeSpec)

/-- 'laws.FnExactMedianRule', WHERE WHAT IT READS IS OF BULK AT MOST 1048576: true; the input reads as it did. -/
def fnExactMedianRuleUptoRow : OpenClaim := { program := "ytgoglpojffjllab", sum := "320e9a71a1b15364468e8d6e7fed1aabb55d5e34c79c4b7fff23a7543baa4e93", func := "loop.example/jointjudgments/laws.FnExactMedianRule", spec := "fnExactMedianRule", unfollowed := true, recurses := true, plainKeys := false, apart := false, narrowed := true }
def FnExactMedianRuleUptoSaid : Prop := fnExactMedianRuleUptoRow.holds Try.pinned (OpenSpec.upto fnExactMedianRuleSpec)

/-- 'laws.FnExactMiddleRule', WHERE WHAT IT READS IS OF BULK AT MOST 1048576: true; the input reads as it did. -/
def fnExactMiddleRuleUptoRow : OpenClaim := { program := "ytgoglpojffjllab", sum := "320e9a71a1b15364468e8d6e7fed1aabb55d5e34c79c4b7fff23a7543baa4e93", func := "loop.example/jointjudgments/laws.FnExactMiddleRule", spec := "fnExactMiddleRule", unfollowed := true, recurses := true, plainKeys := false, apart := false, narrowed := true }
def FnExactMiddleRuleUptoSaid : Prop := fnExactMiddleRuleUptoRow.holds Try.pinned (OpenSpec.upto fnExactMiddleRuleSpec)

/-- 'laws.FnExactWantedPart', WHERE WHAT IT READS IS OF BULK AT MOST 1048576: true; the input reads as it did. -/
def fnExactWantedPartUptoRow : OpenClaim := { program := "ytgoglpojffjllab", sum := "320e9a71a1b15364468e8d6e7fed1aabb55d5e34c79c4b7fff23a7543baa4e93", func := "loop.example/jointjudgments/laws.FnExactWantedPart", spec := "fnExactWantedPart", unfollowed := true, recurses := true, plainKeys := false, apart := false, narrowed := true }
def FnExactWantedPartUptoSaid : Prop := fnExactWantedPartUptoRow.holds Try.pinned (OpenSpec.upto fnExactWantedPartSpec)

/-- 'laws.FnExactIsSettled', WHERE WHAT IT READS IS OF BULK AT MOST 1048576: true; the input reads as it did. -/
def fnExactIsSettledUptoRow : OpenClaim := { program := "ytgoglpojffjllab", sum := "320e9a71a1b15364468e8d6e7fed1aabb55d5e34c79c4b7fff23a7543baa4e93", func := "loop.example/jointjudgments/laws.FnExactIsSettled", spec := "fnExactIsSettled", unfollowed := true, recurses := true, plainKeys := false, apart := false, narrowed := true }
def FnExactIsSettledUptoSaid : Prop := fnExactIsSettledUptoRow.holds Try.pinned (OpenSpec.upto fnExactIsSettledSpec)

/-- 'laws.FnExactKeptRule', WHERE WHAT IT READS IS OF BULK AT MOST 1048576: true; the input reads as it did. -/
def fnExactKeptRuleUptoRow : OpenClaim := { program := "ytgoglpojffjllab", sum := "320e9a71a1b15364468e8d6e7fed1aabb55d5e34c79c4b7fff23a7543baa4e93", func := "loop.example/jointjudgments/laws.FnExactKeptRule", spec := "fnExactKeptRule", unfollowed := true, recurses := true, plainKeys := false, apart := false, narrowed := true }
def FnExactKeptRuleUptoSaid : Prop := fnExactKeptRuleUptoRow.holds Try.pinned (OpenSpec.upto fnExactKeptRuleSpec)

/-- 'laws.FnExactSlaterRule', WHERE WHAT IT READS IS OF BULK AT MOST 1048576: true; the input reads as it did. -/
def fnExactSlaterRuleUptoRow : OpenClaim := { program := "ytgoglpojffjllab", sum := "320e9a71a1b15364468e8d6e7fed1aabb55d5e34c79c4b7fff23a7543baa4e93", func := "loop.example/jointjudgments/laws.FnExactSlaterRule", spec := "fnExactSlaterRule", unfollowed := true, recurses := true, plainKeys := false, apart := false, narrowed := true }
def FnExactSlaterRuleUptoSaid : Prop := fnExactSlaterRuleUptoRow.holds Try.pinned (OpenSpec.upto fnExactSlaterRuleSpec)

/-- 'laws.FnExactTurnRule', WHERE WHAT IT READS IS OF BULK AT MOST 1048576: true; the input reads as it did. -/
def fnExactTurnRuleUptoRow : OpenClaim := { program := "ytgoglpojffjllab", sum := "320e9a71a1b15364468e8d6e7fed1aabb55d5e34c79c4b7fff23a7543baa4e93", func := "loop.example/jointjudgments/laws.FnExactTurnRule", spec := "fnExactTurnRule", unfollowed := true, recurses := true, plainKeys := false, apart := false, narrowed := true }
def FnExactTurnRuleUptoSaid : Prop := fnExactTurnRuleUptoRow.holds Try.pinned (OpenSpec.upto fnExactTurnRuleSpec)

/-- 'laws.FnExactRankedRule', WHERE WHAT IT READS IS OF BULK AT MOST 1048576: true; the input reads as it did. -/
def fnExactRankedRuleUptoRow : OpenClaim := { program := "ytgoglpojffjllab", sum := "320e9a71a1b15364468e8d6e7fed1aabb55d5e34c79c4b7fff23a7543baa4e93", func := "loop.example/jointjudgments/laws.FnExactRankedRule", spec := "fnExactRankedRule", unfollowed := true, recurses := true, plainKeys := false, apart := false, narrowed := true }
def FnExactRankedRuleUptoSaid : Prop := fnExactRankedRuleUptoRow.holds Try.pinned (OpenSpec.upto fnExactRankedRuleSpec)

/-- 'laws.FnExactPremiseRule', WHERE WHAT IT READS IS OF BULK AT MOST 1048576: true; the input reads as it did. -/
def fnExactPremiseRuleUptoRow : OpenClaim := { program := "ytgoglpojffjllab", sum := "320e9a71a1b15364468e8d6e7fed1aabb55d5e34c79c4b7fff23a7543baa4e93", func := "loop.example/jointjudgments/laws.FnExactPremiseRule", spec := "fnExactPremiseRule", unfollowed := true, recurses := true, plainKeys := false, apart := false, narrowed := true }
def FnExactPremiseRuleUptoSaid : Prop := fnExactPremiseRuleUptoRow.holds Try.pinned (OpenSpec.upto fnExactPremiseRuleSpec)

/-- 'laws.FnExactLineOf', WHERE WHAT IT READS IS OF BULK AT MOST 1048576: true; the input reads as it did. -/
def fnExactLineOfUptoRow : OpenClaim := { program := "ytgoglpojffjllab", sum := "320e9a71a1b15364468e8d6e7fed1aabb55d5e34c79c4b7fff23a7543baa4e93", func := "loop.example/jointjudgments/laws.FnExactLineOf", spec := "fnExactLineOf", unfollowed := true, recurses := true, plainKeys := false, apart := false, narrowed := true }
def FnExactLineOfUptoSaid : Prop := fnExactLineOfUptoRow.holds Try.pinned (OpenSpec.upto fnExactLineOfSpec)

end Rows
end Go.Proofs.Ytgoglpojffjllab
