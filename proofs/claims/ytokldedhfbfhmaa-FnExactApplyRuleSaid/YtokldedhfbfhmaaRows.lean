/-
  No cell of these rows narrows 'for every input' (looked for: loops, veiled, ifaces, maps, wideKeys, modest, calm, conditions, laid).
  DERIVED. THE GIVEN ROWS OF THIS SEAT. 12 by the template 'for every input the law returns true; each argument reads behind the call as it read before'; 0 by the template 'total and deterministic' (their statements: YtokldedhfbfhmaaTotals.lean).
  GIVEN WITH THE SEED: the statements are not yours to turn. If you find one false, say at which input.
  Laid BY PROGRAM, IN A SANDBOX (cutbox-rows.mjs): the forced cells as the released guide's own fill.sh prints them over the translation 189c2173d1e754c2… (all of the seat's roots in one cut). By AI agents, Wed Nov 11 2026. No macro, syntax, notation, axiom, sorry.
-/
import Derived.Test.YtokldedhfbfhmaaChecked
import GoSem.Claim
import GoSem.ClaimJoined
import GoSem.ClaimMapViews
import Derived.JoinedTies
import Derived.KernelRfl
namespace Go.Proofs.Ytokldedhfbfhmaa
/- THE CELL 'sum', in the pinned program and in every row, IS THE sha256 OF THE DUMP (.gsa) THAT YtokldedhfbfhmaaProg.lean LOADS. Nothing in Lean hashes anything: it is a label: what it is worth is what the hold of that sum in a sandbox is worth. -/
noncomputable def Try.pinned : Pinned := { name := "ytokldedhfbfhmaa", sum := "189c2173d1e754c2fccecc290674d296dd62cb79e23e2333b7dda5774f1e9245", checked := Try.checked }
namespace Rows
def none {H : Type} : Left H := { results := [], args := [] }

/-- 'laws.FnHullOf': WHATEVER THE INPUT: true; the input reads as it did. -/
def fnHullOfSpec : ChangeSpec := { name := "fnHullOf", fn := fun _ => fun
  | [d] => { results := [.lit (.bool true)], args := [d] }
  | _ => none }
def fnHullOfRow : OpenClaim := { program := "ytokldedhfbfhmaa", sum := "189c2173d1e754c2fccecc290674d296dd62cb79e23e2333b7dda5774f1e9245", func := "loop.example/jointjudgments/laws.FnHullOf", spec := "fnHullOf", unfollowed := true, recurses := true, plainKeys := false, apart := false }
def FnHullOfSaid : Prop := fnHullOfRow.holds Try.pinned (OpenSpec.ofChange fnHullOfSpec)

/-- ITS FALSE NEIGHBOUR: 'it returns false'. Refute it at one input. -/
def fnHullOfWrong : ChangeSpec := { name := "fnHullOf", fn := fun _ => fun
  | [d] => { results := [.lit (.bool false)], args := [d] }
  | _ => none }
def FnHullOfWrongFalsely : Prop := fnHullOfRow.holds Try.pinned (OpenSpec.ofChange fnHullOfWrong)

/-- 'laws.FnExactSpaceWithout': WHATEVER THE INPUT: true; the input reads as it did. -/
def fnExactSpaceWithoutSpec : ChangeSpec := { name := "fnExactSpaceWithout", fn := fun _ => fun
  | [d1, d2] => { results := [.lit (.bool true)], args := [d1, d2] }
  | _ => none }
def fnExactSpaceWithoutRow : OpenClaim := { program := "ytokldedhfbfhmaa", sum := "189c2173d1e754c2fccecc290674d296dd62cb79e23e2333b7dda5774f1e9245", func := "loop.example/jointjudgments/laws.FnExactSpaceWithout", spec := "fnExactSpaceWithout", unfollowed := true, recurses := true, plainKeys := false, apart := false }
def FnExactSpaceWithoutSaid : Prop := fnExactSpaceWithoutRow.holds Try.pinned (OpenSpec.ofChange fnExactSpaceWithoutSpec)

/-- ITS FALSE NEIGHBOUR: 'it returns false'. Refute it at one input. -/
def fnExactSpaceWithoutWrong : ChangeSpec := { name := "fnExactSpaceWithout", fn := fun _ => fun
  | [d1, d2] => { results := [.lit (.bool false)], args := [d1, d2] }
  | _ => none }
def FnExactSpaceWithoutWrongFalsely : Prop := fnExactSpaceWithoutRow.holds Try.pinned (OpenSpec.ofChange fnExactSpaceWithoutWrong)

/-- 'laws.FnExactValidRule': WHATEVER THE INPUT: true; the input reads as it did. -/
def fnExactValidRuleSpec : ChangeSpec := { name := "fnExactValidRule", fn := fun _ => fun
  | [d1, d2] => { results := [.lit (.bool true)], args := [d1, d2] }
  | _ => none }
def fnExactValidRuleRow : OpenClaim := { program := "ytokldedhfbfhmaa", sum := "189c2173d1e754c2fccecc290674d296dd62cb79e23e2333b7dda5774f1e9245", func := "loop.example/jointjudgments/laws.FnExactValidRule", spec := "fnExactValidRule", unfollowed := true, recurses := true, plainKeys := false, apart := false }
def FnExactValidRuleSaid : Prop := fnExactValidRuleRow.holds Try.pinned (OpenSpec.ofChange fnExactValidRuleSpec)

/-- ITS FALSE NEIGHBOUR: 'it returns false'. Refute it at one input. -/
def fnExactValidRuleWrong : ChangeSpec := { name := "fnExactValidRule", fn := fun _ => fun
  | [d1, d2] => { results := [.lit (.bool false)], args := [d1, d2] }
  | _ => none }
def FnExactValidRuleWrongFalsely : Prop := fnExactValidRuleRow.holds Try.pinned (OpenSpec.ofChange fnExactValidRuleWrong)

/-- 'laws.FnExactApplyRule': WHATEVER THE INPUT: true; the input reads as it did. -/
def fnExactApplyRuleSpec : ChangeSpec := { name := "fnExactApplyRule", fn := fun _ => fun
  | [d1, d2, d3] => { results := [.lit (.bool true)], args := [d1, d2, d3] }
  | _ => none }
def fnExactApplyRuleRow : OpenClaim := { program := "ytokldedhfbfhmaa", sum := "189c2173d1e754c2fccecc290674d296dd62cb79e23e2333b7dda5774f1e9245", func := "loop.example/jointjudgments/laws.FnExactApplyRule", spec := "fnExactApplyRule", unfollowed := true, recurses := true, plainKeys := false, apart := false }
def FnExactApplyRuleSaid : Prop := fnExactApplyRuleRow.holds Try.pinned (OpenSpec.ofChange fnExactApplyRuleSpec)

/-- ITS FALSE NEIGHBOUR: 'it returns false'. Refute it at one input. -/
def fnExactApplyRuleWrong : ChangeSpec := { name := "fnExactApplyRule", fn := fun _ => fun
  | [d1, d2, d3] => { results := [.lit (.bool false)], args := [d1, d2, d3] }
  | _ => none }
def FnExactApplyRuleWrongFalsely : Prop := fnExactApplyRuleRow.holds Try.pinned (OpenSpec.ofChange fnExactApplyRuleWrong)

/-- 'laws.FnExactIsMonotone': WHATEVER THE INPUT: true; the input reads as it did. -/
def fnExactIsMonotoneSpec : ChangeSpec := { name := "fnExactIsMonotone", fn := fun _ => fun
  | [d1, d2] => { results := [.lit (.bool true)], args := [d1, d2] }
  | _ => none }
def fnExactIsMonotoneRow : OpenClaim := { program := "ytokldedhfbfhmaa", sum := "189c2173d1e754c2fccecc290674d296dd62cb79e23e2333b7dda5774f1e9245", func := "loop.example/jointjudgments/laws.FnExactIsMonotone", spec := "fnExactIsMonotone", unfollowed := true, recurses := true, plainKeys := false, apart := false }
def FnExactIsMonotoneSaid : Prop := fnExactIsMonotoneRow.holds Try.pinned (OpenSpec.ofChange fnExactIsMonotoneSpec)

/-- ITS FALSE NEIGHBOUR: 'it returns false'. Refute it at one input. -/
def fnExactIsMonotoneWrong : ChangeSpec := { name := "fnExactIsMonotone", fn := fun _ => fun
  | [d1, d2] => { results := [.lit (.bool false)], args := [d1, d2] }
  | _ => none }
def FnExactIsMonotoneWrongFalsely : Prop := fnExactIsMonotoneRow.holds Try.pinned (OpenSpec.ofChange fnExactIsMonotoneWrong)

/-- 'laws.FnExactIsUnanimous': WHATEVER THE INPUT: true; the input reads as it did. -/
def fnExactIsUnanimousSpec : ChangeSpec := { name := "fnExactIsUnanimous", fn := fun _ => fun
  | [d1, d2] => { results := [.lit (.bool true)], args := [d1, d2] }
  | _ => none }
def fnExactIsUnanimousRow : OpenClaim := { program := "ytokldedhfbfhmaa", sum := "189c2173d1e754c2fccecc290674d296dd62cb79e23e2333b7dda5774f1e9245", func := "loop.example/jointjudgments/laws.FnExactIsUnanimous", spec := "fnExactIsUnanimous", unfollowed := true, recurses := true, plainKeys := false, apart := false }
def FnExactIsUnanimousSaid : Prop := fnExactIsUnanimousRow.holds Try.pinned (OpenSpec.ofChange fnExactIsUnanimousSpec)

/-- ITS FALSE NEIGHBOUR: 'it returns false'. Refute it at one input. -/
def fnExactIsUnanimousWrong : ChangeSpec := { name := "fnExactIsUnanimous", fn := fun _ => fun
  | [d1, d2] => { results := [.lit (.bool false)], args := [d1, d2] }
  | _ => none }
def FnExactIsUnanimousWrongFalsely : Prop := fnExactIsUnanimousRow.holds Try.pinned (OpenSpec.ofChange fnExactIsUnanimousWrong)

/-- 'laws.FnExactIsNeutral': WHATEVER THE INPUT: true; the input reads as it did. -/
def fnExactIsNeutralSpec : ChangeSpec := { name := "fnExactIsNeutral", fn := fun _ => fun
  | [d1, d2] => { results := [.lit (.bool true)], args := [d1, d2] }
  | _ => none }
def fnExactIsNeutralRow : OpenClaim := { program := "ytokldedhfbfhmaa", sum := "189c2173d1e754c2fccecc290674d296dd62cb79e23e2333b7dda5774f1e9245", func := "loop.example/jointjudgments/laws.FnExactIsNeutral", spec := "fnExactIsNeutral", unfollowed := true, recurses := true, plainKeys := false, apart := false }
def FnExactIsNeutralSaid : Prop := fnExactIsNeutralRow.holds Try.pinned (OpenSpec.ofChange fnExactIsNeutralSpec)

/-- ITS FALSE NEIGHBOUR: 'it returns false'. Refute it at one input. -/
def fnExactIsNeutralWrong : ChangeSpec := { name := "fnExactIsNeutral", fn := fun _ => fun
  | [d1, d2] => { results := [.lit (.bool false)], args := [d1, d2] }
  | _ => none }
def FnExactIsNeutralWrongFalsely : Prop := fnExactIsNeutralRow.holds Try.pinned (OpenSpec.ofChange fnExactIsNeutralWrong)

/-- 'laws.FnExactDictatorOf': WHATEVER THE INPUT: true; the input reads as it did. -/
def fnExactDictatorOfSpec : ChangeSpec := { name := "fnExactDictatorOf", fn := fun _ => fun
  | [d1, d2] => { results := [.lit (.bool true)], args := [d1, d2] }
  | _ => none }
def fnExactDictatorOfRow : OpenClaim := { program := "ytokldedhfbfhmaa", sum := "189c2173d1e754c2fccecc290674d296dd62cb79e23e2333b7dda5774f1e9245", func := "loop.example/jointjudgments/laws.FnExactDictatorOf", spec := "fnExactDictatorOf", unfollowed := true, recurses := true, plainKeys := false, apart := false }
def FnExactDictatorOfSaid : Prop := fnExactDictatorOfRow.holds Try.pinned (OpenSpec.ofChange fnExactDictatorOfSpec)

/-- ITS FALSE NEIGHBOUR: 'it returns false'. Refute it at one input. -/
def fnExactDictatorOfWrong : ChangeSpec := { name := "fnExactDictatorOf", fn := fun _ => fun
  | [d1, d2] => { results := [.lit (.bool false)], args := [d1, d2] }
  | _ => none }
def FnExactDictatorOfWrongFalsely : Prop := fnExactDictatorOfRow.holds Try.pinned (OpenSpec.ofChange fnExactDictatorOfWrong)

/-- 'laws.FnExactIsSafe': WHATEVER THE INPUT: true; the input reads as it did. -/
def fnExactIsSafeSpec : ChangeSpec := { name := "fnExactIsSafe", fn := fun _ => fun
  | [d1, d2] => { results := [.lit (.bool true)], args := [d1, d2] }
  | _ => none }
def fnExactIsSafeRow : OpenClaim := { program := "ytokldedhfbfhmaa", sum := "189c2173d1e754c2fccecc290674d296dd62cb79e23e2333b7dda5774f1e9245", func := "loop.example/jointjudgments/laws.FnExactIsSafe", spec := "fnExactIsSafe", unfollowed := true, recurses := true, plainKeys := false, apart := false }
def FnExactIsSafeSaid : Prop := fnExactIsSafeRow.holds Try.pinned (OpenSpec.ofChange fnExactIsSafeSpec)

/-- ITS FALSE NEIGHBOUR: 'it returns false'. Refute it at one input. -/
def fnExactIsSafeWrong : ChangeSpec := { name := "fnExactIsSafe", fn := fun _ => fun
  | [d1, d2] => { results := [.lit (.bool false)], args := [d1, d2] }
  | _ => none }
def FnExactIsSafeWrongFalsely : Prop := fnExactIsSafeRow.holds Try.pinned (OpenSpec.ofChange fnExactIsSafeWrong)

/-- 'laws.FnExactDoMeet': WHATEVER THE INPUT: true; the input reads as it did. -/
def fnExactDoMeetSpec : ChangeSpec := { name := "fnExactDoMeet", fn := fun _ => fun
  | [d1, d2] => { results := [.lit (.bool true)], args := [d1, d2] }
  | _ => none }
def fnExactDoMeetRow : OpenClaim := { program := "ytokldedhfbfhmaa", sum := "189c2173d1e754c2fccecc290674d296dd62cb79e23e2333b7dda5774f1e9245", func := "loop.example/jointjudgments/laws.FnExactDoMeet", spec := "fnExactDoMeet", unfollowed := true, recurses := true, plainKeys := false, apart := false }
def FnExactDoMeetSaid : Prop := fnExactDoMeetRow.holds Try.pinned (OpenSpec.ofChange fnExactDoMeetSpec)

/-- ITS FALSE NEIGHBOUR: 'it returns false'. Refute it at one input. -/
def fnExactDoMeetWrong : ChangeSpec := { name := "fnExactDoMeet", fn := fun _ => fun
  | [d1, d2] => { results := [.lit (.bool false)], args := [d1, d2] }
  | _ => none }
def FnExactDoMeetWrongFalsely : Prop := fnExactDoMeetRow.holds Try.pinned (OpenSpec.ofChange fnExactDoMeetWrong)

/-- 'laws.FnExactSafeRules': WHATEVER THE INPUT: true; the input reads as it did. -/
def fnExactSafeRulesSpec : ChangeSpec := { name := "fnExactSafeRules", fn := fun _ => fun
  | [d1, d2] => { results := [.lit (.bool true)], args := [d1, d2] }
  | _ => none }
def fnExactSafeRulesRow : OpenClaim := { program := "ytokldedhfbfhmaa", sum := "189c2173d1e754c2fccecc290674d296dd62cb79e23e2333b7dda5774f1e9245", func := "loop.example/jointjudgments/laws.FnExactSafeRules", spec := "fnExactSafeRules", unfollowed := true, recurses := true, plainKeys := false, apart := false }
def FnExactSafeRulesSaid : Prop := fnExactSafeRulesRow.holds Try.pinned (OpenSpec.ofChange fnExactSafeRulesSpec)

/-- ITS FALSE NEIGHBOUR: 'it returns false'. Refute it at one input. -/
def fnExactSafeRulesWrong : ChangeSpec := { name := "fnExactSafeRules", fn := fun _ => fun
  | [d1, d2] => { results := [.lit (.bool false)], args := [d1, d2] }
  | _ => none }
def FnExactSafeRulesWrongFalsely : Prop := fnExactSafeRulesRow.holds Try.pinned (OpenSpec.ofChange fnExactSafeRulesWrong)

/-- 'laws.FnExactRuleOfQuotas': WHATEVER THE INPUT: true; the input reads as it did. -/
def fnExactRuleOfQuotasSpec : ChangeSpec := { name := "fnExactRuleOfQuotas", fn := fun _ => fun
  | [d1, d2, d3] => { results := [.lit (.bool true)], args := [d1, d2, d3] }
  | _ => none }
def fnExactRuleOfQuotasRow : OpenClaim := { program := "ytokldedhfbfhmaa", sum := "189c2173d1e754c2fccecc290674d296dd62cb79e23e2333b7dda5774f1e9245", func := "loop.example/jointjudgments/laws.FnExactRuleOfQuotas", spec := "fnExactRuleOfQuotas", unfollowed := true, recurses := true, plainKeys := false, apart := false }
def FnExactRuleOfQuotasSaid : Prop := fnExactRuleOfQuotasRow.holds Try.pinned (OpenSpec.ofChange fnExactRuleOfQuotasSpec)

/-- ITS FALSE NEIGHBOUR: 'it returns false'. Refute it at one input. -/
def fnExactRuleOfQuotasWrong : ChangeSpec := { name := "fnExactRuleOfQuotas", fn := fun _ => fun
  | [d1, d2, d3] => { results := [.lit (.bool false)], args := [d1, d2, d3] }
  | _ => none }
def FnExactRuleOfQuotasWrongFalsely : Prop := fnExactRuleOfQuotasRow.holds Try.pinned (OpenSpec.ofChange fnExactRuleOfQuotasWrong)

/- THE SECOND FORM. 'bulk': how many values and letters a reading holds, each counted each time it is reached (what is shared counts as often as it is met; a slice's spare places count too). A statement '..UptoSaid' is the law's where the arguments, and the package variables that the reading takes, are together of bulk at most 1048576: NARROWER than '..Said'. Prove '..Said' where nothing that the law and all that it calls make is longer than what came in: it says more and counts as full. Else prove '..UptoSaid'. A law counts once. -/
mutual
def uptoBulk {H : Type} : DataW H → Nat
  | .lit (.string bytes) => bytes.length + 1
  | .lit _ => 1
  | .nil => 1
  | .ptr d => uptoBulk d + 1
  | .slice elems spare => uptoBulkAll elems + uptoBulkAll spare + 1
  | .agg parts => uptoBulkAll parts + 1
  | .iface _ d => uptoBulk d + 1
  | .map entries => uptoBulkEntries entries + 1
  | .held _ => 1
def uptoBulkAll {H : Type} : List (DataW H) → Nat
  | [] => 0
  | d :: r => uptoBulk d + uptoBulkAll r
def uptoBulkEntries {H : Type} : List (Lit × DataW H) → Nat
  | [] => 0
  | x :: r => uptoBulkEntry x + uptoBulkEntries r
def uptoBulkEntry {H : Type} : Lit × DataW H → Nat
  | (.string bytes, d) => bytes.length + uptoBulk d + 1
  | (_, d) => uptoBulk d + 1
 end
def uptoSmall : (H : Type) → List (DataW H) → Bool := fun _ ds => decide (uptoBulkAll ds ≤ 1048576)
def OpenSpec.upto (s : _root_.Go.ChangeSpec) : _root_.Go.OpenSpec := { _root_.Go.OpenSpec.ofChange s with cond := some uptoSmall }

/-- 'laws.FnHullOf', WHERE WHAT IT READS IS OF BULK AT MOST 1048576: true; the input reads as it did. -/
def fnHullOfUptoRow : OpenClaim := { program := "ytokldedhfbfhmaa", sum := "189c2173d1e754c2fccecc290674d296dd62cb79e23e2333b7dda5774f1e9245", func := "loop.example/jointjudgments/laws.FnHullOf", spec := "fnHullOf", unfollowed := true, recurses := true, plainKeys := false, apart := false, narrowed := true }
def FnHullOfUptoSaid : Prop := fnHullOfUptoRow.holds Try.pinned (OpenSpec.upto fnHullOfSpec)

/-- 'laws.FnExactSpaceWithout', WHERE WHAT IT READS IS OF BULK AT MOST 1048576: true; the input reads as it did. -/
def fnExactSpaceWithoutUptoRow : OpenClaim := { program := "ytokldedhfbfhmaa", sum := "189c2173d1e754c2fccecc290674d296dd62cb79e23e2333b7dda5774f1e9245", func := "loop.example/jointjudgments/laws.FnExactSpaceWithout", spec := "fnExactSpaceWithout", unfollowed := true, recurses := true, plainKeys := false, apart := false, narrowed := true }
def FnExactSpaceWithoutUptoSaid : Prop := fnExactSpaceWithoutUptoRow.holds Try.pinned (OpenSpec.upto fnExactSpaceWithoutSpec)

/-- 'laws.FnExactValidRule', WHERE WHAT IT READS IS OF BULK AT MOST 1048576: true; the input reads as it did. -/
def fnExactValidRuleUptoRow : OpenClaim := { program := "ytokldedhfbfhmaa", sum := "189c2173d1e754c2fccecc290674d296dd62cb79e23e2333b7dda5774f1e9245", func := "loop.example/jointjudgments/laws.FnExactValidRule", spec := "fnExactValidRule", unfollowed := true, recurses := true, plainKeys := false, apart := false, narrowed := true }
def FnExactValidRuleUptoSaid : Prop := fnExactValidRuleUptoRow.holds Try.pinned (OpenSpec.upto fnExactValidRuleSpec)

/-- 'laws.FnExactApplyRule', WHERE WHAT IT READS IS OF BULK AT MOST 1048576: true; the input reads as it did. -/
def fnExactApplyRuleUptoRow : OpenClaim := { program := "ytokldedhfbfhmaa", sum := "189c2173d1e754c2fccecc290674d296dd62cb79e23e2333b7dda5774f1e9245", func := "loop.example/jointjudgments/laws.FnExactApplyRule", spec := "fnExactApplyRule", unfollowed := true, recurses := true, plainKeys := false, apart := false, narrowed := true }
def FnExactApplyRuleUptoSaid : Prop := fnExactApplyRuleUptoRow.holds Try.pinned (OpenSpec.upto fnExactApplyRuleSpec)

/-- 'laws.FnExactIsMonotone', WHERE WHAT IT READS IS OF BULK AT MOST 1048576: true; the input reads as it did. -/
def fnExactIsMonotoneUptoRow : OpenClaim := { program := "ytokldedhfbfhmaa", sum := "189c2173d1e754c2fccecc290674d296dd62cb79e23e2333b7dda5774f1e9245", func := "loop.example/jointjudgments/laws.FnExactIsMonotone", spec := "fnExactIsMonotone", unfollowed := true, recurses := true, plainKeys := false, apart := false, narrowed := true }
def FnExactIsMonotoneUptoSaid : Prop := fnExactIsMonotoneUptoRow.holds Try.pinned (OpenSpec.upto fnExactIsMonotoneSpec)

/-- 'laws.FnExactIsUnanimous', WHERE WHAT IT READS IS OF BULK AT MOST 1048576: true; the input reads as it did. -/
def fnExactIsUnanimousUptoRow : OpenClaim := { program := "ytokldedhfbfhmaa", sum := "189c2173d1e754c2fccecc290674d296dd62cb79e23e2333b7dda5774f1e9245", func := "loop.example/jointjudgments/laws.FnExactIsUnanimous", spec := "fnExactIsUnanimous", unfollowed := true, recurses := true, plainKeys := false, apart := false, narrowed := true }
def FnExactIsUnanimousUptoSaid : Prop := fnExactIsUnanimousUptoRow.holds Try.pinned (OpenSpec.upto fnExactIsUnanimousSpec)

/-- 'laws.FnExactIsNeutral', WHERE WHAT IT READS IS OF BULK AT MOST 1048576: true; the input reads as it did. -/
def fnExactIsNeutralUptoRow : OpenClaim := { program := "ytokldedhfbfhmaa", sum := "189c2173d1e754c2fccecc290674d296dd62cb79e23e2333b7dda5774f1e9245", func := "loop.example/jointjudgments/laws.FnExactIsNeutral", spec := "fnExactIsNeutral", unfollowed := true, recurses := true, plainKeys := false, apart := false, narrowed := true }
def FnExactIsNeutralUptoSaid : Prop := fnExactIsNeutralUptoRow.holds Try.pinned (OpenSpec.upto fnExactIsNeutralSpec)

/-- 'laws.FnExactDictatorOf', WHERE WHAT IT READS IS OF BULK AT MOST 1048576: true; the input reads as it did. -/
def fnExactDictatorOfUptoRow : OpenClaim := { program := "ytokldedhfbfhmaa", sum := "189c2173d1e754c2fccecc290674d296dd62cb79e23e2333b7dda5774f1e9245", func := "loop.example/jointjudgments/laws.FnExactDictatorOf", spec := "fnExactDictatorOf", unfollowed := true, recurses := true, plainKeys := false, apart := false, narrowed := true }
def FnExactDictatorOfUptoSaid : Prop := fnExactDictatorOfUptoRow.holds Try.pinned (OpenSpec.upto fnExactDictatorOfSpec)

/-- 'laws.FnExactIsSafe', WHERE WHAT IT READS IS OF BULK AT MOST 1048576: true; the input reads as it did. -/
def fnExactIsSafeUptoRow : OpenClaim := { program := "ytokldedhfbfhmaa", sum := "189c2173d1e754c2fccecc290674d296dd62cb79e23e2333b7dda5774f1e9245", func := "loop.example/jointjudgments/laws.FnExactIsSafe", spec := "fnExactIsSafe", unfollowed := true, recurses := true, plainKeys := false, apart := false, narrowed := true }
def FnExactIsSafeUptoSaid : Prop := fnExactIsSafeUptoRow.holds Try.pinned (OpenSpec.upto fnExactIsSafeSpec)

/-- 'laws.FnExactDoMeet', WHERE WHAT IT READS IS OF BULK AT MOST 1048576: true; the input reads as it did. -/
def fnExactDoMeetUptoRow : OpenClaim := { program := "ytokldedhfbfhmaa", sum := "189c2173d1e754c2fccecc290674d296dd62cb79e23e2333b7dda5774f1e9245", func := "loop.example/jointjudgments/laws.FnExactDoMeet", spec := "fnExactDoMeet", unfollowed := true, recurses := true, plainKeys := false, apart := false, narrowed := true }
def FnExactDoMeetUptoSaid : Prop := fnExactDoMeetUptoRow.holds Try.pinned (OpenSpec.upto fnExactDoMeetSpec)

/-- 'laws.FnExactSafeRules', WHERE WHAT IT READS IS OF BULK AT MOST 1048576: true; the input reads as it did. -/
def fnExactSafeRulesUptoRow : OpenClaim := { program := "ytokldedhfbfhmaa", sum := "189c2173d1e754c2fccecc290674d296dd62cb79e23e2333b7dda5774f1e9245", func := "loop.example/jointjudgments/laws.FnExactSafeRules", spec := "fnExactSafeRules", unfollowed := true, recurses := true, plainKeys := false, apart := false, narrowed := true }
def FnExactSafeRulesUptoSaid : Prop := fnExactSafeRulesUptoRow.holds Try.pinned (OpenSpec.upto fnExactSafeRulesSpec)

/-- 'laws.FnExactRuleOfQuotas', WHERE WHAT IT READS IS OF BULK AT MOST 1048576: true; the input reads as it did. -/
def fnExactRuleOfQuotasUptoRow : OpenClaim := { program := "ytokldedhfbfhmaa", sum := "189c2173d1e754c2fccecc290674d296dd62cb79e23e2333b7dda5774f1e9245", func := "loop.example/jointjudgments/laws.FnExactRuleOfQuotas", spec := "fnExactRuleOfQuotas", unfollowed := true, recurses := true, plainKeys := false, apart := false, narrowed := true }
def FnExactRuleOfQuotasUptoSaid : Prop := fnExactRuleOfQuotasUptoRow.holds Try.pinned (OpenSpec.upto fnExactRuleOfQuotasSpec)

end Rows
end Go.Proofs.Ytokldedhfbfhmaa
