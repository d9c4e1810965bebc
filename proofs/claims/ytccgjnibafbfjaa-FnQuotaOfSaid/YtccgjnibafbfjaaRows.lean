/-
  No cell of these rows narrows 'for every input' (looked for: loops, veiled, ifaces, maps, wideKeys, modest, calm, conditions, laid).
  DERIVED. THE GIVEN ROWS OF THIS SEAT. 12 by the template 'for every input the law returns true; each argument reads behind the call as it read before'; 0 by the template 'total and deterministic' (their statements: YtccgjnibafbfjaaTotals.lean).
  GIVEN WITH THE SEED: the statements are not yours to turn. If you find one false, say at which input.
  Laid BY PROGRAM, IN A SANDBOX (cutbox-rows.mjs): the forced cells as the released guide's own fill.sh prints them over the translation f64bf12c87a7291f… (all of the seat's roots in one cut). By AI agents, Wed Nov 11 2026. No macro, syntax, notation, axiom, sorry.
-/
import Derived.Test.YtccgjnibafbfjaaChecked
import GoSem.Claim
import GoSem.ClaimJoined
import GoSem.ClaimMapViews
import Derived.JoinedTies
import Derived.KernelRfl
namespace Go.Proofs.Ytccgjnibafbfjaa
/- THE CELL 'sum', in the pinned program and in every row, IS THE sha256 OF THE DUMP (.gsa) THAT YtccgjnibafbfjaaProg.lean LOADS. Nothing in Lean hashes anything: it is a label: what it is worth is what the hold of that sum in a sandbox is worth. -/
noncomputable def Try.pinned : Pinned := { name := "ytccgjnibafbfjaa", sum := "f64bf12c87a7291f76e00752009f28b6429fbcb7cb9c9fc8a63cf867c9179409", checked := Try.checked }
namespace Rows
def none {H : Type} : Left H := { results := [], args := [] }

/-- 'laws.FnQuotaOf': WHATEVER THE INPUT: true; the input reads as it did. -/
def fnQuotaOfSpec : ChangeSpec := { name := "fnQuotaOf", fn := fun _ => fun
  | [d] => { results := [.lit (.bool true)], args := [d] }
  | _ => none }
def fnQuotaOfRow : OpenClaim := { program := "ytccgjnibafbfjaa", sum := "f64bf12c87a7291f76e00752009f28b6429fbcb7cb9c9fc8a63cf867c9179409", func := "loop.example/jointjudgments/laws.FnQuotaOf", spec := "fnQuotaOf", unfollowed := true, recurses := true, plainKeys := false, apart := false }
def FnQuotaOfSaid : Prop := fnQuotaOfRow.holds Try.pinned (OpenSpec.ofChange fnQuotaOfSpec)

/-- ITS FALSE NEIGHBOUR: 'it returns false'. Refute it at one input. -/
def fnQuotaOfWrong : ChangeSpec := { name := "fnQuotaOf", fn := fun _ => fun
  | [d] => { results := [.lit (.bool false)], args := [d] }
  | _ => none }
def FnQuotaOfWrongFalsely : Prop := fnQuotaOfRow.holds Try.pinned (OpenSpec.ofChange fnQuotaOfWrong)

/-- 'laws.FnIsQuotaSafe': WHATEVER THE INPUT: true; the input reads as it did. -/
def fnIsQuotaSafeSpec : ChangeSpec := { name := "fnIsQuotaSafe", fn := fun _ => fun
  | [d] => { results := [.lit (.bool true)], args := [d] }
  | _ => none }
def fnIsQuotaSafeRow : OpenClaim := { program := "ytccgjnibafbfjaa", sum := "f64bf12c87a7291f76e00752009f28b6429fbcb7cb9c9fc8a63cf867c9179409", func := "loop.example/jointjudgments/laws.FnIsQuotaSafe", spec := "fnIsQuotaSafe", unfollowed := true, recurses := true, plainKeys := false, apart := false }
def FnIsQuotaSafeSaid : Prop := fnIsQuotaSafeRow.holds Try.pinned (OpenSpec.ofChange fnIsQuotaSafeSpec)

/-- ITS FALSE NEIGHBOUR: 'it returns false'. Refute it at one input. -/
def fnIsQuotaSafeWrong : ChangeSpec := { name := "fnIsQuotaSafe", fn := fun _ => fun
  | [d] => { results := [.lit (.bool false)], args := [d] }
  | _ => none }
def FnIsQuotaSafeWrongFalsely : Prop := fnIsQuotaSafeRow.holds Try.pinned (OpenSpec.ofChange fnIsQuotaSafeWrong)

/-- 'laws.FnValidRule': WHATEVER THE INPUT: true; the input reads as it did. -/
def fnValidRuleSpec : ChangeSpec := { name := "fnValidRule", fn := fun _ => fun
  | [d] => { results := [.lit (.bool true)], args := [d] }
  | _ => none }
def fnValidRuleRow : OpenClaim := { program := "ytccgjnibafbfjaa", sum := "f64bf12c87a7291f76e00752009f28b6429fbcb7cb9c9fc8a63cf867c9179409", func := "loop.example/jointjudgments/laws.FnValidRule", spec := "fnValidRule", unfollowed := true, recurses := true, plainKeys := false, apart := false }
def FnValidRuleSaid : Prop := fnValidRuleRow.holds Try.pinned (OpenSpec.ofChange fnValidRuleSpec)

/-- ITS FALSE NEIGHBOUR: 'it returns false'. Refute it at one input. -/
def fnValidRuleWrong : ChangeSpec := { name := "fnValidRule", fn := fun _ => fun
  | [d] => { results := [.lit (.bool false)], args := [d] }
  | _ => none }
def FnValidRuleWrongFalsely : Prop := fnValidRuleRow.holds Try.pinned (OpenSpec.ofChange fnValidRuleWrong)

/-- 'laws.FnApplyRule': WHATEVER THE INPUT: true; the input reads as it did. -/
def fnApplyRuleSpec : ChangeSpec := { name := "fnApplyRule", fn := fun _ => fun
  | [d] => { results := [.lit (.bool true)], args := [d] }
  | _ => none }
def fnApplyRuleRow : OpenClaim := { program := "ytccgjnibafbfjaa", sum := "f64bf12c87a7291f76e00752009f28b6429fbcb7cb9c9fc8a63cf867c9179409", func := "loop.example/jointjudgments/laws.FnApplyRule", spec := "fnApplyRule", unfollowed := true, recurses := true, plainKeys := false, apart := false }
def FnApplyRuleSaid : Prop := fnApplyRuleRow.holds Try.pinned (OpenSpec.ofChange fnApplyRuleSpec)

/-- ITS FALSE NEIGHBOUR: 'it returns false'. Refute it at one input. -/
def fnApplyRuleWrong : ChangeSpec := { name := "fnApplyRule", fn := fun _ => fun
  | [d] => { results := [.lit (.bool false)], args := [d] }
  | _ => none }
def FnApplyRuleWrongFalsely : Prop := fnApplyRuleRow.holds Try.pinned (OpenSpec.ofChange fnApplyRuleWrong)

/-- 'laws.FnIsMonotone': WHATEVER THE INPUT: true; the input reads as it did. -/
def fnIsMonotoneSpec : ChangeSpec := { name := "fnIsMonotone", fn := fun _ => fun
  | [d] => { results := [.lit (.bool true)], args := [d] }
  | _ => none }
def fnIsMonotoneRow : OpenClaim := { program := "ytccgjnibafbfjaa", sum := "f64bf12c87a7291f76e00752009f28b6429fbcb7cb9c9fc8a63cf867c9179409", func := "loop.example/jointjudgments/laws.FnIsMonotone", spec := "fnIsMonotone", unfollowed := true, recurses := true, plainKeys := false, apart := false }
def FnIsMonotoneSaid : Prop := fnIsMonotoneRow.holds Try.pinned (OpenSpec.ofChange fnIsMonotoneSpec)

/-- ITS FALSE NEIGHBOUR: 'it returns false'. Refute it at one input. -/
def fnIsMonotoneWrong : ChangeSpec := { name := "fnIsMonotone", fn := fun _ => fun
  | [d] => { results := [.lit (.bool false)], args := [d] }
  | _ => none }
def FnIsMonotoneWrongFalsely : Prop := fnIsMonotoneRow.holds Try.pinned (OpenSpec.ofChange fnIsMonotoneWrong)

/-- 'laws.FnIsUnanimous': WHATEVER THE INPUT: true; the input reads as it did. -/
def fnIsUnanimousSpec : ChangeSpec := { name := "fnIsUnanimous", fn := fun _ => fun
  | [d] => { results := [.lit (.bool true)], args := [d] }
  | _ => none }
def fnIsUnanimousRow : OpenClaim := { program := "ytccgjnibafbfjaa", sum := "f64bf12c87a7291f76e00752009f28b6429fbcb7cb9c9fc8a63cf867c9179409", func := "loop.example/jointjudgments/laws.FnIsUnanimous", spec := "fnIsUnanimous", unfollowed := true, recurses := true, plainKeys := false, apart := false }
def FnIsUnanimousSaid : Prop := fnIsUnanimousRow.holds Try.pinned (OpenSpec.ofChange fnIsUnanimousSpec)

/-- ITS FALSE NEIGHBOUR: 'it returns false'. Refute it at one input. -/
def fnIsUnanimousWrong : ChangeSpec := { name := "fnIsUnanimous", fn := fun _ => fun
  | [d] => { results := [.lit (.bool false)], args := [d] }
  | _ => none }
def FnIsUnanimousWrongFalsely : Prop := fnIsUnanimousRow.holds Try.pinned (OpenSpec.ofChange fnIsUnanimousWrong)

/-- 'laws.FnIsNeutral': WHATEVER THE INPUT: true; the input reads as it did. -/
def fnIsNeutralSpec : ChangeSpec := { name := "fnIsNeutral", fn := fun _ => fun
  | [d] => { results := [.lit (.bool true)], args := [d] }
  | _ => none }
def fnIsNeutralRow : OpenClaim := { program := "ytccgjnibafbfjaa", sum := "f64bf12c87a7291f76e00752009f28b6429fbcb7cb9c9fc8a63cf867c9179409", func := "loop.example/jointjudgments/laws.FnIsNeutral", spec := "fnIsNeutral", unfollowed := true, recurses := true, plainKeys := false, apart := false }
def FnIsNeutralSaid : Prop := fnIsNeutralRow.holds Try.pinned (OpenSpec.ofChange fnIsNeutralSpec)

/-- ITS FALSE NEIGHBOUR: 'it returns false'. Refute it at one input. -/
def fnIsNeutralWrong : ChangeSpec := { name := "fnIsNeutral", fn := fun _ => fun
  | [d] => { results := [.lit (.bool false)], args := [d] }
  | _ => none }
def FnIsNeutralWrongFalsely : Prop := fnIsNeutralRow.holds Try.pinned (OpenSpec.ofChange fnIsNeutralWrong)

/-- 'laws.FnDictatorOf': WHATEVER THE INPUT: true; the input reads as it did. -/
def fnDictatorOfSpec : ChangeSpec := { name := "fnDictatorOf", fn := fun _ => fun
  | [d] => { results := [.lit (.bool true)], args := [d] }
  | _ => none }
def fnDictatorOfRow : OpenClaim := { program := "ytccgjnibafbfjaa", sum := "f64bf12c87a7291f76e00752009f28b6429fbcb7cb9c9fc8a63cf867c9179409", func := "loop.example/jointjudgments/laws.FnDictatorOf", spec := "fnDictatorOf", unfollowed := true, recurses := true, plainKeys := false, apart := false }
def FnDictatorOfSaid : Prop := fnDictatorOfRow.holds Try.pinned (OpenSpec.ofChange fnDictatorOfSpec)

/-- ITS FALSE NEIGHBOUR: 'it returns false'. Refute it at one input. -/
def fnDictatorOfWrong : ChangeSpec := { name := "fnDictatorOf", fn := fun _ => fun
  | [d] => { results := [.lit (.bool false)], args := [d] }
  | _ => none }
def FnDictatorOfWrongFalsely : Prop := fnDictatorOfRow.holds Try.pinned (OpenSpec.ofChange fnDictatorOfWrong)

/-- 'laws.FnIsSafe': WHATEVER THE INPUT: true; the input reads as it did. -/
def fnIsSafeSpec : ChangeSpec := { name := "fnIsSafe", fn := fun _ => fun
  | [d] => { results := [.lit (.bool true)], args := [d] }
  | _ => none }
def fnIsSafeRow : OpenClaim := { program := "ytccgjnibafbfjaa", sum := "f64bf12c87a7291f76e00752009f28b6429fbcb7cb9c9fc8a63cf867c9179409", func := "loop.example/jointjudgments/laws.FnIsSafe", spec := "fnIsSafe", unfollowed := true, recurses := true, plainKeys := false, apart := false }
def FnIsSafeSaid : Prop := fnIsSafeRow.holds Try.pinned (OpenSpec.ofChange fnIsSafeSpec)

/-- ITS FALSE NEIGHBOUR: 'it returns false'. Refute it at one input. -/
def fnIsSafeWrong : ChangeSpec := { name := "fnIsSafe", fn := fun _ => fun
  | [d] => { results := [.lit (.bool false)], args := [d] }
  | _ => none }
def FnIsSafeWrongFalsely : Prop := fnIsSafeRow.holds Try.pinned (OpenSpec.ofChange fnIsSafeWrong)

/-- 'laws.FnDoMeet': WHATEVER THE INPUT: true; the input reads as it did. -/
def fnDoMeetSpec : ChangeSpec := { name := "fnDoMeet", fn := fun _ => fun
  | [d] => { results := [.lit (.bool true)], args := [d] }
  | _ => none }
def fnDoMeetRow : OpenClaim := { program := "ytccgjnibafbfjaa", sum := "f64bf12c87a7291f76e00752009f28b6429fbcb7cb9c9fc8a63cf867c9179409", func := "loop.example/jointjudgments/laws.FnDoMeet", spec := "fnDoMeet", unfollowed := true, recurses := true, plainKeys := false, apart := false }
def FnDoMeetSaid : Prop := fnDoMeetRow.holds Try.pinned (OpenSpec.ofChange fnDoMeetSpec)

/-- ITS FALSE NEIGHBOUR: 'it returns false'. Refute it at one input. -/
def fnDoMeetWrong : ChangeSpec := { name := "fnDoMeet", fn := fun _ => fun
  | [d] => { results := [.lit (.bool false)], args := [d] }
  | _ => none }
def FnDoMeetWrongFalsely : Prop := fnDoMeetRow.holds Try.pinned (OpenSpec.ofChange fnDoMeetWrong)

/-- 'laws.FnSafeRules': WHATEVER THE INPUT: true; the input reads as it did. -/
def fnSafeRulesSpec : ChangeSpec := { name := "fnSafeRules", fn := fun _ => fun
  | [d] => { results := [.lit (.bool true)], args := [d] }
  | _ => none }
def fnSafeRulesRow : OpenClaim := { program := "ytccgjnibafbfjaa", sum := "f64bf12c87a7291f76e00752009f28b6429fbcb7cb9c9fc8a63cf867c9179409", func := "loop.example/jointjudgments/laws.FnSafeRules", spec := "fnSafeRules", unfollowed := true, recurses := true, plainKeys := false, apart := false }
def FnSafeRulesSaid : Prop := fnSafeRulesRow.holds Try.pinned (OpenSpec.ofChange fnSafeRulesSpec)

/-- ITS FALSE NEIGHBOUR: 'it returns false'. Refute it at one input. -/
def fnSafeRulesWrong : ChangeSpec := { name := "fnSafeRules", fn := fun _ => fun
  | [d] => { results := [.lit (.bool false)], args := [d] }
  | _ => none }
def FnSafeRulesWrongFalsely : Prop := fnSafeRulesRow.holds Try.pinned (OpenSpec.ofChange fnSafeRulesWrong)

/-- 'laws.FnRuleOfQuotas': WHATEVER THE INPUT: true; the input reads as it did. -/
def fnRuleOfQuotasSpec : ChangeSpec := { name := "fnRuleOfQuotas", fn := fun _ => fun
  | [d] => { results := [.lit (.bool true)], args := [d] }
  | _ => none }
def fnRuleOfQuotasRow : OpenClaim := { program := "ytccgjnibafbfjaa", sum := "f64bf12c87a7291f76e00752009f28b6429fbcb7cb9c9fc8a63cf867c9179409", func := "loop.example/jointjudgments/laws.FnRuleOfQuotas", spec := "fnRuleOfQuotas", unfollowed := true, recurses := true, plainKeys := false, apart := false }
def FnRuleOfQuotasSaid : Prop := fnRuleOfQuotasRow.holds Try.pinned (OpenSpec.ofChange fnRuleOfQuotasSpec)

/-- ITS FALSE NEIGHBOUR: 'it returns false'. Refute it at one input. -/
def fnRuleOfQuotasWrong : ChangeSpec := { name := "fnRuleOfQuotas", fn := fun _ => fun
  | [d] => { results := [.lit (.bool false)], args := [d] }
  | _ => none }
def FnRuleOfQuotasWrongFalsely : Prop := fnRuleOfQuotasRow.holds Try.pinned (OpenSpec.ofChange fnRuleOfQuotasWrong)

/- THE SECOND FORM. 'bulk': how many values and letters a reading holds, each counted each time it is reached (what is shared counts as often as it is met; a slice's spare places count too). A statement '..UptoSaid' is the law's where the arguments, and the package variables that the reading takes, are together of bulk at most 1048576: NARROWER than '..Said'. Prove '..Said' where nothing that the law and all that it calls make is longer than what came in: it says more and counts as full. Else prove '..UptoSaid'. A law counts once. -/
mutual
def uptoBulk {H : Type} : DataW H → Nat
  | .lit (.string bytes) => bytes.length + 1
  | .lit _ => 1
  | .nil => 1
  | .ptr d => uptoBulk d + 1
  | .slice elems spare => uptoBulkAll elems + uptoBulkAll spare + 1
  | .agg parts => uptoBulkAll parts + 1
  | .iface _ d => uptoBulk d + 1
  | .map entries => uptoBulkEntries entries + 1
  | .held _ => 1
def uptoBulkAll {H : Type} : List (DataW H) → Nat
  | [] => 0
  | d :: r => uptoBulk d + uptoBulkAll r
def uptoBulkEntries {H : Type} : List (Lit × DataW H) → Nat
  | [] => 0
  | x :: r => uptoBulkEntry x + uptoBulkEntries r
def uptoBulkEntry {H : Type} : Lit × DataW H → Nat
  | (.string bytes, d) => bytes.length + uptoBulk d + 1
  | (_, d) => uptoBulk d + 1
 end
def uptoSmall : (H : Type) → List (DataW H) → Bool := fun _ ds => decide (uptoBulkAll ds ≤ 1048576)
def OpenSpec.upto (s : _root_.Go.ChangeSpec) : _root_.Go.OpenSpec := { _root_.Go.OpenSpec.ofChange s with cond := some uptoSmall }

/-- 'laws.FnQuotaOf', WHERE WHAT IT READS IS OF BULK AT MOST 1048576: true; the input reads as it did. -/
def fnQuotaOfUptoRow : OpenClaim := { program := "ytccgjnibafbfjaa", sum := "f64bf12c87a7291f76e00752009f28b6429fbcb7cb9c9fc8a63cf867c9179409", func := "loop.example/jointjudgments/laws.FnQuotaOf", spec := "fnQuotaOf", unfollowed := true, recurses := true, plainKeys := false, apart := false, narrowed := true }
def FnQuotaOfUptoSaid : Prop := fnQuotaOfUptoRow.holds Try.pinned (OpenSpec.upto fnQuotaOfSpec)

/-- 'laws.FnIsQuotaSafe', WHERE WHAT IT READS IS OF BULK AT MOST 1048576: true; the input reads as it did. -/
def fnIsQuotaSafeUptoRow : OpenClaim := { program := "ytccgjnibafbfjaa", sum := "f64bf12c87a7291f76e00752009f28b6429fbcb7cb9c9fc8a63cf867c9179409", func := "loop.example/jointjudgments/laws.FnIsQuotaSafe", spec := "fnIsQuotaSafe", unfollowed := true, recurses := true, plainKeys := false, apart := false, narrowed := true }
def FnIsQuotaSafeUptoSaid : Prop := fnIsQuotaSafeUptoRow.holds Try.pinned (OpenSpec.upto fnIsQuotaSafeSpec)

/-- 'laws.FnValidRule', WHERE WHAT IT READS IS OF BULK AT MOST 1048576: true; the input reads as it did. -/
def fnValidRuleUptoRow : OpenClaim := { program := "ytccgjnibafbfjaa", sum := "f64bf12c87a7291f76e00752009f28b6429fbcb7cb9c9fc8a63cf867c9179409", func := "loop.example/jointjudgments/laws.FnValidRule", spec := "fnValidRule", unfollowed := true, recurses := true, plainKeys := false, apart := false, narrowed := true }
def FnValidRuleUptoSaid : Prop := fnValidRuleUptoRow.holds Try.pinned (OpenSpec.upto fnValidRuleSpec)

/-- 'laws.FnApplyRule', WHERE WHAT IT READS IS OF BULK AT MOST 1048576: true; the input reads as it did. -/
def fnApplyRuleUptoRow : OpenClaim := { program := "ytccgjnibafbfjaa", sum := "f64bf12c87a7291f76e00752009f28b6429fbcb7cb9c9fc8a63cf867c9179409", func := "loop.example/jointjudgments/laws.FnApplyRule", spec := "fnApplyRule", unfollowed := true, recurses := true, plainKeys := false, apart := false, narrowed := true }
def FnApplyRuleUptoSaid : Prop := fnApplyRuleUptoRow.holds Try.pinned (OpenSpec.upto fnApplyRuleSpec)

/-- 'laws.FnIsMonotone', WHERE WHAT IT READS IS OF BULK AT MOST 1048576: true; the input reads as it did. -/
def fnIsMonotoneUptoRow : OpenClaim := { program := "ytccgjnibafbfjaa", sum := "f64bf12c87a7291f76e00752009f28b6429fbcb7cb9c9fc8a63cf867c9179409", func := "loop.example/jointjudgments/laws.FnIsMonotone", spec := "fnIsMonotone", unfollowed := true, recurses := true, plainKeys := false, apart := false, narrowed := true }
def FnIsMonotoneUptoSaid : Prop := fnIsMonotoneUptoRow.holds Try.pinned (OpenSpec.upto fnIsMonotoneSpec)

/-- 'laws.FnIsUnanimous', WHERE WHAT IT READS IS OF BULK AT MOST 1048576: true; the input reads as it did. -/
def fnIsUnanimousUptoRow : OpenClaim := { program := "ytccgjnibafbfjaa", sum := "f64bf12c87a7291f76e00752009f28b6429fbcb7cb9c9fc8a63cf867c9179409", func := "loop.example/jointjudgments/laws.FnIsUnanimous", spec := "fnIsUnanimous", unfollowed := true, recurses := true, plainKeys := false, apart := false, narrowed := true }
def FnIsUnanimousUptoSaid : Prop := fnIsUnanimousUptoRow.holds Try.pinned (OpenSpec.upto fnIsUnanimousSpec)

/-- 'laws.FnIsNeutral', WHERE WHAT IT READS IS OF BULK AT MOST 1048576: true; the input reads as it did. -/
def fnIsNeutralUptoRow : OpenClaim := { program := "ytccgjnibafbfjaa", sum := "f64bf12c87a7291f76e00752009f28b6429fbcb7cb9c9fc8a63cf867c9179409", func := "loop.example/jointjudgments/laws.FnIsNeutral", spec := "fnIsNeutral", unfollowed := true, recurses := true, plainKeys := false, apart := false, narrowed := true }
def FnIsNeutralUptoSaid : Prop := fnIsNeutralUptoRow.holds Try.pinned (OpenSpec.upto fnIsNeutralSpec)

/-- 'laws.FnDictatorOf', WHERE WHAT IT READS IS OF BULK AT MOST 1048576: true; the input reads as it did. -/
def fnDictatorOfUptoRow : OpenClaim := { program := "ytccgjnibafbfjaa", sum := "f64bf12c87a7291f76e00752009f28b6429fbcb7cb9c9fc8a63cf867c9179409", func := "loop.example/jointjudgments/laws.FnDictatorOf", spec := "fnDictatorOf", unfollowed := true, recurses := true, plainKeys := false, apart := false, narrowed := true }
def FnDictatorOfUptoSaid : Prop := fnDictatorOfUptoRow.holds Try.pinned (OpenSpec.upto fnDictatorOfSpec)

/-- 'laws.FnIsSafe', WHERE WHAT IT READS IS OF BULK AT MOST 1048576: true; the input reads as it did. -/
def fnIsSafeUptoRow : OpenClaim := { program := "ytccgjnibafbfjaa", sum := "f64bf12c87a7291f76e00752009f28b6429fbcb7cb9c9fc8a63cf867c9179409", func := "loop.example/jointjudgments/laws.FnIsSafe", spec := "fnIsSafe", unfollowed := true, recurses := true, plainKeys := false, apart := false, narrowed := true }
def FnIsSafeUptoSaid : Prop := fnIsSafeUptoRow.holds Try.pinned (OpenSpec.upto fnIsSafeSpec)

/-- 'laws.FnDoMeet', WHERE WHAT IT READS IS OF BULK AT MOST 1048576: true; the input reads as it did. -/
def fnDoMeetUptoRow : OpenClaim := { program := "ytccgjnibafbfjaa", sum := "f64bf12c87a7291f76e00752009f28b6429fbcb7cb9c9fc8a63cf867c9179409", func := "loop.example/jointjudgments/laws.FnDoMeet", spec := "fnDoMeet", unfollowed := true, recurses := true, plainKeys := false, apart := false, narrowed := true }
def FnDoMeetUptoSaid : Prop := fnDoMeetUptoRow.holds Try.pinned (OpenSpec.upto fnDoMeetSpec)

/-- 'laws.FnSafeRules', WHERE WHAT IT READS IS OF BULK AT MOST 1048576: true; the input reads as it did. -/
def fnSafeRulesUptoRow : OpenClaim := { program := "ytccgjnibafbfjaa", sum := "f64bf12c87a7291f76e00752009f28b6429fbcb7cb9c9fc8a63cf867c9179409", func := "loop.example/jointjudgments/laws.FnSafeRules", spec := "fnSafeRules", unfollowed := true, recurses := true, plainKeys := false, apart := false, narrowed := true }
def FnSafeRulesUptoSaid : Prop := fnSafeRulesUptoRow.holds Try.pinned (OpenSpec.upto fnSafeRulesSpec)

/-- 'laws.FnRuleOfQuotas', WHERE WHAT IT READS IS OF BULK AT MOST 1048576: true; the input reads as it did. -/
def fnRuleOfQuotasUptoRow : OpenClaim := { program := "ytccgjnibafbfjaa", sum := "f64bf12c87a7291f76e00752009f28b6429fbcb7cb9c9fc8a63cf867c9179409", func := "loop.example/jointjudgments/laws.FnRuleOfQuotas", spec := "fnRuleOfQuotas", unfollowed := true, recurses := true, plainKeys := false, apart := false, narrowed := true }
def FnRuleOfQuotasUptoSaid : Prop := fnRuleOfQuotasUptoRow.holds Try.pinned (OpenSpec.upto fnRuleOfQuotasSpec)

end Rows
end Go.Proofs.Ytccgjnibafbfjaa
