/-
  No cell of these rows narrows 'for every input' (looked for: loops, veiled, ifaces, maps, wideKeys, modest, calm, conditions, laid).
  DERIVED. THE GIVEN ROWS OF THIS SEAT. 8 by the template 'for every input the law returns true; each argument reads behind the call as it read before'; 0 by the template 'total and deterministic' (their statements: YtccemllgglfgkaaTotals.lean).
  GIVEN WITH THE SEED: the statements are not yours to turn. If you find one false, say at which input.
  Laid BY PROGRAM, IN A SANDBOX (cutbox-rows.mjs): the forced cells as the released guide's own fill.sh prints them over the translation 0a92023d5540787f… (all of the seat's roots in one cut). By AI agents, Wed Nov 11 2026. No macro, syntax, notation, axiom, sorry.
-/
import Derived.Test.YtccemllgglfgkaaChecked
import GoSem.Claim
import GoSem.ClaimJoined
import GoSem.ClaimMapViews
import Derived.JoinedTies
import Derived.KernelRfl
namespace Go.Proofs.Ytccemllgglfgkaa
/- THE CELL 'sum', in the pinned program and in every row, IS THE sha256 OF THE DUMP (.gsa) THAT YtccemllgglfgkaaProg.lean LOADS. Nothing in Lean hashes anything: it is a label: what it is worth is what the hold of that sum in a sandbox is worth. -/
noncomputable def Try.pinned : Pinned := { name := "ytccemllgglfgkaa", sum := "0a92023d5540787f00859f5e95f9759782722aeed7cd82a734f2c74eceab75e9", checked := Try.checked }
namespace Rows
def none {H : Type} : Left H := { results := [], args := [] }

/-- 'laws.FnExactLineOf': WHATEVER THE INPUT: true; the input reads as it did. -/
def fnExactLineOfSpec : ChangeSpec := { name := "fnExactLineOf", fn := fun _ => fun
  | [d1, d2] => { results := [.lit (.bool true)], args := [d1, d2] }
  | _ => none }
def fnExactLineOfRow : OpenClaim := { program := "ytccemllgglfgkaa", sum := "0a92023d5540787f00859f5e95f9759782722aeed7cd82a734f2c74eceab75e9", func := "loop.example/jointjudgments/laws.FnExactLineOf", spec := "fnExactLineOf", unfollowed := true, recurses := true, plainKeys := false, apart := false }
def FnExactLineOfSaid : Prop := fnExactLineOfRow.holds Try.pinned (OpenSpec.ofChange fnExactLineOfSpec)

/-- ITS FALSE NEIGHBOUR: 'it returns false'. Refute it at one input. -/
def fnExactLineOfWrong : ChangeSpec := { name := "fnExactLineOf", fn := fun _ => fun
  | [d1, d2] => { results := [.lit (.bool false)], args := [d1, d2] }
  | _ => none }
def FnExactLineOfWrongFalsely : Prop := fnExactLineOfRow.holds Try.pinned (OpenSpec.ofChange fnExactLineOfWrong)

/-- 'laws.FnLineOf': WHATEVER THE INPUT: true; the input reads as it did. -/
def fnLineOfSpec : ChangeSpec := { name := "fnLineOf", fn := fun _ => fun
  | [d] => { results := [.lit (.bool true)], args := [d] }
  | _ => none }
def fnLineOfRow : OpenClaim := { program := "ytccemllgglfgkaa", sum := "0a92023d5540787f00859f5e95f9759782722aeed7cd82a734f2c74eceab75e9", func := "loop.example/jointjudgments/laws.FnLineOf", spec := "fnLineOf", unfollowed := true, recurses := true, plainKeys := false, apart := false }
def FnLineOfSaid : Prop := fnLineOfRow.holds Try.pinned (OpenSpec.ofChange fnLineOfSpec)

/-- ITS FALSE NEIGHBOUR: 'it returns false'. Refute it at one input. -/
def fnLineOfWrong : ChangeSpec := { name := "fnLineOf", fn := fun _ => fun
  | [d] => { results := [.lit (.bool false)], args := [d] }
  | _ => none }
def FnLineOfWrongFalsely : Prop := fnLineOfRow.holds Try.pinned (OpenSpec.ofChange fnLineOfWrong)

/-- 'laws.FnExactSafeRules': WHATEVER THE INPUT: true; the input reads as it did. -/
def fnExactSafeRulesSpec : ChangeSpec := { name := "fnExactSafeRules", fn := fun _ => fun
  | [d1, d2] => { results := [.lit (.bool true)], args := [d1, d2] }
  | _ => none }
def fnExactSafeRulesRow : OpenClaim := { program := "ytccemllgglfgkaa", sum := "0a92023d5540787f00859f5e95f9759782722aeed7cd82a734f2c74eceab75e9", func := "loop.example/jointjudgments/laws.FnExactSafeRules", spec := "fnExactSafeRules", unfollowed := true, recurses := true, plainKeys := false, apart := false }
def FnExactSafeRulesSaid : Prop := fnExactSafeRulesRow.holds Try.pinned (OpenSpec.ofChange fnExactSafeRulesSpec)

/-- ITS FALSE NEIGHBOUR: 'it returns false'. Refute it at one input. -/
def fnExactSafeRulesWrong : ChangeSpec := { name := "fnExactSafeRules", fn := fun _ => fun
  | [d1, d2] => { results := [.lit (.bool false)], args := [d1, d2] }
  | _ => none }
def FnExactSafeRulesWrongFalsely : Prop := fnExactSafeRulesRow.holds Try.pinned (OpenSpec.ofChange fnExactSafeRulesWrong)

/-- 'laws.FnSafeRules': WHATEVER THE INPUT: true; the input reads as it did. -/
def fnSafeRulesSpec : ChangeSpec := { name := "fnSafeRules", fn := fun _ => fun
  | [d] => { results := [.lit (.bool true)], args := [d] }
  | _ => none }
def fnSafeRulesRow : OpenClaim := { program := "ytccemllgglfgkaa", sum := "0a92023d5540787f00859f5e95f9759782722aeed7cd82a734f2c74eceab75e9", func := "loop.example/jointjudgments/laws.FnSafeRules", spec := "fnSafeRules", unfollowed := true, recurses := true, plainKeys := false, apart := false }
def FnSafeRulesSaid : Prop := fnSafeRulesRow.holds Try.pinned (OpenSpec.ofChange fnSafeRulesSpec)

/-- ITS FALSE NEIGHBOUR: 'it returns false'. Refute it at one input. -/
def fnSafeRulesWrong : ChangeSpec := { name := "fnSafeRules", fn := fun _ => fun
  | [d] => { results := [.lit (.bool false)], args := [d] }
  | _ => none }
def FnSafeRulesWrongFalsely : Prop := fnSafeRulesRow.holds Try.pinned (OpenSpec.ofChange fnSafeRulesWrong)

/-- 'laws.FnExactTurnRule': WHATEVER THE INPUT: true; the input reads as it did. -/
def fnExactTurnRuleSpec : ChangeSpec := { name := "fnExactTurnRule", fn := fun _ => fun
  | [d1, d2, d3] => { results := [.lit (.bool true)], args := [d1, d2, d3] }
  | _ => none }
def fnExactTurnRuleRow : OpenClaim := { program := "ytccemllgglfgkaa", sum := "0a92023d5540787f00859f5e95f9759782722aeed7cd82a734f2c74eceab75e9", func := "loop.example/jointjudgments/laws.FnExactTurnRule", spec := "fnExactTurnRule", unfollowed := true, recurses := true, plainKeys := false, apart := false }
def FnExactTurnRuleSaid : Prop := fnExactTurnRuleRow.holds Try.pinned (OpenSpec.ofChange fnExactTurnRuleSpec)

/-- ITS FALSE NEIGHBOUR: 'it returns false'. Refute it at one input. -/
def fnExactTurnRuleWrong : ChangeSpec := { name := "fnExactTurnRule", fn := fun _ => fun
  | [d1, d2, d3] => { results := [.lit (.bool false)], args := [d1, d2, d3] }
  | _ => none }
def FnExactTurnRuleWrongFalsely : Prop := fnExactTurnRuleRow.holds Try.pinned (OpenSpec.ofChange fnExactTurnRuleWrong)

/-- 'laws.FnTurnRule': WHATEVER THE INPUT: true; the input reads as it did. -/
def fnTurnRuleSpec : ChangeSpec := { name := "fnTurnRule", fn := fun _ => fun
  | [d] => { results := [.lit (.bool true)], args := [d] }
  | _ => none }
def fnTurnRuleRow : OpenClaim := { program := "ytccemllgglfgkaa", sum := "0a92023d5540787f00859f5e95f9759782722aeed7cd82a734f2c74eceab75e9", func := "loop.example/jointjudgments/laws.FnTurnRule", spec := "fnTurnRule", unfollowed := true, recurses := true, plainKeys := false, apart := false }
def FnTurnRuleSaid : Prop := fnTurnRuleRow.holds Try.pinned (OpenSpec.ofChange fnTurnRuleSpec)

/-- ITS FALSE NEIGHBOUR: 'it returns false'. Refute it at one input. -/
def fnTurnRuleWrong : ChangeSpec := { name := "fnTurnRule", fn := fun _ => fun
  | [d] => { results := [.lit (.bool false)], args := [d] }
  | _ => none }
def FnTurnRuleWrongFalsely : Prop := fnTurnRuleRow.holds Try.pinned (OpenSpec.ofChange fnTurnRuleWrong)

/-- 'laws.FnExactRankedRule': WHATEVER THE INPUT: true; the input reads as it did. -/
def fnExactRankedRuleSpec : ChangeSpec := { name := "fnExactRankedRule", fn := fun _ => fun
  | [d1, d2] => { results := [.lit (.bool true)], args := [d1, d2] }
  | _ => none }
def fnExactRankedRuleRow : OpenClaim := { program := "ytccemllgglfgkaa", sum := "0a92023d5540787f00859f5e95f9759782722aeed7cd82a734f2c74eceab75e9", func := "loop.example/jointjudgments/laws.FnExactRankedRule", spec := "fnExactRankedRule", unfollowed := true, recurses := true, plainKeys := false, apart := false }
def FnExactRankedRuleSaid : Prop := fnExactRankedRuleRow.holds Try.pinned (OpenSpec.ofChange fnExactRankedRuleSpec)

/-- ITS FALSE NEIGHBOUR: 'it returns false'. Refute it at one input. -/
def fnExactRankedRuleWrong : ChangeSpec := { name := "fnExactRankedRule", fn := fun _ => fun
  | [d1, d2] => { results := [.lit (.bool false)], args := [d1, d2] }
  | _ => none }
def FnExactRankedRuleWrongFalsely : Prop := fnExactRankedRuleRow.holds Try.pinned (OpenSpec.ofChange fnExactRankedRuleWrong)

/-- 'laws.FnRankedRule': WHATEVER THE INPUT: true; the input reads as it did. -/
def fnRankedRuleSpec : ChangeSpec := { name := "fnRankedRule", fn := fun _ => fun
  | [d] => { results := [.lit (.bool true)], args := [d] }
  | _ => none }
def fnRankedRuleRow : OpenClaim := { program := "ytccemllgglfgkaa", sum := "0a92023d5540787f00859f5e95f9759782722aeed7cd82a734f2c74eceab75e9", func := "loop.example/jointjudgments/laws.FnRankedRule", spec := "fnRankedRule", unfollowed := true, recurses := true, plainKeys := false, apart := false }
def FnRankedRuleSaid : Prop := fnRankedRuleRow.holds Try.pinned (OpenSpec.ofChange fnRankedRuleSpec)

/-- ITS FALSE NEIGHBOUR: 'it returns false'. Refute it at one input. -/
def fnRankedRuleWrong : ChangeSpec := { name := "fnRankedRule", fn := fun _ => fun
  | [d] => { results := [.lit (.bool false)], args := [d] }
  | _ => none }
def FnRankedRuleWrongFalsely : Prop := fnRankedRuleRow.holds Try.pinned (OpenSpec.ofChange fnRankedRuleWrong)

/- THE SECOND FORM. 'bulk': how many values and letters a reading holds, each counted each time it is reached (what is shared counts as often as it is met; a slice's spare places count too). A statement '..UptoSaid' is the law's where the arguments, and the package variables that the reading takes, are together of bulk at most 1048576: NARROWER than '..Said'. Prove '..Said' where nothing that the law and all that it calls make is longer than what came in: it says more and counts as full. Else prove '..UptoSaid'. A law counts once. -/
mutual
def uptoBulk {H : Type} : DataW H → Nat
  | .lit (.string bytes) => bytes.length + 1
  | .lit _ => 1
  | .nil => 1
  | .ptr d => uptoBulk d + 1
  | .slice elems spare => uptoBulkAll elems + uptoBulkAll spare + 1
  | .agg parts => uptoBulkAll parts + 1
  | .iface _ d => uptoBulk d + 1
  | .map entries => uptoBulkEntries entries + 1
  | .held _ => 1
def uptoBulkAll {H : Type} : List (DataW H) → Nat
  | [] => 0
  | d :: r => uptoBulk d + uptoBulkAll r
def uptoBulkEntries {H : Type} : List (Lit × DataW H) → Nat
  | [] => 0
  | x :: r => uptoBulkEntry x + uptoBulkEntries r
def uptoBulkEntry {H : Type} : Lit × DataW H → Nat
  | (.string bytes, d) => bytes.length + uptoBulk d + 1
  | (_, d) => uptoBulk d + 1
 end
def uptoSmall : (H : Type) → List (DataW H) → Bool := fun _ ds => decide (uptoBulkAll ds ≤ 1048576)
def OpenSpec.upto (s : _root_.Go.ChangeSpec) : _root_.Go.OpenSpec := { _root_.Go.OpenSpec.ofChange s with cond := some uptoSmall }

/-- 'laws.FnExactLineOf', WHERE WHAT IT READS IS OF BULK AT MOST 1048576: true; the input reads as it did. -/
def fnExactLineOfUptoRow : OpenClaim := { program := "ytccemllgglfgkaa", sum := "0a92023d5540787f00859f5e95f9759782722aeed7cd82a734f2c74eceab75e9", func := "loop.example/jointjudgments/laws.FnExactLineOf", spec := "fnExactLineOf", unfollowed := true, recurses := true, plainKeys := false, apart := false, narrowed := true }
def FnExactLineOfUptoSaid : Prop := fnExactLineOfUptoRow.holds Try.pinned (OpenSpec.upto fnExactLineOfSpec)

/-- 'laws.FnLineOf', WHERE WHAT IT READS IS OF BULK AT MOST 1048576: true; the input reads as it did. -/
def fnLineOfUptoRow : OpenClaim := { program := "ytccemllgglfgkaa", sum := "0a92023d5540787f00859f5e95f9759782722aeed7cd82a734f2c74eceab75e9", func := "loop.example/jointjudgments/laws.FnLineOf", spec := "fnLineOf", unfollowed := true, recurses := true, plainKeys := false, apart := false, narrowed := true }
def FnLineOfUptoSaid : Prop := fnLineOfUptoRow.holds Try.pinned (OpenSpec.upto fnLineOfSpec)

/-- 'laws.FnExactSafeRules', WHERE WHAT IT READS IS OF BULK AT MOST 1048576: true; the input reads as it did. -/
def fnExactSafeRulesUptoRow : OpenClaim := { program := "ytccemllgglfgkaa", sum := "0a92023d5540787f00859f5e95f9759782722aeed7cd82a734f2c74eceab75e9", func := "loop.example/jointjudgments/laws.FnExactSafeRules", spec := "fnExactSafeRules", unfollowed := true, recurses := true, plainKeys := false, apart := false, narrowed := true }
def FnExactSafeRulesUptoSaid : Prop := fnExactSafeRulesUptoRow.holds Try.pinned (OpenSpec.upto fnExactSafeRulesSpec)

/-- 'laws.FnSafeRules', WHERE WHAT IT READS IS OF BULK AT MOST 1048576: true; the input reads as it did. -/
def fnSafeRulesUptoRow : OpenClaim := { program := "ytccemllgglfgkaa", sum := "0a92023d5540787f00859f5e95f9759782722aeed7cd82a734f2c74eceab75e9", func := "loop.example/jointjudgments/laws.FnSafeRules", spec := "fnSafeRules", unfollowed := true, recurses := true, plainKeys := false, apart := false, narrowed := true }
def FnSafeRulesUptoSaid : Prop := fnSafeRulesUptoRow.holds Try.pinned (OpenSpec.upto fnSafeRulesSpec)

/-- 'laws.FnExactTurnRule', WHERE WHAT IT READS IS OF BULK AT MOST 1048576: true; the input reads as it did. -/
def fnExactTurnRuleUptoRow : OpenClaim := { program := "ytccemllgglfgkaa", sum := "0a92023d5540787f00859f5e95f9759782722aeed7cd82a734f2c74eceab75e9", func := "loop.example/jointjudgments/laws.FnExactTurnRule", spec := "fnExactTurnRule", unfollowed := true, recurses := true, plainKeys := false, apart := false, narrowed := true }
def FnExactTurnRuleUptoSaid : Prop := fnExactTurnRuleUptoRow.holds Try.pinned (OpenSpec.upto fnExactTurnRuleSpec)

/-- 'laws.FnTurnRule', WHERE WHAT IT READS IS OF BULK AT MOST 1048576: true; the input reads as it did. -/
def fnTurnRuleUptoRow : OpenClaim := { program := "ytccemllgglfgkaa", sum := "0a92023d5540787f00859f5e95f9759782722aeed7cd82a734f2c74eceab75e9", func := "loop.example/jointjudgments/laws.FnTurnRule", spec := "fnTurnRule", unfollowed := true, recurses := true, plainKeys := false, apart := false, narrowed := true }
def FnTurnRuleUptoSaid : Prop := fnTurnRuleUptoRow.holds Try.pinned (OpenSpec.upto fnTurnRuleSpec)

/-- 'laws.FnExactRankedRule', WHERE WHAT IT READS IS OF BULK AT MOST 1048576: true; the input reads as it did. -/
def fnExactRankedRuleUptoRow : OpenClaim := { program := "ytccemllgglfgkaa", sum := "0a92023d5540787f00859f5e95f9759782722aeed7cd82a734f2c74eceab75e9", func := "loop.example/jointjudgments/laws.FnExactRankedRule", spec := "fnExactRankedRule", unfollowed := true, recurses := true, plainKeys := false, apart := false, narrowed := true }
def FnExactRankedRuleUptoSaid : Prop := fnExactRankedRuleUptoRow.holds Try.pinned (OpenSpec.upto fnExactRankedRuleSpec)

/-- 'laws.FnRankedRule', WHERE WHAT IT READS IS OF BULK AT MOST 1048576: true; the input reads as it did. -/
def fnRankedRuleUptoRow : OpenClaim := { program := "ytccemllgglfgkaa", sum := "0a92023d5540787f00859f5e95f9759782722aeed7cd82a734f2c74eceab75e9", func := "loop.example/jointjudgments/laws.FnRankedRule", spec := "fnRankedRule", unfollowed := true, recurses := true, plainKeys := false, apart := false, narrowed := true }
def FnRankedRuleUptoSaid : Prop := fnRankedRuleUptoRow.holds Try.pinned (OpenSpec.upto fnRankedRuleSpec)

end Rows
end Go.Proofs.Ytccemllgglfgkaa
