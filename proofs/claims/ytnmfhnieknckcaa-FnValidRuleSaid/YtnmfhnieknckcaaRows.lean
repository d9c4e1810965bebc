/-
  No cell of these rows narrows 'for every input' (looked for: loops, veiled, ifaces, maps, wideKeys, modest, calm, conditions, laid).
  DERIVED. THE GIVEN ROWS OF THIS SEAT. 7 by the template 'for every input the law returns true; each argument reads behind the call as it read before'; 0 by the template 'total and deterministic' (their statements: YtnmfhnieknckcaaTotals.lean).
  GIVEN WITH THE SEED: the statements are not yours to turn. If you find one false, say at which input.
  Laid BY PROGRAM, IN A SANDBOX (cutbox-rows.mjs): the forced cells as the released guide's own fill.sh prints them over the translation 260bede6e0771d4e… (all of the seat's roots in one cut). By AI agents, Wed Nov 11 2026. No macro, syntax, notation, axiom, sorry.
-/
import Derived.Test.YtnmfhnieknckcaaChecked
import GoSem.Claim
import GoSem.ClaimJoined
import GoSem.ClaimMapViews
import Derived.JoinedTies
import Derived.KernelRfl
namespace Go.Proofs.Ytnmfhnieknckcaa
/- THE CELL 'sum', in the pinned program and in every row, IS THE sha256 OF THE DUMP (.gsa) THAT YtnmfhnieknckcaaProg.lean LOADS. Nothing in Lean hashes anything: it is a label: what it is worth is what the hold of that sum in a sandbox is worth. -/
noncomputable def Try.pinned : Pinned := { name := "ytnmfhnieknckcaa", sum := "260bede6e0771d4eaf8774071cdae73febfdc3f96f25b606dfadb4f47ad049e5", checked := Try.checked }
namespace Rows
def none {H : Type} : Left H := { results := [], args := [] }

/-- 'laws.FnIsSafe': WHATEVER THE INPUT: true; the input reads as it did. -/
def fnIsSafeSpec : ChangeSpec := { name := "fnIsSafe", fn := fun _ => fun
  | [d] => { results := [.lit (.bool true)], args := [d] }
  | _ => none }
def fnIsSafeRow : OpenClaim := { program := "ytnmfhnieknckcaa", sum := "260bede6e0771d4eaf8774071cdae73febfdc3f96f25b606dfadb4f47ad049e5", func := "loop.example/jointjudgments/laws.FnIsSafe", spec := "fnIsSafe", unfollowed := true, recurses := true, plainKeys := false, apart := false }
def FnIsSafeSaid : Prop := fnIsSafeRow.holds Try.pinned (OpenSpec.ofChange fnIsSafeSpec)

/-- ITS FALSE NEIGHBOUR: 'it returns false'. Refute it at one input. -/
def fnIsSafeWrong : ChangeSpec := { name := "fnIsSafe", fn := fun _ => fun
  | [d] => { results := [.lit (.bool false)], args := [d] }
  | _ => none }
def FnIsSafeWrongFalsely : Prop := fnIsSafeRow.holds Try.pinned (OpenSpec.ofChange fnIsSafeWrong)

/-- 'laws.FnDoMeet': WHATEVER THE INPUT: true; the input reads as it did. -/
def fnDoMeetSpec : ChangeSpec := { name := "fnDoMeet", fn := fun _ => fun
  | [d] => { results := [.lit (.bool true)], args := [d] }
  | _ => none }
def fnDoMeetRow : OpenClaim := { program := "ytnmfhnieknckcaa", sum := "260bede6e0771d4eaf8774071cdae73febfdc3f96f25b606dfadb4f47ad049e5", func := "loop.example/jointjudgments/laws.FnDoMeet", spec := "fnDoMeet", unfollowed := true, recurses := true, plainKeys := false, apart := false }
def FnDoMeetSaid : Prop := fnDoMeetRow.holds Try.pinned (OpenSpec.ofChange fnDoMeetSpec)

/-- ITS FALSE NEIGHBOUR: 'it returns false'. Refute it at one input. -/
def fnDoMeetWrong : ChangeSpec := { name := "fnDoMeet", fn := fun _ => fun
  | [d] => { results := [.lit (.bool false)], args := [d] }
  | _ => none }
def FnDoMeetWrongFalsely : Prop := fnDoMeetRow.holds Try.pinned (OpenSpec.ofChange fnDoMeetWrong)

/-- 'laws.FnDictatorOf': WHATEVER THE INPUT: true; the input reads as it did. -/
def fnDictatorOfSpec : ChangeSpec := { name := "fnDictatorOf", fn := fun _ => fun
  | [d] => { results := [.lit (.bool true)], args := [d] }
  | _ => none }
def fnDictatorOfRow : OpenClaim := { program := "ytnmfhnieknckcaa", sum := "260bede6e0771d4eaf8774071cdae73febfdc3f96f25b606dfadb4f47ad049e5", func := "loop.example/jointjudgments/laws.FnDictatorOf", spec := "fnDictatorOf", unfollowed := true, recurses := true, plainKeys := false, apart := false }
def FnDictatorOfSaid : Prop := fnDictatorOfRow.holds Try.pinned (OpenSpec.ofChange fnDictatorOfSpec)

/-- ITS FALSE NEIGHBOUR: 'it returns false'. Refute it at one input. -/
def fnDictatorOfWrong : ChangeSpec := { name := "fnDictatorOf", fn := fun _ => fun
  | [d] => { results := [.lit (.bool false)], args := [d] }
  | _ => none }
def FnDictatorOfWrongFalsely : Prop := fnDictatorOfRow.holds Try.pinned (OpenSpec.ofChange fnDictatorOfWrong)

/-- 'laws.FnIsQuotaSafe': WHATEVER THE INPUT: true; the input reads as it did. -/
def fnIsQuotaSafeSpec : ChangeSpec := { name := "fnIsQuotaSafe", fn := fun _ => fun
  | [d] => { results := [.lit (.bool true)], args := [d] }
  | _ => none }
def fnIsQuotaSafeRow : OpenClaim := { program := "ytnmfhnieknckcaa", sum := "260bede6e0771d4eaf8774071cdae73febfdc3f96f25b606dfadb4f47ad049e5", func := "loop.example/jointjudgments/laws.FnIsQuotaSafe", spec := "fnIsQuotaSafe", unfollowed := true, recurses := true, plainKeys := false, apart := false }
def FnIsQuotaSafeSaid : Prop := fnIsQuotaSafeRow.holds Try.pinned (OpenSpec.ofChange fnIsQuotaSafeSpec)

/-- ITS FALSE NEIGHBOUR: 'it returns false'. Refute it at one input. -/
def fnIsQuotaSafeWrong : ChangeSpec := { name := "fnIsQuotaSafe", fn := fun _ => fun
  | [d] => { results := [.lit (.bool false)], args := [d] }
  | _ => none }
def FnIsQuotaSafeWrongFalsely : Prop := fnIsQuotaSafeRow.holds Try.pinned (OpenSpec.ofChange fnIsQuotaSafeWrong)

/-- 'laws.FnValidRule': WHATEVER THE INPUT: true; the input reads as it did. -/
def fnValidRuleSpec : ChangeSpec := { name := "fnValidRule", fn := fun _ => fun
  | [d] => { results := [.lit (.bool true)], args := [d] }
  | _ => none }
def fnValidRuleRow : OpenClaim := { program := "ytnmfhnieknckcaa", sum := "260bede6e0771d4eaf8774071cdae73febfdc3f96f25b606dfadb4f47ad049e5", func := "loop.example/jointjudgments/laws.FnValidRule", spec := "fnValidRule", unfollowed := true, recurses := true, plainKeys := false, apart := false }
def FnValidRuleSaid : Prop := fnValidRuleRow.holds Try.pinned (OpenSpec.ofChange fnValidRuleSpec)

/-- ITS FALSE NEIGHBOUR: 'it returns false'. Refute it at one input. -/
def fnValidRuleWrong : ChangeSpec := { name := "fnValidRule", fn := fun _ => fun
  | [d] => { results := [.lit (.bool false)], args := [d] }
  | _ => none }
def FnValidRuleWrongFalsely : Prop := fnValidRuleRow.holds Try.pinned (OpenSpec.ofChange fnValidRuleWrong)

/-- 'laws.FnRuleOfQuotas': WHATEVER THE INPUT: true; the input reads as it did. -/
def fnRuleOfQuotasSpec : ChangeSpec := { name := "fnRuleOfQuotas", fn := fun _ => fun
  | [d] => { results := [.lit (.bool true)], args := [d] }
  | _ => none }
def fnRuleOfQuotasRow : OpenClaim := { program := "ytnmfhnieknckcaa", sum := "260bede6e0771d4eaf8774071cdae73febfdc3f96f25b606dfadb4f47ad049e5", func := "loop.example/jointjudgments/laws.FnRuleOfQuotas", spec := "fnRuleOfQuotas", unfollowed := true, recurses := true, plainKeys := false, apart := false }
def FnRuleOfQuotasSaid : Prop := fnRuleOfQuotasRow.holds Try.pinned (OpenSpec.ofChange fnRuleOfQuotasSpec)

/-- ITS FALSE NEIGHBOUR: 'it returns false'. Refute it at one input. -/
def fnRuleOfQuotasWrong : ChangeSpec := { name := "fnRuleOfQuotas", fn := fun _ => fun
  | [d] => { results := [.lit (.bool false)], args := [d] }
  | _ => none }
def FnRuleOfQuotasWrongFalsely : Prop := fnRuleOfQuotasRow.holds Try.pinned (OpenSpec.ofChange fnRuleOfQuotasWrong)

/-- 'laws.FnExactRuleOfQuotas': WHATEVER THE INPUT: true; the input reads as it did. -/
def fnExactRuleOfQuotasSpec : ChangeSpec := { name := "fnExactRuleOfQuotas", fn := fun _ => fun
  | [d1, d2, d3] => { results := [.lit (.bool true)], args := [d1, d2, d3] }
  | _ => none }
def fnExactRuleOfQuotasRow : OpenClaim := { program := "ytnmfhnieknckcaa", sum := "260bede6e0771d4eaf8774071cdae73febfdc3f96f25b606dfadb4f47ad049e5", func := "loop.example/jointjudgments/laws.FnExactRuleOfQuotas", spec := "fnExactRuleOfQuotas", unfollowed := true, recurses := true, plainKeys := false, apart := false }
def FnExactRuleOfQuotasSaid : Prop := fnExactRuleOfQuotasRow.holds Try.pinned (OpenSpec.ofChange fnExactRuleOfQuotasSpec)

/-- ITS FALSE NEIGHBOUR: 'it returns false'. Refute it at one input. -/
def fnExactRuleOfQuotasWrong : ChangeSpec := { name := "fnExactRuleOfQuotas", fn := fun _ => fun
  | [d1, d2, d3] => { results := [.lit (.bool false)], args := [d1, d2, d3] }
  | _ => none }
def FnExactRuleOfQuotasWrongFalsely : Prop := fnExactRuleOfQuotasRow.holds Try.pinned (OpenSpec.ofChange fnExactRuleOfQuotasWrong)

/- THE SECOND FORM. 'bulk': how many values and letters a reading holds, each counted each time it is reached (what is shared counts as often as it is met; a slice's spare places count too). A statement '..UptoSaid' is the law's where the arguments, and the package variables that the reading takes, are together of bulk at most 1048576: NARROWER than '..Said'. Prove '..Said' where nothing that the law and all that it calls make is longer than what came in: it says more and counts as full. Else prove '..UptoSaid'. A law counts once. -/
mutual
def uptoBulk {H : Type} : DataW H → Nat
  | .lit (.string bytes) => bytes.length + 1
  | .lit _ => 1
  | .nil => 1
  | .ptr d => uptoBulk d + 1
  | .slice elems spare => uptoBulkAll elems + uptoBulkAll spare + 1
  | .agg parts => uptoBulkAll parts + 1
  | .iface _ d => uptoBulk d + 1
  | .map entries => uptoBulkEntries entries + 1
  | .held _ => 1
def uptoBulkAll {H : Type} : List (DataW H) → Nat
  | [] => 0
  | d :: r => uptoBulk d + uptoBulkAll r
def uptoBulkEntries {H : Type} : List (Lit × DataW H) → Nat
  | [] => 0
  | x :: r => uptoBulkEntry x + uptoBulkEntries r
def uptoBulkEntry {H : Type} : Lit × DataW H → Nat
  | (.string bytes, d) => bytes.length + uptoBulk d + 1
  | (_, d) => uptoBulk d + 1
 end
def uptoSmall : (H : Type) → List (DataW H) → Bool := fun _ ds => decide (uptoBulkAll ds ≤ 1048576)
def OpenSpec.upto (s : _root_.Go.ChangeSpec) : _root_.Go.OpenSpec := { _root_.Go.OpenSpec.ofChange s with cond := some uptoSmall }

/-- 'laws.FnIsSafe', WHERE WHAT IT READS IS OF BULK AT MOST 1048576: true; the input reads as it did. -/
def fnIsSafeUptoRow : OpenClaim := { program := "ytnmfhnieknckcaa", sum := "260bede6e0771d4eaf8774071cdae73febfdc3f96f25b606dfadb4f47ad049e5", func := "loop.example/jointjudgments/laws.FnIsSafe", spec := "fnIsSafe", unfollowed := true, recurses := true, plainKeys := false, apart := false, narrowed := true }
def FnIsSafeUptoSaid : Prop := fnIsSafeUptoRow.holds Try.pinned (OpenSpec.upto fnIsSafeSpec)

/-- 'laws.FnDoMeet', WHERE WHAT IT READS IS OF BULK AT MOST 1048576: true; the input reads as it did. -/
def fnDoMeetUptoRow : OpenClaim := { program := "ytnmfhnieknckcaa", sum := "260bede6e0771d4eaf8774071cdae73febfdc3f96f25b606dfadb4f47ad049e5", func := "loop.example/jointjudgments/laws.FnDoMeet", spec := "fnDoMeet", unfollowed := true, recurses := true, plainKeys := false, apart := false, narrowed := true }
def FnDoMeetUptoSaid : Prop := fnDoMeetUptoRow.holds Try.pinned (OpenSpec.upto fnDoMeetSpec)

/-- 'laws.FnDictatorOf', WHERE WHAT IT READS IS OF BULK AT MOST 1048576: true; the input reads as it did. -/
def fnDictatorOfUptoRow : OpenClaim := { program := "ytnmfhnieknckcaa", sum := "260bede6e0771d4eaf8774071cdae73febfdc3f96f25b606dfadb4f47ad049e5", func := "loop.example/jointjudgments/laws.FnDictatorOf", spec := "fnDictatorOf", unfollowed := true, recurses := true, plainKeys := false, apart := false, narrowed := true }
def FnDictatorOfUptoSaid : Prop := fnDictatorOfUptoRow.holds Try.pinned (OpenSpec.upto fnDictatorOfSpec)

/-- 'laws.FnIsQuotaSafe', WHERE WHAT IT READS IS OF BULK AT MOST 1048576: true; the input reads as it did. -/
def fnIsQuotaSafeUptoRow : OpenClaim := { program := "ytnmfhnieknckcaa", sum := "260bede6e0771d4eaf8774071cdae73febfdc3f96f25b606dfadb4f47ad049e5", func := "loop.example/jointjudgments/laws.FnIsQuotaSafe", spec := "fnIsQuotaSafe", unfollowed := true, recurses := true, plainKeys := false, apart := false, narrowed := true }
def FnIsQuotaSafeUptoSaid : Prop := fnIsQuotaSafeUptoRow.holds Try.pinned (OpenSpec.upto fnIsQuotaSafeSpec)

/-- 'laws.FnValidRule', WHERE WHAT IT READS IS OF BULK AT MOST 1048576: true; the input reads as it did. -/
def fnValidRuleUptoRow : OpenClaim := { program := "ytnmfhnieknckcaa", sum := "260bede6e0771d4eaf8774071cdae73febfdc3f96f25b606dfadb4f47ad049e5", func := "loop.example/jointjudgments/laws.FnValidRule", spec := "fnValidRule", unfollowed := true, recurses := true, plainKeys := false, apart := false, narrowed := true }
def FnValidRuleUptoSaid : Prop := fnValidRuleUptoRow.holds Try.pinned (OpenSpec.upto fnValidRuleSpec)

/-- 'laws.FnRuleOfQuotas', WHERE WHAT IT READS IS OF BULK AT MOST 1048576: true; the input reads as it did. -/
def fnRuleOfQuotasUptoRow : OpenClaim := { program := "ytnmfhnieknckcaa", sum := "260bede6e0771d4eaf8774071cdae73febfdc3f96f25b606dfadb4f47ad049e5", func := "loop.example/jointjudgments/laws.FnRuleOfQuotas", spec := "fnRuleOfQuotas", unfollowed := true, recurses := true, plainKeys := false, apart := false, narrowed := true }
def FnRuleOfQuotasUptoSaid : Prop := fnRuleOfQuotasUptoRow.holds Try.pinned (OpenSpec.upto fnRuleOfQuotasSpec)

/-- 'laws.FnExactRuleOfQuotas', WHERE WHAT IT READS IS OF BULK AT MOST 1048576: true; the input reads as it did. -/
def fnExactRuleOfQuotasUptoRow : OpenClaim := { program := "ytnmfhnieknckcaa", sum := "260bede6e0771d4eaf8774071cdae73febfdc3f96f25b606dfadb4f47ad049e5", func := "loop.example/jointjudgments/laws.FnExactRuleOfQuotas", spec := "fnExactRuleOfQuotas", unfollowed := true, recurses := true, plainKeys := false, apart := false, narrowed := true }
def FnExactRuleOfQuotasUptoSaid : Prop := fnExactRuleOfQuotasUptoRow.holds Try.pinned (OpenSpec.upto fnExactRuleOfQuotasSpec)

end Rows
end Go.Proofs.Ytnmfhnieknckcaa
