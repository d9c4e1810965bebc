/-
  No cell of these rows narrows 'for every input' (looked for: loops, veiled, ifaces, maps, wideKeys, modest, calm, conditions, laid).
  DERIVED. THE GIVEN ROWS OF THIS SEAT. 8 by the template 'for every input the law returns true; each argument reads behind the call as it read before'; 0 by the template 'total and deterministic' (their statements: YtcophcjkhdipbaaTotals.lean).
  GIVEN WITH THE SEED: the statements are not yours to turn. If you find one false, say at which input.
  Laid BY PROGRAM, IN A SANDBOX (cutbox-rows.mjs): the forced cells as the released guide's own fill.sh prints them over the translation eacfeb293023ce7c… (all of the seat's roots in one cut). By AI agents, Wed Nov 11 2026. No macro, syntax, notation, axiom, sorry.
-/
import Derived.Test.YtcophcjkhdipbaaChecked
import GoSem.Claim
import GoSem.ClaimJoined
import GoSem.ClaimMapViews
import Derived.JoinedTies
import Derived.KernelRfl
namespace Go.Proofs.Ytcophcjkhdipbaa
/- THE CELL 'sum', in the pinned program and in every row, IS THE sha256 OF THE DUMP (.gsa) THAT YtcophcjkhdipbaaProg.lean LOADS. Nothing in Lean hashes anything: it is a label: what it is worth is what the hold of that sum in a sandbox is worth. -/
noncomputable def Try.pinned : Pinned := { name := "ytcophcjkhdipbaa", sum := "eacfeb293023ce7c6752e04d58241e1f1ed2d3cc51b00a6d139dac035bffc72a", checked := Try.checked }
namespace Rows
def none {H : Type} : Left H := { results := [], args := [] }

/-- 'laws.FnExactMedianRule': WHATEVER THE INPUT: true; the input reads as it did. -/
def fnExactMedianRuleSpec : ChangeSpec := { name := "fnExactMedianRule", fn := fun _ => fun
  | [d1, d2] => { results := [.lit (.bool true)], args := [d1, d2] }
  | _ => none }
def fnExactMedianRuleRow : OpenClaim := { program := "ytcophcjkhdipbaa", sum := "eacfeb293023ce7c6752e04d58241e1f1ed2d3cc51b00a6d139dac035bffc72a", func := "loop.example/jointjudgments/laws.FnExactMedianRule", spec := "fnExactMedianRule", unfollowed := true, recurses := true, apart := false }
def FnExactMedianRuleSaid : Prop := fnExactMedianRuleRow.holds Try.pinned (OpenSpec.ofChange fnExactMedianRuleSpec)

/-- ITS FALSE NEIGHBOUR: 'it returns false'. Refute it at one input. -/
def fnExactMedianRuleWrong : ChangeSpec := { name := "fnExactMedianRule", fn := fun _ => fun
  | [d1, d2] => { results := [.lit (.bool false)], args := [d1, d2] }
  | _ => none }
def FnExactMedianRuleWrongFalsely : Prop := fnExactMedianRuleRow.holds Try.pinned (OpenSpec.ofChange fnExactMedianRuleWrong)

/-- 'laws.FnExactMiddleRule': WHATEVER THE INPUT: true; the input reads as it did. -/
def fnExactMiddleRuleSpec : ChangeSpec := { name := "fnExactMiddleRule", fn := fun _ => fun
  | [d1, d2] => { results := [.lit (.bool true)], args := [d1, d2] }
  | _ => none }
def fnExactMiddleRuleRow : OpenClaim := { program := "ytcophcjkhdipbaa", sum := "eacfeb293023ce7c6752e04d58241e1f1ed2d3cc51b00a6d139dac035bffc72a", func := "loop.example/jointjudgments/laws.FnExactMiddleRule", spec := "fnExactMiddleRule", unfollowed := true, recurses := true, apart := false }
def FnExactMiddleRuleSaid : Prop := fnExactMiddleRuleRow.holds Try.pinned (OpenSpec.ofChange fnExactMiddleRuleSpec)

/-- ITS FALSE NEIGHBOUR: 'it returns false'. Refute it at one input. -/
def fnExactMiddleRuleWrong : ChangeSpec := { name := "fnExactMiddleRule", fn := fun _ => fun
  | [d1, d2] => { results := [.lit (.bool false)], args := [d1, d2] }
  | _ => none }
def FnExactMiddleRuleWrongFalsely : Prop := fnExactMiddleRuleRow.holds Try.pinned (OpenSpec.ofChange fnExactMiddleRuleWrong)

/-- 'laws.FnExactKeptRule': WHATEVER THE INPUT: true; the input reads as it did. -/
def fnExactKeptRuleSpec : ChangeSpec := { name := "fnExactKeptRule", fn := fun _ => fun
  | [d1, d2] => { results := [.lit (.bool true)], args := [d1, d2] }
  | _ => none }
def fnExactKeptRuleRow : OpenClaim := { program := "ytcophcjkhdipbaa", sum := "eacfeb293023ce7c6752e04d58241e1f1ed2d3cc51b00a6d139dac035bffc72a", func := "loop.example/jointjudgments/laws.FnExactKeptRule", spec := "fnExactKeptRule", unfollowed := true, recurses := true, apart := false }
def FnExactKeptRuleSaid : Prop := fnExactKeptRuleRow.holds Try.pinned (OpenSpec.ofChange fnExactKeptRuleSpec)

/-- ITS FALSE NEIGHBOUR: 'it returns false'. Refute it at one input. -/
def fnExactKeptRuleWrong : ChangeSpec := { name := "fnExactKeptRule", fn := fun _ => fun
  | [d1, d2] => { results := [.lit (.bool false)], args := [d1, d2] }
  | _ => none }
def FnExactKeptRuleWrongFalsely : Prop := fnExactKeptRuleRow.holds Try.pinned (OpenSpec.ofChange fnExactKeptRuleWrong)

/-- 'laws.FnExactSlaterRule': WHATEVER THE INPUT: true; the input reads as it did. -/
def fnExactSlaterRuleSpec : ChangeSpec := { name := "fnExactSlaterRule", fn := fun _ => fun
  | [d1, d2] => { results := [.lit (.bool true)], args := [d1, d2] }
  | _ => none }
def fnExactSlaterRuleRow : OpenClaim := { program := "ytcophcjkhdipbaa", sum := "eacfeb293023ce7c6752e04d58241e1f1ed2d3cc51b00a6d139dac035bffc72a", func := "loop.example/jointjudgments/laws.FnExactSlaterRule", spec := "fnExactSlaterRule", unfollowed := true, recurses := true, apart := false }
def FnExactSlaterRuleSaid : Prop := fnExactSlaterRuleRow.holds Try.pinned (OpenSpec.ofChange fnExactSlaterRuleSpec)

/-- ITS FALSE NEIGHBOUR: 'it returns false'. Refute it at one input. -/
def fnExactSlaterRuleWrong : ChangeSpec := { name := "fnExactSlaterRule", fn := fun _ => fun
  | [d1, d2] => { results := [.lit (.bool false)], args := [d1, d2] }
  | _ => none }
def FnExactSlaterRuleWrongFalsely : Prop := fnExactSlaterRuleRow.holds Try.pinned (OpenSpec.ofChange fnExactSlaterRuleWrong)

/-- 'laws.FnMedianRule': WHATEVER THE INPUT: true; the input reads as it did. -/
def fnMedianRuleSpec : ChangeSpec := { name := "fnMedianRule", fn := fun _ => fun
  | [d] => { results := [.lit (.bool true)], args := [d] }
  | _ => none }
def fnMedianRuleRow : OpenClaim := { program := "ytcophcjkhdipbaa", sum := "eacfeb293023ce7c6752e04d58241e1f1ed2d3cc51b00a6d139dac035bffc72a", func := "loop.example/jointjudgments/laws.FnMedianRule", spec := "fnMedianRule", unfollowed := true, recurses := true, apart := false }
def FnMedianRuleSaid : Prop := fnMedianRuleRow.holds Try.pinned (OpenSpec.ofChange fnMedianRuleSpec)

/-- ITS FALSE NEIGHBOUR: 'it returns false'. Refute it at one input. -/
def fnMedianRuleWrong : ChangeSpec := { name := "fnMedianRule", fn := fun _ => fun
  | [d] => { results := [.lit (.bool false)], args := [d] }
  | _ => none }
def FnMedianRuleWrongFalsely : Prop := fnMedianRuleRow.holds Try.pinned (OpenSpec.ofChange fnMedianRuleWrong)

/-- 'laws.FnMiddleRule': WHATEVER THE INPUT: true; the input reads as it did. -/
def fnMiddleRuleSpec : ChangeSpec := { name := "fnMiddleRule", fn := fun _ => fun
  | [d] => { results := [.lit (.bool true)], args := [d] }
  | _ => none }
def fnMiddleRuleRow : OpenClaim := { program := "ytcophcjkhdipbaa", sum := "eacfeb293023ce7c6752e04d58241e1f1ed2d3cc51b00a6d139dac035bffc72a", func := "loop.example/jointjudgments/laws.FnMiddleRule", spec := "fnMiddleRule", unfollowed := true, recurses := true, apart := false }
def FnMiddleRuleSaid : Prop := fnMiddleRuleRow.holds Try.pinned (OpenSpec.ofChange fnMiddleRuleSpec)

/-- ITS FALSE NEIGHBOUR: 'it returns false'. Refute it at one input. -/
def fnMiddleRuleWrong : ChangeSpec := { name := "fnMiddleRule", fn := fun _ => fun
  | [d] => { results := [.lit (.bool false)], args := [d] }
  | _ => none }
def FnMiddleRuleWrongFalsely : Prop := fnMiddleRuleRow.holds Try.pinned (OpenSpec.ofChange fnMiddleRuleWrong)

/-- 'laws.FnIsSettled': WHATEVER THE INPUT: true; the input reads as it did. -/
def fnIsSettledSpec : ChangeSpec := { name := "fnIsSettled", fn := fun _ => fun
  | [d] => { results := [.lit (.bool true)], args := [d] }
  | _ => none }
def fnIsSettledRow : OpenClaim := { program := "ytcophcjkhdipbaa", sum := "eacfeb293023ce7c6752e04d58241e1f1ed2d3cc51b00a6d139dac035bffc72a", func := "loop.example/jointjudgments/laws.FnIsSettled", spec := "fnIsSettled", unfollowed := true, recurses := true, apart := false }
def FnIsSettledSaid : Prop := fnIsSettledRow.holds Try.pinned (OpenSpec.ofChange fnIsSettledSpec)

/-- ITS FALSE NEIGHBOUR: 'it returns false'. Refute it at one input. -/
def fnIsSettledWrong : ChangeSpec := { name := "fnIsSettled", fn := fun _ => fun
  | [d] => { results := [.lit (.bool false)], args := [d] }
  | _ => none }
def FnIsSettledWrongFalsely : Prop := fnIsSettledRow.holds Try.pinned (OpenSpec.ofChange fnIsSettledWrong)

/-- 'laws.FnSlaterRule': WHATEVER THE INPUT: true; the input reads as it did. -/
def fnSlaterRuleSpec : ChangeSpec := { name := "fnSlaterRule", fn := fun _ => fun
  | [d] => { results := [.lit (.bool true)], args := [d] }
  | _ => none }
def fnSlaterRuleRow : OpenClaim := { program := "ytcophcjkhdipbaa", sum := "eacfeb293023ce7c6752e04d58241e1f1ed2d3cc51b00a6d139dac035bffc72a", func := "loop.example/jointjudgments/laws.FnSlaterRule", spec := "fnSlaterRule", unfollowed := true, recurses := true, apart := false }
def FnSlaterRuleSaid : Prop := fnSlaterRuleRow.holds Try.pinned (OpenSpec.ofChange fnSlaterRuleSpec)

/-- ITS FALSE NEIGHBOUR: 'it returns false'. Refute it at one input. -/
def fnSlaterRuleWrong : ChangeSpec := { name := "fnSlaterRule", fn := fun _ => fun
  | [d] => { results := [.lit (.bool false)], args := [d] }
  | _ => none }
def FnSlaterRuleWrongFalsely : Prop := fnSlaterRuleRow.holds Try.pinned (OpenSpec.ofChange fnSlaterRuleWrong)

/- THE SECOND FORM. 'bulk': how many values and letters a reading holds, each counted each time it is reached (what is shared counts as often as it is met; a slice's spare places count too). A statement '..UptoSaid' is the law's where the arguments, and the package variables that the reading takes, are together of bulk at most 1048576: NARROWER than '..Said'. Prove '..Said' where nothing that the law and all that it calls make is longer than what came in: it says more and counts as full. Else prove '..UptoSaid'. A law counts once. -/
mutual
def uptoBulk {H : Type} : DataW H → Nat
  | .lit (.string bytes) => bytes.length + 1
  | .lit _ => 1
  | .nil => 1
  | .ptr d => uptoBulk d + 1
  | .slice elems spare => uptoBulkAll elems + uptoBulkAll spare + 1
  | .agg parts => uptoBulkAll parts + 1
  | .iface _ d => uptoBulk d + 1
  | .map entries => uptoBulkEntries entries + 1
  | .held _ => 1
def uptoBulkAll {H : Type} : List (DataW H) → Nat
  | [] => 0
  | d :: r => uptoBulk d + uptoBulkAll r
def uptoBulkEntries {H : Type} : List (Lit × DataW H) → Nat
  | [] => 0
  | x :: r => uptoBulkEntry x + uptoBulkEntries r
def uptoBulkEntry {H : Type} : Lit × DataW H → Nat
  | (.string bytes, d) => bytes.length + uptoBulk d + 1
  | (_, d) => uptoBulk d + 1
 end
def uptoSmall : (H : Type) → List (DataW H) → Bool := fun _ ds => decide (uptoBulkAll ds ≤ 1048576)
def OpenSpec.upto (s : _root_.Go.ChangeSpec) : _root_.Go.OpenSpec := { _root_.Go.OpenSpec.ofChange s with cond := some uptoSmall }

/-- 'laws.FnExactMedianRule', WHERE WHAT IT READS IS OF BULK AT MOST 1048576: true; the input reads as it did. -/
def fnExactMedianRuleUptoRow : OpenClaim := { program := "ytcophcjkhdipbaa", sum := "eacfeb293023ce7c6752e04d58241e1f1ed2d3cc51b00a6d139dac035bffc72a", func := "loop.example/jointjudgments/laws.FnExactMedianRule", spec := "fnExactMedianRule", unfollowed := true, recurses := true, apart := false, narrowed := true }
def FnExactMedianRuleUptoSaid : Prop := fnExactMedianRuleUptoRow.holds Try.pinned (OpenSpec.upto fnExactMedianRuleSpec)

/-- 'laws.FnExactMiddleRule', WHERE WHAT IT READS IS OF BULK AT MOST 1048576: true; the input reads as it did. -/
def fnExactMiddleRuleUptoRow : OpenClaim := { program := "ytcophcjkhdipbaa", sum := "eacfeb293023ce7c6752e04d58241e1f1ed2d3cc51b00a6d139dac035bffc72a", func := "loop.example/jointjudgments/laws.FnExactMiddleRule", spec := "fnExactMiddleRule", unfollowed := true, recurses := true, apart := false, narrowed := true }
def FnExactMiddleRuleUptoSaid : Prop := fnExactMiddleRuleUptoRow.holds Try.pinned (OpenSpec.upto fnExactMiddleRuleSpec)

/-- 'laws.FnExactKeptRule', WHERE WHAT IT READS IS OF BULK AT MOST 1048576: true; the input reads as it did. -/
def fnExactKeptRuleUptoRow : OpenClaim := { program := "ytcophcjkhdipbaa", sum := "eacfeb293023ce7c6752e04d58241e1f1ed2d3cc51b00a6d139dac035bffc72a", func := "loop.example/jointjudgments/laws.FnExactKeptRule", spec := "fnExactKeptRule", unfollowed := true, recurses := true, apart := false, narrowed := true }
def FnExactKeptRuleUptoSaid : Prop := fnExactKeptRuleUptoRow.holds Try.pinned (OpenSpec.upto fnExactKeptRuleSpec)

/-- 'laws.FnExactSlaterRule', WHERE WHAT IT READS IS OF BULK AT MOST 1048576: true; the input reads as it did. -/
def fnExactSlaterRuleUptoRow : OpenClaim := { program := "ytcophcjkhdipbaa", sum := "eacfeb293023ce7c6752e04d58241e1f1ed2d3cc51b00a6d139dac035bffc72a", func := "loop.example/jointjudgments/laws.FnExactSlaterRule", spec := "fnExactSlaterRule", unfollowed := true, recurses := true, apart := false, narrowed := true }
def FnExactSlaterRuleUptoSaid : Prop := fnExactSlaterRuleUptoRow.holds Try.pinned (OpenSpec.upto fnExactSlaterRuleSpec)

/-- 'laws.FnMedianRule', WHERE WHAT IT READS IS OF BULK AT MOST 1048576: true; the input reads as it did. -/
def fnMedianRuleUptoRow : OpenClaim := { program := "ytcophcjkhdipbaa", sum := "eacfeb293023ce7c6752e04d58241e1f1ed2d3cc51b00a6d139dac035bffc72a", func := "loop.example/jointjudgments/laws.FnMedianRule", spec := "fnMedianRule", unfollowed := true, recurses := true, apart := false, narrowed := true }
def FnMedianRuleUptoSaid : Prop := fnMedianRuleUptoRow.holds Try.pinned (OpenSpec.upto fnMedianRuleSpec)

/-- 'laws.FnMiddleRule', WHERE WHAT IT READS IS OF BULK AT MOST 1048576: true; the input reads as it did. -/
def fnMiddleRuleUptoRow : OpenClaim := { program := "ytcophcjkhdipbaa", sum := "eacfeb293023ce7c6752e04d58241e1f1ed2d3cc51b00a6d139dac035bffc72a", func := "loop.example/jointjudgments/laws.FnMiddleRule", spec := "fnMiddleRule", unfollowed := true, recurses := true, apart := false, narrowed := true }
def FnMiddleRuleUptoSaid : Prop := fnMiddleRuleUptoRow.holds Try.pinned (OpenSpec.upto fnMiddleRuleSpec)

/-- 'laws.FnIsSettled', WHERE WHAT IT READS IS OF BULK AT MOST 1048576: true; the input reads as it did. -/
def fnIsSettledUptoRow : OpenClaim := { program := "ytcophcjkhdipbaa", sum := "eacfeb293023ce7c6752e04d58241e1f1ed2d3cc51b00a6d139dac035bffc72a", func := "loop.example/jointjudgments/laws.FnIsSettled", spec := "fnIsSettled", unfollowed := true, recurses := true, apart := false, narrowed := true }
def FnIsSettledUptoSaid : Prop := fnIsSettledUptoRow.holds Try.pinned (OpenSpec.upto fnIsSettledSpec)

/-- 'laws.FnSlaterRule', WHERE WHAT IT READS IS OF BULK AT MOST 1048576: true; the input reads as it did. -/
def fnSlaterRuleUptoRow : OpenClaim := { program := "ytcophcjkhdipbaa", sum := "eacfeb293023ce7c6752e04d58241e1f1ed2d3cc51b00a6d139dac035bffc72a", func := "loop.example/jointjudgments/laws.FnSlaterRule", spec := "fnSlaterRule", unfollowed := true, recurses := true, apart := false, narrowed := true }
def FnSlaterRuleUptoSaid : Prop := fnSlaterRuleUptoRow.holds Try.pinned (OpenSpec.upto fnSlaterRuleSpec)

end Rows
end Go.Proofs.Ytcophcjkhdipbaa
