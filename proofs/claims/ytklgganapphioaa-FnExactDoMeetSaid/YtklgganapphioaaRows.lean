/-
  No cell of these rows narrows 'for every input' (looked for: loops, veiled, ifaces, maps, wideKeys, modest, calm, conditions, laid).
  DERIVED. THE GIVEN ROWS OF THIS SEAT. 12 by the template 'for every input the law returns true; each argument reads behind the call as it read before'; 0 by the template 'total and deterministic' (their statements: YtklgganapphioaaTotals.lean).
  GIVEN WITH THE SEED: the statements are not yours to turn. If you find one false, say at which input.
  Laid BY PROGRAM, IN A SANDBOX (cutbox-rows.mjs): the forced cells as the released guide's own fill.sh prints them over the translation 36e63bd67bb1a210… (all of the seat's roots in one cut). By AI agents, Wed Nov 11 2026. No macro, syntax, notation, axiom, sorry.
-/
import Derived.Test.YtklgganapphioaaChecked
import GoSem.Claim
import GoSem.ClaimJoined
import GoSem.ClaimMapViews
import Derived.JoinedTies
import Derived.KernelRfl
namespace Go.Proofs.Ytklgganapphioaa
/- THE CELL 'sum', in the pinned program and in every row, IS THE sha256 OF THE DUMP (.gsa) THAT YtklgganapphioaaProg.lean LOADS. Nothing in Lean hashes anything: it is a label: what it is worth is what the hold of that sum in a sandbox is worth. -/
noncomputable def Try.pinned : Pinned := { name := "ytklgganapphioaa", sum := "36e63bd67bb1a2108b62f0850bc43bf6bfb10b8458c3e88ab1546ff5da6a1a48", checked := Try.checked }
namespace Rows
def none {H : Type} : Left H := { results := [], args := [] }

/-- 'laws.FnExactCriticalParts': WHATEVER THE INPUT: true; the input reads as it did. -/
def fnExactCriticalPartsSpec : ChangeSpec := { name := "fnExactCriticalParts", fn := fun _ => fun
  | [d] => { results := [.lit (.bool true)], args := [d] }
  | _ => none }
def fnExactCriticalPartsRow : OpenClaim := { program := "ytklgganapphioaa", sum := "36e63bd67bb1a2108b62f0850bc43bf6bfb10b8458c3e88ab1546ff5da6a1a48", func := "loop.example/jointjudgments/laws.FnExactCriticalParts", spec := "fnExactCriticalParts", unfollowed := true, recurses := true, plainKeys := false, apart := false }
def FnExactCriticalPartsSaid : Prop := fnExactCriticalPartsRow.holds Try.pinned (OpenSpec.ofChange fnExactCriticalPartsSpec)

/-- ITS FALSE NEIGHBOUR: 'it returns false'. Refute it at one input. -/
def fnExactCriticalPartsWrong : ChangeSpec := { name := "fnExactCriticalParts", fn := fun _ => fun
  | [d] => { results := [.lit (.bool false)], args := [d] }
  | _ => none }
def FnExactCriticalPartsWrongFalsely : Prop := fnExactCriticalPartsRow.holds Try.pinned (OpenSpec.ofChange fnExactCriticalPartsWrong)

/-- 'laws.FnExactLeadsOf': WHATEVER THE INPUT: true; the input reads as it did. -/
def fnExactLeadsOfSpec : ChangeSpec := { name := "fnExactLeadsOf", fn := fun _ => fun
  | [d] => { results := [.lit (.bool true)], args := [d] }
  | _ => none }
def fnExactLeadsOfRow : OpenClaim := { program := "ytklgganapphioaa", sum := "36e63bd67bb1a2108b62f0850bc43bf6bfb10b8458c3e88ab1546ff5da6a1a48", func := "loop.example/jointjudgments/laws.FnExactLeadsOf", spec := "fnExactLeadsOf", unfollowed := true, recurses := true, plainKeys := false, apart := false }
def FnExactLeadsOfSaid : Prop := fnExactLeadsOfRow.holds Try.pinned (OpenSpec.ofChange fnExactLeadsOfSpec)

/-- ITS FALSE NEIGHBOUR: 'it returns false'. Refute it at one input. -/
def fnExactLeadsOfWrong : ChangeSpec := { name := "fnExactLeadsOf", fn := fun _ => fun
  | [d] => { results := [.lit (.bool false)], args := [d] }
  | _ => none }
def FnExactLeadsOfWrongFalsely : Prop := fnExactLeadsOfRow.holds Try.pinned (OpenSpec.ofChange fnExactLeadsOfWrong)

/-- 'laws.FnExactIsBlocked': WHATEVER THE INPUT: true; the input reads as it did. -/
def fnExactIsBlockedSpec : ChangeSpec := { name := "fnExactIsBlocked", fn := fun _ => fun
  | [d] => { results := [.lit (.bool true)], args := [d] }
  | _ => none }
def fnExactIsBlockedRow : OpenClaim := { program := "ytklgganapphioaa", sum := "36e63bd67bb1a2108b62f0850bc43bf6bfb10b8458c3e88ab1546ff5da6a1a48", func := "loop.example/jointjudgments/laws.FnExactIsBlocked", spec := "fnExactIsBlocked", unfollowed := true, recurses := true, plainKeys := false, apart := false }
def FnExactIsBlockedSaid : Prop := fnExactIsBlockedRow.holds Try.pinned (OpenSpec.ofChange fnExactIsBlockedSpec)

/-- ITS FALSE NEIGHBOUR: 'it returns false'. Refute it at one input. -/
def fnExactIsBlockedWrong : ChangeSpec := { name := "fnExactIsBlocked", fn := fun _ => fun
  | [d] => { results := [.lit (.bool false)], args := [d] }
  | _ => none }
def FnExactIsBlockedWrongFalsely : Prop := fnExactIsBlockedRow.holds Try.pinned (OpenSpec.ofChange fnExactIsBlockedWrong)

/-- 'laws.FnExactIsQuotaSafe': WHATEVER THE INPUT: true; the input reads as it did. -/
def fnExactIsQuotaSafeSpec : ChangeSpec := { name := "fnExactIsQuotaSafe", fn := fun _ => fun
  | [d1, d2, d3] => { results := [.lit (.bool true)], args := [d1, d2, d3] }
  | _ => none }
def fnExactIsQuotaSafeRow : OpenClaim := { program := "ytklgganapphioaa", sum := "36e63bd67bb1a2108b62f0850bc43bf6bfb10b8458c3e88ab1546ff5da6a1a48", func := "loop.example/jointjudgments/laws.FnExactIsQuotaSafe", spec := "fnExactIsQuotaSafe", unfollowed := true, recurses := true, plainKeys := false, apart := false }
def FnExactIsQuotaSafeSaid : Prop := fnExactIsQuotaSafeRow.holds Try.pinned (OpenSpec.ofChange fnExactIsQuotaSafeSpec)

/-- ITS FALSE NEIGHBOUR: 'it returns false'. Refute it at one input. -/
def fnExactIsQuotaSafeWrong : ChangeSpec := { name := "fnExactIsQuotaSafe", fn := fun _ => fun
  | [d1, d2, d3] => { results := [.lit (.bool false)], args := [d1, d2, d3] }
  | _ => none }
def FnExactIsQuotaSafeWrongFalsely : Prop := fnExactIsQuotaSafeRow.holds Try.pinned (OpenSpec.ofChange fnExactIsQuotaSafeWrong)

/-- 'laws.FnExactDoMeet': WHATEVER THE INPUT: true; the input reads as it did. -/
def fnExactDoMeetSpec : ChangeSpec := { name := "fnExactDoMeet", fn := fun _ => fun
  | [d1, d2] => { results := [.lit (.bool true)], args := [d1, d2] }
  | _ => none }
def fnExactDoMeetRow : OpenClaim := { program := "ytklgganapphioaa", sum := "36e63bd67bb1a2108b62f0850bc43bf6bfb10b8458c3e88ab1546ff5da6a1a48", func := "loop.example/jointjudgments/laws.FnExactDoMeet", spec := "fnExactDoMeet", unfollowed := true, recurses := true, plainKeys := false, apart := false }
def FnExactDoMeetSaid : Prop := fnExactDoMeetRow.holds Try.pinned (OpenSpec.ofChange fnExactDoMeetSpec)

/-- ITS FALSE NEIGHBOUR: 'it returns false'. Refute it at one input. -/
def fnExactDoMeetWrong : ChangeSpec := { name := "fnExactDoMeet", fn := fun _ => fun
  | [d1, d2] => { results := [.lit (.bool false)], args := [d1, d2] }
  | _ => none }
def FnExactDoMeetWrongFalsely : Prop := fnExactDoMeetRow.holds Try.pinned (OpenSpec.ofChange fnExactDoMeetWrong)

/-- 'laws.FnIsOpen': WHATEVER THE INPUT: true; the input reads as it did. -/
def fnIsOpenSpec : ChangeSpec := { name := "fnIsOpen", fn := fun _ => fun
  | [d] => { results := [.lit (.bool true)], args := [d] }
  | _ => none }
def fnIsOpenRow : OpenClaim := { program := "ytklgganapphioaa", sum := "36e63bd67bb1a2108b62f0850bc43bf6bfb10b8458c3e88ab1546ff5da6a1a48", func := "loop.example/jointjudgments/laws.FnIsOpen", spec := "fnIsOpen", unfollowed := true, recurses := true, plainKeys := false, apart := false }
def FnIsOpenSaid : Prop := fnIsOpenRow.holds Try.pinned (OpenSpec.ofChange fnIsOpenSpec)

/-- ITS FALSE NEIGHBOUR: 'it returns false'. Refute it at one input. -/
def fnIsOpenWrong : ChangeSpec := { name := "fnIsOpen", fn := fun _ => fun
  | [d] => { results := [.lit (.bool false)], args := [d] }
  | _ => none }
def FnIsOpenWrongFalsely : Prop := fnIsOpenRow.holds Try.pinned (OpenSpec.ofChange fnIsOpenWrong)

/-- 'laws.FnCriticalParts': WHATEVER THE INPUT: true; the input reads as it did. -/
def fnCriticalPartsSpec : ChangeSpec := { name := "fnCriticalParts", fn := fun _ => fun
  | [d] => { results := [.lit (.bool true)], args := [d] }
  | _ => none }
def fnCriticalPartsRow : OpenClaim := { program := "ytklgganapphioaa", sum := "36e63bd67bb1a2108b62f0850bc43bf6bfb10b8458c3e88ab1546ff5da6a1a48", func := "loop.example/jointjudgments/laws.FnCriticalParts", spec := "fnCriticalParts", unfollowed := true, recurses := true, plainKeys := false, apart := false }
def FnCriticalPartsSaid : Prop := fnCriticalPartsRow.holds Try.pinned (OpenSpec.ofChange fnCriticalPartsSpec)

/-- ITS FALSE NEIGHBOUR: 'it returns false'. Refute it at one input. -/
def fnCriticalPartsWrong : ChangeSpec := { name := "fnCriticalParts", fn := fun _ => fun
  | [d] => { results := [.lit (.bool false)], args := [d] }
  | _ => none }
def FnCriticalPartsWrongFalsely : Prop := fnCriticalPartsRow.holds Try.pinned (OpenSpec.ofChange fnCriticalPartsWrong)

/-- 'laws.FnIsMedian': WHATEVER THE INPUT: true; the input reads as it did. -/
def fnIsMedianSpec : ChangeSpec := { name := "fnIsMedian", fn := fun _ => fun
  | [d] => { results := [.lit (.bool true)], args := [d] }
  | _ => none }
def fnIsMedianRow : OpenClaim := { program := "ytklgganapphioaa", sum := "36e63bd67bb1a2108b62f0850bc43bf6bfb10b8458c3e88ab1546ff5da6a1a48", func := "loop.example/jointjudgments/laws.FnIsMedian", spec := "fnIsMedian", unfollowed := true, recurses := true, plainKeys := false, apart := false }
def FnIsMedianSaid : Prop := fnIsMedianRow.holds Try.pinned (OpenSpec.ofChange fnIsMedianSpec)

/-- ITS FALSE NEIGHBOUR: 'it returns false'. Refute it at one input. -/
def fnIsMedianWrong : ChangeSpec := { name := "fnIsMedian", fn := fun _ => fun
  | [d] => { results := [.lit (.bool false)], args := [d] }
  | _ => none }
def FnIsMedianWrongFalsely : Prop := fnIsMedianRow.holds Try.pinned (OpenSpec.ofChange fnIsMedianWrong)

/-- 'laws.FnLeadsOf': WHATEVER THE INPUT: true; the input reads as it did. -/
def fnLeadsOfSpec : ChangeSpec := { name := "fnLeadsOf", fn := fun _ => fun
  | [d] => { results := [.lit (.bool true)], args := [d] }
  | _ => none }
def fnLeadsOfRow : OpenClaim := { program := "ytklgganapphioaa", sum := "36e63bd67bb1a2108b62f0850bc43bf6bfb10b8458c3e88ab1546ff5da6a1a48", func := "loop.example/jointjudgments/laws.FnLeadsOf", spec := "fnLeadsOf", unfollowed := true, recurses := true, plainKeys := false, apart := false }
def FnLeadsOfSaid : Prop := fnLeadsOfRow.holds Try.pinned (OpenSpec.ofChange fnLeadsOfSpec)

/-- ITS FALSE NEIGHBOUR: 'it returns false'. Refute it at one input. -/
def fnLeadsOfWrong : ChangeSpec := { name := "fnLeadsOf", fn := fun _ => fun
  | [d] => { results := [.lit (.bool false)], args := [d] }
  | _ => none }
def FnLeadsOfWrongFalsely : Prop := fnLeadsOfRow.holds Try.pinned (OpenSpec.ofChange fnLeadsOfWrong)

/-- 'laws.FnIsSafe': WHATEVER THE INPUT: true; the input reads as it did. -/
def fnIsSafeSpec : ChangeSpec := { name := "fnIsSafe", fn := fun _ => fun
  | [d] => { results := [.lit (.bool true)], args := [d] }
  | _ => none }
def fnIsSafeRow : OpenClaim := { program := "ytklgganapphioaa", sum := "36e63bd67bb1a2108b62f0850bc43bf6bfb10b8458c3e88ab1546ff5da6a1a48", func := "loop.example/jointjudgments/laws.FnIsSafe", spec := "fnIsSafe", unfollowed := true, recurses := true, plainKeys := false, apart := false }
def FnIsSafeSaid : Prop := fnIsSafeRow.holds Try.pinned (OpenSpec.ofChange fnIsSafeSpec)

/-- ITS FALSE NEIGHBOUR: 'it returns false'. Refute it at one input. -/
def fnIsSafeWrong : ChangeSpec := { name := "fnIsSafe", fn := fun _ => fun
  | [d] => { results := [.lit (.bool false)], args := [d] }
  | _ => none }
def FnIsSafeWrongFalsely : Prop := fnIsSafeRow.holds Try.pinned (OpenSpec.ofChange fnIsSafeWrong)

/-- 'laws.FnDoMeet': WHATEVER THE INPUT: true; the input reads as it did. -/
def fnDoMeetSpec : ChangeSpec := { name := "fnDoMeet", fn := fun _ => fun
  | [d] => { results := [.lit (.bool true)], args := [d] }
  | _ => none }
def fnDoMeetRow : OpenClaim := { program := "ytklgganapphioaa", sum := "36e63bd67bb1a2108b62f0850bc43bf6bfb10b8458c3e88ab1546ff5da6a1a48", func := "loop.example/jointjudgments/laws.FnDoMeet", spec := "fnDoMeet", unfollowed := true, recurses := true, plainKeys := false, apart := false }
def FnDoMeetSaid : Prop := fnDoMeetRow.holds Try.pinned (OpenSpec.ofChange fnDoMeetSpec)

/-- ITS FALSE NEIGHBOUR: 'it returns false'. Refute it at one input. -/
def fnDoMeetWrong : ChangeSpec := { name := "fnDoMeet", fn := fun _ => fun
  | [d] => { results := [.lit (.bool false)], args := [d] }
  | _ => none }
def FnDoMeetWrongFalsely : Prop := fnDoMeetRow.holds Try.pinned (OpenSpec.ofChange fnDoMeetWrong)

/-- 'laws.FnMedianClosure': WHATEVER THE INPUT: true; the input reads as it did. -/
def fnMedianClosureSpec : ChangeSpec := { name := "fnMedianClosure", fn := fun _ => fun
  | [d] => { results := [.lit (.bool true)], args := [d] }
  | _ => none }
def fnMedianClosureRow : OpenClaim := { program := "ytklgganapphioaa", sum := "36e63bd67bb1a2108b62f0850bc43bf6bfb10b8458c3e88ab1546ff5da6a1a48", func := "loop.example/jointjudgments/laws.FnMedianClosure", spec := "fnMedianClosure", unfollowed := true, recurses := true, plainKeys := false, apart := false }
def FnMedianClosureSaid : Prop := fnMedianClosureRow.holds Try.pinned (OpenSpec.ofChange fnMedianClosureSpec)

/-- ITS FALSE NEIGHBOUR: 'it returns false'. Refute it at one input. -/
def fnMedianClosureWrong : ChangeSpec := { name := "fnMedianClosure", fn := fun _ => fun
  | [d] => { results := [.lit (.bool false)], args := [d] }
  | _ => none }
def FnMedianClosureWrongFalsely : Prop := fnMedianClosureRow.holds Try.pinned (OpenSpec.ofChange fnMedianClosureWrong)

/- THE SECOND FORM. 'bulk': how many values and letters a reading holds, each counted each time it is reached (what is shared counts as often as it is met; a slice's spare places count too). A statement '..UptoSaid' is the law's where the arguments, and the package variables that the reading takes, are together of bulk at most 1048576: NARROWER than '..Said'. Prove '..Said' where nothing that the law and all that it calls make is longer than what came in: it says more and counts as full. Else prove '..UptoSaid'. A law counts once. -/
mutual
def uptoBulk {H : Type} : DataW H → Nat
  | .lit (.string bytes) => bytes.length + 1
  | .lit _ => 1
  | .nil => 1
  | .ptr d => uptoBulk d + 1
  | .slice elems spare => uptoBulkAll elems + uptoBulkAll spare + 1
  | .agg parts => uptoBulkAll parts + 1
  | .iface _ d => uptoBulk d + 1
  | .map entries => uptoBulkEntries entries + 1
  | .held _ => 1
def uptoBulkAll {H : Type} : List (DataW H) → Nat
  | [] => 0
  | d :: r => uptoBulk d + uptoBulkAll r
def uptoBulkEntries {H : Type} : List (Lit × DataW H) → Nat
  | [] => 0
  | x :: r => uptoBulkEntry x + uptoBulkEntries r
def uptoBulkEntry {H : Type} : Lit × DataW H → Nat
  | (.string bytes, d) => bytes.length + uptoBulk d + 1
  | (_, d) => uptoBulk d + 1
 end
def uptoSmall : (H : Type) → List (DataW H) → Bool := fun _ ds => decide (uptoBulkAll ds ≤ 1048576)
def OpenSpec.upto (s : _root_.Go.ChangeSpec) : _root_.Go.OpenSpec := { _root_.Go.OpenSpec.ofChange s with cond := some uptoSmall }

/-- 'laws.FnExactCriticalParts', WHERE WHAT IT READS IS OF BULK AT MOST 1048576: true; the input reads as it did. -/
def fnExactCriticalPartsUptoRow : OpenClaim := { program := "ytklgganapphioaa", sum := "36e63bd67bb1a2108b62f0850bc43bf6bfb10b8458c3e88ab1546ff5da6a1a48", func := "loop.example/jointjudgments/laws.FnExactCriticalParts", spec := "fnExactCriticalParts", unfollowed := true, recurses := true, plainKeys := false, apart := false, narrowed := true }
def FnExactCriticalPartsUptoSaid : Prop := fnExactCriticalPartsUptoRow.holds Try.pinned (OpenSpec.upto fnExactCriticalPartsSpec)

/-- 'laws.FnExactLeadsOf', WHERE WHAT IT READS IS OF BULK AT MOST 1048576: true; the input reads as it did. -/
def fnExactLeadsOfUptoRow : OpenClaim := { program := "ytklgganapphioaa", sum := "36e63bd67bb1a2108b62f0850bc43bf6bfb10b8458c3e88ab1546ff5da6a1a48", func := "loop.example/jointjudgments/laws.FnExactLeadsOf", spec := "fnExactLeadsOf", unfollowed := true, recurses := true, plainKeys := false, apart := false, narrowed := true }
def FnExactLeadsOfUptoSaid : Prop := fnExactLeadsOfUptoRow.holds Try.pinned (OpenSpec.upto fnExactLeadsOfSpec)

/-- 'laws.FnExactIsBlocked', WHERE WHAT IT READS IS OF BULK AT MOST 1048576: true; the input reads as it did. -/
def fnExactIsBlockedUptoRow : OpenClaim := { program := "ytklgganapphioaa", sum := "36e63bd67bb1a2108b62f0850bc43bf6bfb10b8458c3e88ab1546ff5da6a1a48", func := "loop.example/jointjudgments/laws.FnExactIsBlocked", spec := "fnExactIsBlocked", unfollowed := true, recurses := true, plainKeys := false, apart := false, narrowed := true }
def FnExactIsBlockedUptoSaid : Prop := fnExactIsBlockedUptoRow.holds Try.pinned (OpenSpec.upto fnExactIsBlockedSpec)

/-- 'laws.FnExactIsQuotaSafe', WHERE WHAT IT READS IS OF BULK AT MOST 1048576: true; the input reads as it did. -/
def fnExactIsQuotaSafeUptoRow : OpenClaim := { program := "ytklgganapphioaa", sum := "36e63bd67bb1a2108b62f0850bc43bf6bfb10b8458c3e88ab1546ff5da6a1a48", func := "loop.example/jointjudgments/laws.FnExactIsQuotaSafe", spec := "fnExactIsQuotaSafe", unfollowed := true, recurses := true, plainKeys := false, apart := false, narrowed := true }
def FnExactIsQuotaSafeUptoSaid : Prop := fnExactIsQuotaSafeUptoRow.holds Try.pinned (OpenSpec.upto fnExactIsQuotaSafeSpec)

/-- 'laws.FnExactDoMeet', WHERE WHAT IT READS IS OF BULK AT MOST 1048576: true; the input reads as it did. -/
def fnExactDoMeetUptoRow : OpenClaim := { program := "ytklgganapphioaa", sum := "36e63bd67bb1a2108b62f0850bc43bf6bfb10b8458c3e88ab1546ff5da6a1a48", func := "loop.example/jointjudgments/laws.FnExactDoMeet", spec := "fnExactDoMeet", unfollowed := true, recurses := true, plainKeys := false, apart := false, narrowed := true }
def FnExactDoMeetUptoSaid : Prop := fnExactDoMeetUptoRow.holds Try.pinned (OpenSpec.upto fnExactDoMeetSpec)

/-- 'laws.FnIsOpen', WHERE WHAT IT READS IS OF BULK AT MOST 1048576: true; the input reads as it did. -/
def fnIsOpenUptoRow : OpenClaim := { program := "ytklgganapphioaa", sum := "36e63bd67bb1a2108b62f0850bc43bf6bfb10b8458c3e88ab1546ff5da6a1a48", func := "loop.example/jointjudgments/laws.FnIsOpen", spec := "fnIsOpen", unfollowed := true, recurses := true, plainKeys := false, apart := false, narrowed := true }
def FnIsOpenUptoSaid : Prop := fnIsOpenUptoRow.holds Try.pinned (OpenSpec.upto fnIsOpenSpec)

/-- 'laws.FnCriticalParts', WHERE WHAT IT READS IS OF BULK AT MOST 1048576: true; the input reads as it did. -/
def fnCriticalPartsUptoRow : OpenClaim := { program := "ytklgganapphioaa", sum := "36e63bd67bb1a2108b62f0850bc43bf6bfb10b8458c3e88ab1546ff5da6a1a48", func := "loop.example/jointjudgments/laws.FnCriticalParts", spec := "fnCriticalParts", unfollowed := true, recurses := true, plainKeys := false, apart := false, narrowed := true }
def FnCriticalPartsUptoSaid : Prop := fnCriticalPartsUptoRow.holds Try.pinned (OpenSpec.upto fnCriticalPartsSpec)

/-- 'laws.FnIsMedian', WHERE WHAT IT READS IS OF BULK AT MOST 1048576: true; the input reads as it did. -/
def fnIsMedianUptoRow : OpenClaim := { program := "ytklgganapphioaa", sum := "36e63bd67bb1a2108b62f0850bc43bf6bfb10b8458c3e88ab1546ff5da6a1a48", func := "loop.example/jointjudgments/laws.FnIsMedian", spec := "fnIsMedian", unfollowed := true, recurses := true, plainKeys := false, apart := false, narrowed := true }
def FnIsMedianUptoSaid : Prop := fnIsMedianUptoRow.holds Try.pinned (OpenSpec.upto fnIsMedianSpec)

/-- 'laws.FnLeadsOf', WHERE WHAT IT READS IS OF BULK AT MOST 1048576: true; the input reads as it did. -/
def fnLeadsOfUptoRow : OpenClaim := { program := "ytklgganapphioaa", sum := "36e63bd67bb1a2108b62f0850bc43bf6bfb10b8458c3e88ab1546ff5da6a1a48", func := "loop.example/jointjudgments/laws.FnLeadsOf", spec := "fnLeadsOf", unfollowed := true, recurses := true, plainKeys := false, apart := false, narrowed := true }
def FnLeadsOfUptoSaid : Prop := fnLeadsOfUptoRow.holds Try.pinned (OpenSpec.upto fnLeadsOfSpec)

/-- 'laws.FnIsSafe', WHERE WHAT IT READS IS OF BULK AT MOST 1048576: true; the input reads as it did. -/
def fnIsSafeUptoRow : OpenClaim := { program := "ytklgganapphioaa", sum := "36e63bd67bb1a2108b62f0850bc43bf6bfb10b8458c3e88ab1546ff5da6a1a48", func := "loop.example/jointjudgments/laws.FnIsSafe", spec := "fnIsSafe", unfollowed := true, recurses := true, plainKeys := false, apart := false, narrowed := true }
def FnIsSafeUptoSaid : Prop := fnIsSafeUptoRow.holds Try.pinned (OpenSpec.upto fnIsSafeSpec)

/-- 'laws.FnDoMeet', WHERE WHAT IT READS IS OF BULK AT MOST 1048576: true; the input reads as it did. -/
def fnDoMeetUptoRow : OpenClaim := { program := "ytklgganapphioaa", sum := "36e63bd67bb1a2108b62f0850bc43bf6bfb10b8458c3e88ab1546ff5da6a1a48", func := "loop.example/jointjudgments/laws.FnDoMeet", spec := "fnDoMeet", unfollowed := true, recurses := true, plainKeys := false, apart := false, narrowed := true }
def FnDoMeetUptoSaid : Prop := fnDoMeetUptoRow.holds Try.pinned (OpenSpec.upto fnDoMeetSpec)

/-- 'laws.FnMedianClosure', WHERE WHAT IT READS IS OF BULK AT MOST 1048576: true; the input reads as it did. -/
def fnMedianClosureUptoRow : OpenClaim := { program := "ytklgganapphioaa", sum := "36e63bd67bb1a2108b62f0850bc43bf6bfb10b8458c3e88ab1546ff5da6a1a48", func := "loop.example/jointjudgments/laws.FnMedianClosure", spec := "fnMedianClosure", unfollowed := true, recurses := true, plainKeys := false, apart := false, narrowed := true }
def FnMedianClosureUptoSaid : Prop := fnMedianClosureUptoRow.holds Try.pinned (OpenSpec.upto fnMedianClosureSpec)

end Rows
end Go.Proofs.Ytklgganapphioaa
