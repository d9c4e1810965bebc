/-
  No cell of these rows narrows 'for every input' (looked for: loops, veiled, ifaces, maps, wideKeys, modest, calm, conditions, laid).
  DERIVED. THE GIVEN ROWS OF THIS SEAT. 12 by the template 'for every input the law returns true; each argument reads behind the call as it read before'; 0 by the template 'total and deterministic' (their statements: YtdcipaioobkekaaTotals.lean).
  GIVEN WITH THE SEED: the statements are not yours to turn. If you find one false, say at which input.
  Laid BY PROGRAM, IN A SANDBOX (cutbox-rows.mjs): the forced cells as the released guide's own fill.sh prints them over the translation 6d8650124671d35f… (all of the seat's roots in one cut). By AI agents, Wed Nov 11 2026. No macro, syntax, notation, axiom, sorry.
-/
import Derived.Test.YtdcipaioobkekaaChecked
import GoSem.Claim
import GoSem.ClaimJoined
import GoSem.ClaimMapViews
import Derived.JoinedTies
import Derived.KernelRfl
namespace Go.Proofs.Ytdcipaioobkekaa
/- THE CELL 'sum', in the pinned program and in every row, IS THE sha256 OF THE DUMP (.gsa) THAT YtdcipaioobkekaaProg.lean LOADS. Nothing in Lean hashes anything: it is a label: what it is worth is what the hold of that sum in a sandbox is worth. -/
noncomputable def Try.pinned : Pinned := { name := "ytdcipaioobkekaa", sum := "6d8650124671d35fd8270238e708b3a2e52dddc590f58ded641edccdc0100a6c", checked := Try.checked }
namespace Rows
def none {H : Type} : Left H := { results := [], args := [] }

/-- 'laws.FnExactValidSpace': WHATEVER THE INPUT: true; the input reads as it did. -/
def fnExactValidSpaceSpec : ChangeSpec := { name := "fnExactValidSpace", fn := fun _ => fun
  | [d] => { results := [.lit (.bool true)], args := [d] }
  | _ => none }
def fnExactValidSpaceRow : OpenClaim := { program := "ytdcipaioobkekaa", sum := "6d8650124671d35fd8270238e708b3a2e52dddc590f58ded641edccdc0100a6c", func := "loop.example/jointjudgments/laws.FnExactValidSpace", spec := "fnExactValidSpace", apart := false }
def FnExactValidSpaceSaid : Prop := fnExactValidSpaceRow.holds Try.pinned (OpenSpec.ofChange fnExactValidSpaceSpec)

/-- ITS FALSE NEIGHBOUR: 'it returns false'. Refute it at one input. -/
def fnExactValidSpaceWrong : ChangeSpec := { name := "fnExactValidSpace", fn := fun _ => fun
  | [d] => { results := [.lit (.bool false)], args := [d] }
  | _ => none }
def FnExactValidSpaceWrongFalsely : Prop := fnExactValidSpaceRow.holds Try.pinned (OpenSpec.ofChange fnExactValidSpaceWrong)

/-- 'laws.FnExactInSpace': WHATEVER THE INPUT: true; the input reads as it did. -/
def fnExactInSpaceSpec : ChangeSpec := { name := "fnExactInSpace", fn := fun _ => fun
  | [d1, d2] => { results := [.lit (.bool true)], args := [d1, d2] }
  | _ => none }
def fnExactInSpaceRow : OpenClaim := { program := "ytdcipaioobkekaa", sum := "6d8650124671d35fd8270238e708b3a2e52dddc590f58ded641edccdc0100a6c", func := "loop.example/jointjudgments/laws.FnExactInSpace", spec := "fnExactInSpace", apart := false }
def FnExactInSpaceSaid : Prop := fnExactInSpaceRow.holds Try.pinned (OpenSpec.ofChange fnExactInSpaceSpec)

/-- ITS FALSE NEIGHBOUR: 'it returns false'. Refute it at one input. -/
def fnExactInSpaceWrong : ChangeSpec := { name := "fnExactInSpace", fn := fun _ => fun
  | [d1, d2] => { results := [.lit (.bool false)], args := [d1, d2] }
  | _ => none }
def FnExactInSpaceWrongFalsely : Prop := fnExactInSpaceRow.holds Try.pinned (OpenSpec.ofChange fnExactInSpaceWrong)

/-- 'laws.FnExactValidPart': WHATEVER THE INPUT: true; the input reads as it did. -/
def fnExactValidPartSpec : ChangeSpec := { name := "fnExactValidPart", fn := fun _ => fun
  | [d1, d2] => { results := [.lit (.bool true)], args := [d1, d2] }
  | _ => none }
def fnExactValidPartRow : OpenClaim := { program := "ytdcipaioobkekaa", sum := "6d8650124671d35fd8270238e708b3a2e52dddc590f58ded641edccdc0100a6c", func := "loop.example/jointjudgments/laws.FnExactValidPart", spec := "fnExactValidPart", apart := false }
def FnExactValidPartSaid : Prop := fnExactValidPartRow.holds Try.pinned (OpenSpec.ofChange fnExactValidPartSpec)

/-- ITS FALSE NEIGHBOUR: 'it returns false'. Refute it at one input. -/
def fnExactValidPartWrong : ChangeSpec := { name := "fnExactValidPart", fn := fun _ => fun
  | [d1, d2] => { results := [.lit (.bool false)], args := [d1, d2] }
  | _ => none }
def FnExactValidPartWrongFalsely : Prop := fnExactValidPartRow.holds Try.pinned (OpenSpec.ofChange fnExactValidPartWrong)

/-- 'laws.FnExactIsOpen': WHATEVER THE INPUT: true; the input reads as it did. -/
def fnExactIsOpenSpec : ChangeSpec := { name := "fnExactIsOpen", fn := fun _ => fun
  | [d1, d2] => { results := [.lit (.bool true)], args := [d1, d2] }
  | _ => none }
def fnExactIsOpenRow : OpenClaim := { program := "ytdcipaioobkekaa", sum := "6d8650124671d35fd8270238e708b3a2e52dddc590f58ded641edccdc0100a6c", func := "loop.example/jointjudgments/laws.FnExactIsOpen", spec := "fnExactIsOpen", unfollowed := true, recurses := true, apart := false }
def FnExactIsOpenSaid : Prop := fnExactIsOpenRow.holds Try.pinned (OpenSpec.ofChange fnExactIsOpenSpec)

/-- ITS FALSE NEIGHBOUR: 'it returns false'. Refute it at one input. -/
def fnExactIsOpenWrong : ChangeSpec := { name := "fnExactIsOpen", fn := fun _ => fun
  | [d1, d2] => { results := [.lit (.bool false)], args := [d1, d2] }
  | _ => none }
def FnExactIsOpenWrongFalsely : Prop := fnExactIsOpenRow.holds Try.pinned (OpenSpec.ofChange fnExactIsOpenWrong)

/-- 'laws.FnExactGapOf': WHATEVER THE INPUT: true; the input reads as it did. -/
def fnExactGapOfSpec : ChangeSpec := { name := "fnExactGapOf", fn := fun _ => fun
  | [d1, d2] => { results := [.lit (.bool true)], args := [d1, d2] }
  | _ => none }
def fnExactGapOfRow : OpenClaim := { program := "ytdcipaioobkekaa", sum := "6d8650124671d35fd8270238e708b3a2e52dddc590f58ded641edccdc0100a6c", func := "loop.example/jointjudgments/laws.FnExactGapOf", spec := "fnExactGapOf", apart := false }
def FnExactGapOfSaid : Prop := fnExactGapOfRow.holds Try.pinned (OpenSpec.ofChange fnExactGapOfSpec)

/-- ITS FALSE NEIGHBOUR: 'it returns false'. Refute it at one input. -/
def fnExactGapOfWrong : ChangeSpec := { name := "fnExactGapOf", fn := fun _ => fun
  | [d1, d2] => { results := [.lit (.bool false)], args := [d1, d2] }
  | _ => none }
def FnExactGapOfWrongFalsely : Prop := fnExactGapOfRow.holds Try.pinned (OpenSpec.ofChange fnExactGapOfWrong)

/-- 'laws.FnExactHullOf': WHATEVER THE INPUT: true; the input reads as it did. -/
def fnExactHullOfSpec : ChangeSpec := { name := "fnExactHullOf", fn := fun _ => fun
  | [d1, d2] => { results := [.lit (.bool true)], args := [d1, d2] }
  | _ => none }
def fnExactHullOfRow : OpenClaim := { program := "ytdcipaioobkekaa", sum := "6d8650124671d35fd8270238e708b3a2e52dddc590f58ded641edccdc0100a6c", func := "loop.example/jointjudgments/laws.FnExactHullOf", spec := "fnExactHullOf", unfollowed := true, recurses := true, apart := false }
def FnExactHullOfSaid : Prop := fnExactHullOfRow.holds Try.pinned (OpenSpec.ofChange fnExactHullOfSpec)

/-- ITS FALSE NEIGHBOUR: 'it returns false'. Refute it at one input. -/
def fnExactHullOfWrong : ChangeSpec := { name := "fnExactHullOf", fn := fun _ => fun
  | [d1, d2] => { results := [.lit (.bool false)], args := [d1, d2] }
  | _ => none }
def FnExactHullOfWrongFalsely : Prop := fnExactHullOfRow.holds Try.pinned (OpenSpec.ofChange fnExactHullOfWrong)

/-- 'laws.FnExactBetweenOf': WHATEVER THE INPUT: true; the input reads as it did. -/
def fnExactBetweenOfSpec : ChangeSpec := { name := "fnExactBetweenOf", fn := fun _ => fun
  | [d1, d2, d3] => { results := [.lit (.bool true)], args := [d1, d2, d3] }
  | _ => none }
def fnExactBetweenOfRow : OpenClaim := { program := "ytdcipaioobkekaa", sum := "6d8650124671d35fd8270238e708b3a2e52dddc590f58ded641edccdc0100a6c", func := "loop.example/jointjudgments/laws.FnExactBetweenOf", spec := "fnExactBetweenOf", unfollowed := true, recurses := true, apart := false }
def FnExactBetweenOfSaid : Prop := fnExactBetweenOfRow.holds Try.pinned (OpenSpec.ofChange fnExactBetweenOfSpec)

/-- ITS FALSE NEIGHBOUR: 'it returns false'. Refute it at one input. -/
def fnExactBetweenOfWrong : ChangeSpec := { name := "fnExactBetweenOf", fn := fun _ => fun
  | [d1, d2, d3] => { results := [.lit (.bool false)], args := [d1, d2, d3] }
  | _ => none }
def FnExactBetweenOfWrongFalsely : Prop := fnExactBetweenOfRow.holds Try.pinned (OpenSpec.ofChange fnExactBetweenOfWrong)

/-- 'laws.FnExactNearestTo': WHATEVER THE INPUT: true; the input reads as it did. -/
def fnExactNearestToSpec : ChangeSpec := { name := "fnExactNearestTo", fn := fun _ => fun
  | [d1, d2] => { results := [.lit (.bool true)], args := [d1, d2] }
  | _ => none }
def fnExactNearestToRow : OpenClaim := { program := "ytdcipaioobkekaa", sum := "6d8650124671d35fd8270238e708b3a2e52dddc590f58ded641edccdc0100a6c", func := "loop.example/jointjudgments/laws.FnExactNearestTo", spec := "fnExactNearestTo", unfollowed := true, recurses := true, apart := false }
def FnExactNearestToSaid : Prop := fnExactNearestToRow.holds Try.pinned (OpenSpec.ofChange fnExactNearestToSpec)

/-- ITS FALSE NEIGHBOUR: 'it returns false'. Refute it at one input. -/
def fnExactNearestToWrong : ChangeSpec := { name := "fnExactNearestTo", fn := fun _ => fun
  | [d1, d2] => { results := [.lit (.bool false)], args := [d1, d2] }
  | _ => none }
def FnExactNearestToWrongFalsely : Prop := fnExactNearestToRow.holds Try.pinned (OpenSpec.ofChange fnExactNearestToWrong)

/-- 'laws.FnExactSpaceWithout': WHATEVER THE INPUT: true; the input reads as it did. -/
def fnExactSpaceWithoutSpec : ChangeSpec := { name := "fnExactSpaceWithout", fn := fun _ => fun
  | [d1, d2] => { results := [.lit (.bool true)], args := [d1, d2] }
  | _ => none }
def fnExactSpaceWithoutRow : OpenClaim := { program := "ytdcipaioobkekaa", sum := "6d8650124671d35fd8270238e708b3a2e52dddc590f58ded641edccdc0100a6c", func := "loop.example/jointjudgments/laws.FnExactSpaceWithout", spec := "fnExactSpaceWithout", unfollowed := true, recurses := true, apart := false }
def FnExactSpaceWithoutSaid : Prop := fnExactSpaceWithoutRow.holds Try.pinned (OpenSpec.ofChange fnExactSpaceWithoutSpec)

/-- ITS FALSE NEIGHBOUR: 'it returns false'. Refute it at one input. -/
def fnExactSpaceWithoutWrong : ChangeSpec := { name := "fnExactSpaceWithout", fn := fun _ => fun
  | [d1, d2] => { results := [.lit (.bool false)], args := [d1, d2] }
  | _ => none }
def FnExactSpaceWithoutWrongFalsely : Prop := fnExactSpaceWithoutRow.holds Try.pinned (OpenSpec.ofChange fnExactSpaceWithoutWrong)

/-- 'laws.FnExactIsMedian': WHATEVER THE INPUT: true; the input reads as it did. -/
def fnExactIsMedianSpec : ChangeSpec := { name := "fnExactIsMedian", fn := fun _ => fun
  | [d] => { results := [.lit (.bool true)], args := [d] }
  | _ => none }
def fnExactIsMedianRow : OpenClaim := { program := "ytdcipaioobkekaa", sum := "6d8650124671d35fd8270238e708b3a2e52dddc590f58ded641edccdc0100a6c", func := "loop.example/jointjudgments/laws.FnExactIsMedian", spec := "fnExactIsMedian", unfollowed := true, recurses := true, apart := false }
def FnExactIsMedianSaid : Prop := fnExactIsMedianRow.holds Try.pinned (OpenSpec.ofChange fnExactIsMedianSpec)

/-- ITS FALSE NEIGHBOUR: 'it returns false'. Refute it at one input. -/
def fnExactIsMedianWrong : ChangeSpec := { name := "fnExactIsMedian", fn := fun _ => fun
  | [d] => { results := [.lit (.bool false)], args := [d] }
  | _ => none }
def FnExactIsMedianWrongFalsely : Prop := fnExactIsMedianRow.holds Try.pinned (OpenSpec.ofChange fnExactIsMedianWrong)

/-- 'laws.FnExactIsEven': WHATEVER THE INPUT: true; the input reads as it did. -/
def fnExactIsEvenSpec : ChangeSpec := { name := "fnExactIsEven", fn := fun _ => fun
  | [d] => { results := [.lit (.bool true)], args := [d] }
  | _ => none }
def fnExactIsEvenRow : OpenClaim := { program := "ytdcipaioobkekaa", sum := "6d8650124671d35fd8270238e708b3a2e52dddc590f58ded641edccdc0100a6c", func := "loop.example/jointjudgments/laws.FnExactIsEven", spec := "fnExactIsEven", unfollowed := true, recurses := true, apart := false }
def FnExactIsEvenSaid : Prop := fnExactIsEvenRow.holds Try.pinned (OpenSpec.ofChange fnExactIsEvenSpec)

/-- ITS FALSE NEIGHBOUR: 'it returns false'. Refute it at one input. -/
def fnExactIsEvenWrong : ChangeSpec := { name := "fnExactIsEven", fn := fun _ => fun
  | [d] => { results := [.lit (.bool false)], args := [d] }
  | _ => none }
def FnExactIsEvenWrongFalsely : Prop := fnExactIsEvenRow.holds Try.pinned (OpenSpec.ofChange fnExactIsEvenWrong)

/-- 'laws.FnExactCrossSpaces': WHATEVER THE INPUT: true; the input reads as it did. -/
def fnExactCrossSpacesSpec : ChangeSpec := { name := "fnExactCrossSpaces", fn := fun _ => fun
  | [d1, d2] => { results := [.lit (.bool true)], args := [d1, d2] }
  | _ => none }
def fnExactCrossSpacesRow : OpenClaim := { program := "ytdcipaioobkekaa", sum := "6d8650124671d35fd8270238e708b3a2e52dddc590f58ded641edccdc0100a6c", func := "loop.example/jointjudgments/laws.FnExactCrossSpaces", spec := "fnExactCrossSpaces", apart := false }
def FnExactCrossSpacesSaid : Prop := fnExactCrossSpacesRow.holds Try.pinned (OpenSpec.ofChange fnExactCrossSpacesSpec)

/-- ITS FALSE NEIGHBOUR: 'it returns false'. Refute it at one input. -/
def fnExactCrossSpacesWrong : ChangeSpec := { name := "fnExactCrossSpaces", fn := fun _ => fun
  | [d1, d2] => { results := [.lit (.bool false)], args := [d1, d2] }
  | _ => none }
def FnExactCrossSpacesWrongFalsely : Prop := fnExactCrossSpacesRow.holds Try.pinned (OpenSpec.ofChange fnExactCrossSpacesWrong)

/- THE SECOND FORM. 'bulk': how many values and letters a reading holds, each counted each time it is reached (what is shared counts as often as it is met; a slice's spare places count too). A statement '..UptoSaid' is the law's where the arguments, and the package variables that the reading takes, are together of bulk at most 1048576: NARROWER than '..Said'. Prove '..Said' where nothing that the law and all that it calls make is longer than what came in: it says more and counts as full. Else prove '..UptoSaid'. A law counts once. -/
mutual
def uptoBulk {H : Type} : DataW H → Nat
  | .lit (.string bytes) => bytes.length + 1
  | .lit _ => 1
  | .nil => 1
  | .ptr d => uptoBulk d + 1
  | .slice elems spare => uptoBulkAll elems + uptoBulkAll spare + 1
  | .agg parts => uptoBulkAll parts + 1
  | .iface _ d => uptoBulk d + 1
  | .map entries => uptoBulkEntries entries + 1
  | .held _ => 1
def uptoBulkAll {H : Type} : List (DataW H) → Nat
  | [] => 0
  | d :: r => uptoBulk d + uptoBulkAll r
def uptoBulkEntries {H : Type} : List (Lit × DataW H) → Nat
  | [] => 0
  | x :: r => uptoBulkEntry x + uptoBulkEntries r
def uptoBulkEntry {H : Type} : Lit × DataW H → Nat
  | (.string bytes, d) => bytes.length + uptoBulk d + 1
  | (_, d) => uptoBulk d + 1
 end
def uptoSmall : (H : Type) → List (DataW H) → Bool := fun _ ds => decide (uptoBulkAll ds ≤ 1048576)
def OpenSpec.upto (s : _root_.Go.ChangeSpec) : _root_.Go.OpenSpec := { _root_.Go.OpenSpec.ofChange s with cond := some uptoSmall }

/-- 'laws.FnExactValidSpace', WHERE WHAT IT READS IS OF BULK AT MOST 1048576: true; the input reads as it did. -/
def fnExactValidSpaceUptoRow : OpenClaim := { program := "ytdcipaioobkekaa", sum := "6d8650124671d35fd8270238e708b3a2e52dddc590f58ded641edccdc0100a6c", func := "loop.example/jointjudgments/laws.FnExactValidSpace", spec := "fnExactValidSpace", apart := false, narrowed := true }
def FnExactValidSpaceUptoSaid : Prop := fnExactValidSpaceUptoRow.holds Try.pinned (OpenSpec.upto fnExactValidSpaceSpec)

/-- 'laws.FnExactInSpace', WHERE WHAT IT READS IS OF BULK AT MOST 1048576: true; the input reads as it did. -/
def fnExactInSpaceUptoRow : OpenClaim := { program := "ytdcipaioobkekaa", sum := "6d8650124671d35fd8270238e708b3a2e52dddc590f58ded641edccdc0100a6c", func := "loop.example/jointjudgments/laws.FnExactInSpace", spec := "fnExactInSpace", apart := false, narrowed := true }
def FnExactInSpaceUptoSaid : Prop := fnExactInSpaceUptoRow.holds Try.pinned (OpenSpec.upto fnExactInSpaceSpec)

/-- 'laws.FnExactValidPart', WHERE WHAT IT READS IS OF BULK AT MOST 1048576: true; the input reads as it did. -/
def fnExactValidPartUptoRow : OpenClaim := { program := "ytdcipaioobkekaa", sum := "6d8650124671d35fd8270238e708b3a2e52dddc590f58ded641edccdc0100a6c", func := "loop.example/jointjudgments/laws.FnExactValidPart", spec := "fnExactValidPart", apart := false, narrowed := true }
def FnExactValidPartUptoSaid : Prop := fnExactValidPartUptoRow.holds Try.pinned (OpenSpec.upto fnExactValidPartSpec)

/-- 'laws.FnExactIsOpen', WHERE WHAT IT READS IS OF BULK AT MOST 1048576: true; the input reads as it did. -/
def fnExactIsOpenUptoRow : OpenClaim := { program := "ytdcipaioobkekaa", sum := "6d8650124671d35fd8270238e708b3a2e52dddc590f58ded641edccdc0100a6c", func := "loop.example/jointjudgments/laws.FnExactIsOpen", spec := "fnExactIsOpen", unfollowed := true, recurses := true, apart := false, narrowed := true }
def FnExactIsOpenUptoSaid : Prop := fnExactIsOpenUptoRow.holds Try.pinned (OpenSpec.upto fnExactIsOpenSpec)

/-- 'laws.FnExactGapOf', WHERE WHAT IT READS IS OF BULK AT MOST 1048576: true; the input reads as it did. -/
def fnExactGapOfUptoRow : OpenClaim := { program := "ytdcipaioobkekaa", sum := "6d8650124671d35fd8270238e708b3a2e52dddc590f58ded641edccdc0100a6c", func := "loop.example/jointjudgments/laws.FnExactGapOf", spec := "fnExactGapOf", apart := false, narrowed := true }
def FnExactGapOfUptoSaid : Prop := fnExactGapOfUptoRow.holds Try.pinned (OpenSpec.upto fnExactGapOfSpec)

/-- 'laws.FnExactHullOf', WHERE WHAT IT READS IS OF BULK AT MOST 1048576: true; the input reads as it did. -/
def fnExactHullOfUptoRow : OpenClaim := { program := "ytdcipaioobkekaa", sum := "6d8650124671d35fd8270238e708b3a2e52dddc590f58ded641edccdc0100a6c", func := "loop.example/jointjudgments/laws.FnExactHullOf", spec := "fnExactHullOf", unfollowed := true, recurses := true, apart := false, narrowed := true }
def FnExactHullOfUptoSaid : Prop := fnExactHullOfUptoRow.holds Try.pinned (OpenSpec.upto fnExactHullOfSpec)

/-- 'laws.FnExactBetweenOf', WHERE WHAT IT READS IS OF BULK AT MOST 1048576: true; the input reads as it did. -/
def fnExactBetweenOfUptoRow : OpenClaim := { program := "ytdcipaioobkekaa", sum := "6d8650124671d35fd8270238e708b3a2e52dddc590f58ded641edccdc0100a6c", func := "loop.example/jointjudgments/laws.FnExactBetweenOf", spec := "fnExactBetweenOf", unfollowed := true, recurses := true, apart := false, narrowed := true }
def FnExactBetweenOfUptoSaid : Prop := fnExactBetweenOfUptoRow.holds Try.pinned (OpenSpec.upto fnExactBetweenOfSpec)

/-- 'laws.FnExactNearestTo', WHERE WHAT IT READS IS OF BULK AT MOST 1048576: true; the input reads as it did. -/
def fnExactNearestToUptoRow : OpenClaim := { program := "ytdcipaioobkekaa", sum := "6d8650124671d35fd8270238e708b3a2e52dddc590f58ded641edccdc0100a6c", func := "loop.example/jointjudgments/laws.FnExactNearestTo", spec := "fnExactNearestTo", unfollowed := true, recurses := true, apart := false, narrowed := true }
def FnExactNearestToUptoSaid : Prop := fnExactNearestToUptoRow.holds Try.pinned (OpenSpec.upto fnExactNearestToSpec)

/-- 'laws.FnExactSpaceWithout', WHERE WHAT IT READS IS OF BULK AT MOST 1048576: true; the input reads as it did. -/
def fnExactSpaceWithoutUptoRow : OpenClaim := { program := "ytdcipaioobkekaa", sum := "6d8650124671d35fd8270238e708b3a2e52dddc590f58ded641edccdc0100a6c", func := "loop.example/jointjudgments/laws.FnExactSpaceWithout", spec := "fnExactSpaceWithout", unfollowed := true, recurses := true, apart := false, narrowed := true }
def FnExactSpaceWithoutUptoSaid : Prop := fnExactSpaceWithoutUptoRow.holds Try.pinned (OpenSpec.upto fnExactSpaceWithoutSpec)

/-- 'laws.FnExactIsMedian', WHERE WHAT IT READS IS OF BULK AT MOST 1048576: true; the input reads as it did. -/
def fnExactIsMedianUptoRow : OpenClaim := { program := "ytdcipaioobkekaa", sum := "6d8650124671d35fd8270238e708b3a2e52dddc590f58ded641edccdc0100a6c", func := "loop.example/jointjudgments/laws.FnExactIsMedian", spec := "fnExactIsMedian", unfollowed := true, recurses := true, apart := false, narrowed := true }
def FnExactIsMedianUptoSaid : Prop := fnExactIsMedianUptoRow.holds Try.pinned (OpenSpec.upto fnExactIsMedianSpec)

/-- 'laws.FnExactIsEven', WHERE WHAT IT READS IS OF BULK AT MOST 1048576: true; the input reads as it did. -/
def fnExactIsEvenUptoRow : OpenClaim := { program := "ytdcipaioobkekaa", sum := "6d8650124671d35fd8270238e708b3a2e52dddc590f58ded641edccdc0100a6c", func := "loop.example/jointjudgments/laws.FnExactIsEven", spec := "fnExactIsEven", unfollowed := true, recurses := true, apart := false, narrowed := true }
def FnExactIsEvenUptoSaid : Prop := fnExactIsEvenUptoRow.holds Try.pinned (OpenSpec.upto fnExactIsEvenSpec)

/-- 'laws.FnExactCrossSpaces', WHERE WHAT IT READS IS OF BULK AT MOST 1048576: true; the input reads as it did. -/
def fnExactCrossSpacesUptoRow : OpenClaim := { program := "ytdcipaioobkekaa", sum := "6d8650124671d35fd8270238e708b3a2e52dddc590f58ded641edccdc0100a6c", func := "loop.example/jointjudgments/laws.FnExactCrossSpaces", spec := "fnExactCrossSpaces", apart := false, narrowed := true }
def FnExactCrossSpacesUptoSaid : Prop := fnExactCrossSpacesUptoRow.holds Try.pinned (OpenSpec.upto fnExactCrossSpacesSpec)

end Rows
end Go.Proofs.Ytdcipaioobkekaa
