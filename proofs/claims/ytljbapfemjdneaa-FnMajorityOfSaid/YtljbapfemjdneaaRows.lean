/-
  No cell of these rows narrows 'for every input' (looked for: loops, veiled, ifaces, maps, wideKeys, modest, calm, conditions, laid).
  DERIVED. THE GIVEN ROWS OF THIS SEAT. 12 by the template 'for every input the law returns true; each argument reads behind the call as it read before'; 0 by the template 'total and deterministic' (their statements: YtljbapfemjdneaaTotals.lean).
  GIVEN WITH THE SEED: the statements are not yours to turn. If you find one false, say at which input.
  Laid BY PROGRAM, IN A SANDBOX (cutbox-rows.mjs): the forced cells as the released guide's own fill.sh prints them over the translation ac4fc198110bb761… (all of the seat's roots in one cut). By AI agents, Wed Nov 11 2026. No macro, syntax, notation, axiom, sorry.
-/
import Derived.Test.YtljbapfemjdneaaChecked
import GoSem.Claim
import GoSem.ClaimJoined
import GoSem.ClaimMapViews
import Derived.JoinedTies
import Derived.KernelRfl
namespace Go.Proofs.Ytljbapfemjdneaa
/- THE CELL 'sum', in the pinned program and in every row, IS THE sha256 OF THE DUMP (.gsa) THAT YtljbapfemjdneaaProg.lean LOADS. Nothing in Lean hashes anything: it is a label: what it is worth is what the hold of that sum in a sandbox is worth. -/
noncomputable def Try.pinned : Pinned := { name := "ytljbapfemjdneaa", sum := "ac4fc198110bb7616b7cbeecc49c0eb219ffd5cea96a2c7ae94cb3fb16a87dc4", checked := Try.checked }
namespace Rows
def none {H : Type} : Left H := { results := [], args := [] }

/-- 'laws.FnInSpace': WHATEVER THE INPUT: true; the input reads as it did. -/
def fnInSpaceSpec : ChangeSpec := { name := "fnInSpace", fn := fun _ => fun
  | [d] => { results := [.lit (.bool true)], args := [d] }
  | _ => none }
def fnInSpaceRow : OpenClaim := { program := "ytljbapfemjdneaa", sum := "ac4fc198110bb7616b7cbeecc49c0eb219ffd5cea96a2c7ae94cb3fb16a87dc4", func := "loop.example/jointjudgments/laws.FnInSpace", spec := "fnInSpace", unfollowed := true, recurses := true, apart := false }
def FnInSpaceSaid : Prop := fnInSpaceRow.holds Try.pinned (OpenSpec.ofChange fnInSpaceSpec)

/-- ITS FALSE NEIGHBOUR: 'it returns false'. Refute it at one input. -/
def fnInSpaceWrong : ChangeSpec := { name := "fnInSpace", fn := fun _ => fun
  | [d] => { results := [.lit (.bool false)], args := [d] }
  | _ => none }
def FnInSpaceWrongFalsely : Prop := fnInSpaceRow.holds Try.pinned (OpenSpec.ofChange fnInSpaceWrong)

/-- 'laws.FnValidPart': WHATEVER THE INPUT: true; the input reads as it did. -/
def fnValidPartSpec : ChangeSpec := { name := "fnValidPart", fn := fun _ => fun
  | [d] => { results := [.lit (.bool true)], args := [d] }
  | _ => none }
def fnValidPartRow : OpenClaim := { program := "ytljbapfemjdneaa", sum := "ac4fc198110bb7616b7cbeecc49c0eb219ffd5cea96a2c7ae94cb3fb16a87dc4", func := "loop.example/jointjudgments/laws.FnValidPart", spec := "fnValidPart", unfollowed := true, recurses := true, apart := false }
def FnValidPartSaid : Prop := fnValidPartRow.holds Try.pinned (OpenSpec.ofChange fnValidPartSpec)

/-- ITS FALSE NEIGHBOUR: 'it returns false'. Refute it at one input. -/
def fnValidPartWrong : ChangeSpec := { name := "fnValidPart", fn := fun _ => fun
  | [d] => { results := [.lit (.bool false)], args := [d] }
  | _ => none }
def FnValidPartWrongFalsely : Prop := fnValidPartRow.holds Try.pinned (OpenSpec.ofChange fnValidPartWrong)

/-- 'laws.FnIsEven': WHATEVER THE INPUT: true; the input reads as it did. -/
def fnIsEvenSpec : ChangeSpec := { name := "fnIsEven", fn := fun _ => fun
  | [d] => { results := [.lit (.bool true)], args := [d] }
  | _ => none }
def fnIsEvenRow : OpenClaim := { program := "ytljbapfemjdneaa", sum := "ac4fc198110bb7616b7cbeecc49c0eb219ffd5cea96a2c7ae94cb3fb16a87dc4", func := "loop.example/jointjudgments/laws.FnIsEven", spec := "fnIsEven", unfollowed := true, recurses := true, apart := false }
def FnIsEvenSaid : Prop := fnIsEvenRow.holds Try.pinned (OpenSpec.ofChange fnIsEvenSpec)

/-- ITS FALSE NEIGHBOUR: 'it returns false'. Refute it at one input. -/
def fnIsEvenWrong : ChangeSpec := { name := "fnIsEven", fn := fun _ => fun
  | [d] => { results := [.lit (.bool false)], args := [d] }
  | _ => none }
def FnIsEvenWrongFalsely : Prop := fnIsEvenRow.holds Try.pinned (OpenSpec.ofChange fnIsEvenWrong)

/-- 'laws.FnGapOf': WHATEVER THE INPUT: true; the input reads as it did. -/
def fnGapOfSpec : ChangeSpec := { name := "fnGapOf", fn := fun _ => fun
  | [d] => { results := [.lit (.bool true)], args := [d] }
  | _ => none }
def fnGapOfRow : OpenClaim := { program := "ytljbapfemjdneaa", sum := "ac4fc198110bb7616b7cbeecc49c0eb219ffd5cea96a2c7ae94cb3fb16a87dc4", func := "loop.example/jointjudgments/laws.FnGapOf", spec := "fnGapOf", apart := false }
def FnGapOfSaid : Prop := fnGapOfRow.holds Try.pinned (OpenSpec.ofChange fnGapOfSpec)

/-- ITS FALSE NEIGHBOUR: 'it returns false'. Refute it at one input. -/
def fnGapOfWrong : ChangeSpec := { name := "fnGapOf", fn := fun _ => fun
  | [d] => { results := [.lit (.bool false)], args := [d] }
  | _ => none }
def FnGapOfWrongFalsely : Prop := fnGapOfRow.holds Try.pinned (OpenSpec.ofChange fnGapOfWrong)

/-- 'laws.FnBetweenOf': WHATEVER THE INPUT: true; the input reads as it did. -/
def fnBetweenOfSpec : ChangeSpec := { name := "fnBetweenOf", fn := fun _ => fun
  | [d] => { results := [.lit (.bool true)], args := [d] }
  | _ => none }
def fnBetweenOfRow : OpenClaim := { program := "ytljbapfemjdneaa", sum := "ac4fc198110bb7616b7cbeecc49c0eb219ffd5cea96a2c7ae94cb3fb16a87dc4", func := "loop.example/jointjudgments/laws.FnBetweenOf", spec := "fnBetweenOf", unfollowed := true, recurses := true, apart := false }
def FnBetweenOfSaid : Prop := fnBetweenOfRow.holds Try.pinned (OpenSpec.ofChange fnBetweenOfSpec)

/-- ITS FALSE NEIGHBOUR: 'it returns false'. Refute it at one input. -/
def fnBetweenOfWrong : ChangeSpec := { name := "fnBetweenOf", fn := fun _ => fun
  | [d] => { results := [.lit (.bool false)], args := [d] }
  | _ => none }
def FnBetweenOfWrongFalsely : Prop := fnBetweenOfRow.holds Try.pinned (OpenSpec.ofChange fnBetweenOfWrong)

/-- 'laws.FnNearestTo': WHATEVER THE INPUT: true; the input reads as it did. -/
def fnNearestToSpec : ChangeSpec := { name := "fnNearestTo", fn := fun _ => fun
  | [d] => { results := [.lit (.bool true)], args := [d] }
  | _ => none }
def fnNearestToRow : OpenClaim := { program := "ytljbapfemjdneaa", sum := "ac4fc198110bb7616b7cbeecc49c0eb219ffd5cea96a2c7ae94cb3fb16a87dc4", func := "loop.example/jointjudgments/laws.FnNearestTo", spec := "fnNearestTo", unfollowed := true, recurses := true, apart := false }
def FnNearestToSaid : Prop := fnNearestToRow.holds Try.pinned (OpenSpec.ofChange fnNearestToSpec)

/-- ITS FALSE NEIGHBOUR: 'it returns false'. Refute it at one input. -/
def fnNearestToWrong : ChangeSpec := { name := "fnNearestTo", fn := fun _ => fun
  | [d] => { results := [.lit (.bool false)], args := [d] }
  | _ => none }
def FnNearestToWrongFalsely : Prop := fnNearestToRow.holds Try.pinned (OpenSpec.ofChange fnNearestToWrong)

/-- 'laws.FnHullOf': WHATEVER THE INPUT: true; the input reads as it did. -/
def fnHullOfSpec : ChangeSpec := { name := "fnHullOf", fn := fun _ => fun
  | [d] => { results := [.lit (.bool true)], args := [d] }
  | _ => none }
def fnHullOfRow : OpenClaim := { program := "ytljbapfemjdneaa", sum := "ac4fc198110bb7616b7cbeecc49c0eb219ffd5cea96a2c7ae94cb3fb16a87dc4", func := "loop.example/jointjudgments/laws.FnHullOf", spec := "fnHullOf", unfollowed := true, recurses := true, apart := false }
def FnHullOfSaid : Prop := fnHullOfRow.holds Try.pinned (OpenSpec.ofChange fnHullOfSpec)

/-- ITS FALSE NEIGHBOUR: 'it returns false'. Refute it at one input. -/
def fnHullOfWrong : ChangeSpec := { name := "fnHullOf", fn := fun _ => fun
  | [d] => { results := [.lit (.bool false)], args := [d] }
  | _ => none }
def FnHullOfWrongFalsely : Prop := fnHullOfRow.holds Try.pinned (OpenSpec.ofChange fnHullOfWrong)

/-- 'laws.FnSupportOf': WHATEVER THE INPUT: true; the input reads as it did. -/
def fnSupportOfSpec : ChangeSpec := { name := "fnSupportOf", fn := fun _ => fun
  | [d] => { results := [.lit (.bool true)], args := [d] }
  | _ => none }
def fnSupportOfRow : OpenClaim := { program := "ytljbapfemjdneaa", sum := "ac4fc198110bb7616b7cbeecc49c0eb219ffd5cea96a2c7ae94cb3fb16a87dc4", func := "loop.example/jointjudgments/laws.FnSupportOf", spec := "fnSupportOf", unfollowed := true, recurses := true, apart := false }
def FnSupportOfSaid : Prop := fnSupportOfRow.holds Try.pinned (OpenSpec.ofChange fnSupportOfSpec)

/-- ITS FALSE NEIGHBOUR: 'it returns false'. Refute it at one input. -/
def fnSupportOfWrong : ChangeSpec := { name := "fnSupportOf", fn := fun _ => fun
  | [d] => { results := [.lit (.bool false)], args := [d] }
  | _ => none }
def FnSupportOfWrongFalsely : Prop := fnSupportOfRow.holds Try.pinned (OpenSpec.ofChange fnSupportOfWrong)

/-- 'laws.FnMajorityOf': WHATEVER THE INPUT: true; the input reads as it did. -/
def fnMajorityOfSpec : ChangeSpec := { name := "fnMajorityOf", fn := fun _ => fun
  | [d] => { results := [.lit (.bool true)], args := [d] }
  | _ => none }
def fnMajorityOfRow : OpenClaim := { program := "ytljbapfemjdneaa", sum := "ac4fc198110bb7616b7cbeecc49c0eb219ffd5cea96a2c7ae94cb3fb16a87dc4", func := "loop.example/jointjudgments/laws.FnMajorityOf", spec := "fnMajorityOf", unfollowed := true, recurses := true, apart := false }
def FnMajorityOfSaid : Prop := fnMajorityOfRow.holds Try.pinned (OpenSpec.ofChange fnMajorityOfSpec)

/-- ITS FALSE NEIGHBOUR: 'it returns false'. Refute it at one input. -/
def fnMajorityOfWrong : ChangeSpec := { name := "fnMajorityOf", fn := fun _ => fun
  | [d] => { results := [.lit (.bool false)], args := [d] }
  | _ => none }
def FnMajorityOfWrongFalsely : Prop := fnMajorityOfRow.holds Try.pinned (OpenSpec.ofChange fnMajorityOfWrong)

/-- 'laws.FnQuotaOf': WHATEVER THE INPUT: true; the input reads as it did. -/
def fnQuotaOfSpec : ChangeSpec := { name := "fnQuotaOf", fn := fun _ => fun
  | [d] => { results := [.lit (.bool true)], args := [d] }
  | _ => none }
def fnQuotaOfRow : OpenClaim := { program := "ytljbapfemjdneaa", sum := "ac4fc198110bb7616b7cbeecc49c0eb219ffd5cea96a2c7ae94cb3fb16a87dc4", func := "loop.example/jointjudgments/laws.FnQuotaOf", spec := "fnQuotaOf", unfollowed := true, recurses := true, apart := false }
def FnQuotaOfSaid : Prop := fnQuotaOfRow.holds Try.pinned (OpenSpec.ofChange fnQuotaOfSpec)

/-- ITS FALSE NEIGHBOUR: 'it returns false'. Refute it at one input. -/
def fnQuotaOfWrong : ChangeSpec := { name := "fnQuotaOf", fn := fun _ => fun
  | [d] => { results := [.lit (.bool false)], args := [d] }
  | _ => none }
def FnQuotaOfWrongFalsely : Prop := fnQuotaOfRow.holds Try.pinned (OpenSpec.ofChange fnQuotaOfWrong)

/-- 'laws.FnWantedPart': WHATEVER THE INPUT: true; the input reads as it did. -/
def fnWantedPartSpec : ChangeSpec := { name := "fnWantedPart", fn := fun _ => fun
  | [d] => { results := [.lit (.bool true)], args := [d] }
  | _ => none }
def fnWantedPartRow : OpenClaim := { program := "ytljbapfemjdneaa", sum := "ac4fc198110bb7616b7cbeecc49c0eb219ffd5cea96a2c7ae94cb3fb16a87dc4", func := "loop.example/jointjudgments/laws.FnWantedPart", spec := "fnWantedPart", unfollowed := true, recurses := true, apart := false }
def FnWantedPartSaid : Prop := fnWantedPartRow.holds Try.pinned (OpenSpec.ofChange fnWantedPartSpec)

/-- ITS FALSE NEIGHBOUR: 'it returns false'. Refute it at one input. -/
def fnWantedPartWrong : ChangeSpec := { name := "fnWantedPart", fn := fun _ => fun
  | [d] => { results := [.lit (.bool false)], args := [d] }
  | _ => none }
def FnWantedPartWrongFalsely : Prop := fnWantedPartRow.holds Try.pinned (OpenSpec.ofChange fnWantedPartWrong)

/-- 'laws.FnPremiseRule': WHATEVER THE INPUT: true; the input reads as it did. -/
def fnPremiseRuleSpec : ChangeSpec := { name := "fnPremiseRule", fn := fun _ => fun
  | [d] => { results := [.lit (.bool true)], args := [d] }
  | _ => none }
def fnPremiseRuleRow : OpenClaim := { program := "ytljbapfemjdneaa", sum := "ac4fc198110bb7616b7cbeecc49c0eb219ffd5cea96a2c7ae94cb3fb16a87dc4", func := "loop.example/jointjudgments/laws.FnPremiseRule", spec := "fnPremiseRule", unfollowed := true, recurses := true, apart := false }
def FnPremiseRuleSaid : Prop := fnPremiseRuleRow.holds Try.pinned (OpenSpec.ofChange fnPremiseRuleSpec)

/-- ITS FALSE NEIGHBOUR: 'it returns false'. Refute it at one input. -/
def fnPremiseRuleWrong : ChangeSpec := { name := "fnPremiseRule", fn := fun _ => fun
  | [d] => { results := [.lit (.bool false)], args := [d] }
  | _ => none }
def FnPremiseRuleWrongFalsely : Prop := fnPremiseRuleRow.holds Try.pinned (OpenSpec.ofChange fnPremiseRuleWrong)

/- THE SECOND FORM. 'bulk': how many values and letters a reading holds, each counted each time it is reached (what is shared counts as often as it is met; a slice's spare places count too). A statement '..UptoSaid' is the law's where the arguments, and the package variables that the reading takes, are together of bulk at most 1048576: NARROWER than '..Said'. Prove '..Said' where nothing that the law and all that it calls make is longer than what came in: it says more and counts as full. Else prove '..UptoSaid'. A law counts once. -/
mutual
def uptoBulk {H : Type} : DataW H → Nat
  | .lit (.string bytes) => bytes.length + 1
  | .lit _ => 1
  | .nil => 1
  | .ptr d => uptoBulk d + 1
  | .slice elems spare => uptoBulkAll elems + uptoBulkAll spare + 1
  | .agg parts => uptoBulkAll parts + 1
  | .iface _ d => uptoBulk d + 1
  | .map entries => uptoBulkEntries entries + 1
  | .held _ => 1
def uptoBulkAll {H : Type} : List (DataW H) → Nat
  | [] => 0
  | d :: r => uptoBulk d + uptoBulkAll r
def uptoBulkEntries {H : Type} : List (Lit × DataW H) → Nat
  | [] => 0
  | x :: r => uptoBulkEntry x + uptoBulkEntries r
def uptoBulkEntry {H : Type} : Lit × DataW H → Nat
  | (.string bytes, d) => bytes.length + uptoBulk d + 1
  | (_, d) => uptoBulk d + 1
 end
def uptoSmall : (H : Type) → List (DataW H) → Bool := fun _ ds => decide (uptoBulkAll ds ≤ 1048576)
def OpenSpec.upto (s : _root_.Go.ChangeSpec) : _root_.Go.OpenSpec := { _root_.Go.OpenSpec.ofChange s with cond := some uptoSmall }

/-- 'laws.FnInSpace', WHERE WHAT IT READS IS OF BULK AT MOST 1048576: true; the input reads as it did. -/
def fnInSpaceUptoRow : OpenClaim := { program := "ytljbapfemjdneaa", sum := "ac4fc198110bb7616b7cbeecc49c0eb219ffd5cea96a2c7ae94cb3fb16a87dc4", func := "loop.example/jointjudgments/laws.FnInSpace", spec := "fnInSpace", unfollowed := true, recurses := true, apart := false, narrowed := true }
def FnInSpaceUptoSaid : Prop := fnInSpaceUptoRow.holds Try.pinned (OpenSpec.upto fnInSpaceSpec)

/-- 'laws.FnValidPart', WHERE WHAT IT READS IS OF BULK AT MOST 1048576: true; the input reads as it did. -/
def fnValidPartUptoRow : OpenClaim := { program := "ytljbapfemjdneaa", sum := "ac4fc198110bb7616b7cbeecc49c0eb219ffd5cea96a2c7ae94cb3fb16a87dc4", func := "loop.example/jointjudgments/laws.FnValidPart", spec := "fnValidPart", unfollowed := true, recurses := true, apart := false, narrowed := true }
def FnValidPartUptoSaid : Prop := fnValidPartUptoRow.holds Try.pinned (OpenSpec.upto fnValidPartSpec)

/-- 'laws.FnIsEven', WHERE WHAT IT READS IS OF BULK AT MOST 1048576: true; the input reads as it did. -/
def fnIsEvenUptoRow : OpenClaim := { program := "ytljbapfemjdneaa", sum := "ac4fc198110bb7616b7cbeecc49c0eb219ffd5cea96a2c7ae94cb3fb16a87dc4", func := "loop.example/jointjudgments/laws.FnIsEven", spec := "fnIsEven", unfollowed := true, recurses := true, apart := false, narrowed := true }
def FnIsEvenUptoSaid : Prop := fnIsEvenUptoRow.holds Try.pinned (OpenSpec.upto fnIsEvenSpec)

/-- 'laws.FnGapOf', WHERE WHAT IT READS IS OF BULK AT MOST 1048576: true; the input reads as it did. -/
def fnGapOfUptoRow : OpenClaim := { program := "ytljbapfemjdneaa", sum := "ac4fc198110bb7616b7cbeecc49c0eb219ffd5cea96a2c7ae94cb3fb16a87dc4", func := "loop.example/jointjudgments/laws.FnGapOf", spec := "fnGapOf", apart := false, narrowed := true }
def FnGapOfUptoSaid : Prop := fnGapOfUptoRow.holds Try.pinned (OpenSpec.upto fnGapOfSpec)

/-- 'laws.FnBetweenOf', WHERE WHAT IT READS IS OF BULK AT MOST 1048576: true; the input reads as it did. -/
def fnBetweenOfUptoRow : OpenClaim := { program := "ytljbapfemjdneaa", sum := "ac4fc198110bb7616b7cbeecc49c0eb219ffd5cea96a2c7ae94cb3fb16a87dc4", func := "loop.example/jointjudgments/laws.FnBetweenOf", spec := "fnBetweenOf", unfollowed := true, recurses := true, apart := false, narrowed := true }
def FnBetweenOfUptoSaid : Prop := fnBetweenOfUptoRow.holds Try.pinned (OpenSpec.upto fnBetweenOfSpec)

/-- 'laws.FnNearestTo', WHERE WHAT IT READS IS OF BULK AT MOST 1048576: true; the input reads as it did. -/
def fnNearestToUptoRow : OpenClaim := { program := "ytljbapfemjdneaa", sum := "ac4fc198110bb7616b7cbeecc49c0eb219ffd5cea96a2c7ae94cb3fb16a87dc4", func := "loop.example/jointjudgments/laws.FnNearestTo", spec := "fnNearestTo", unfollowed := true, recurses := true, apart := false, narrowed := true }
def FnNearestToUptoSaid : Prop := fnNearestToUptoRow.holds Try.pinned (OpenSpec.upto fnNearestToSpec)

/-- 'laws.FnHullOf', WHERE WHAT IT READS IS OF BULK AT MOST 1048576: true; the input reads as it did. -/
def fnHullOfUptoRow : OpenClaim := { program := "ytljbapfemjdneaa", sum := "ac4fc198110bb7616b7cbeecc49c0eb219ffd5cea96a2c7ae94cb3fb16a87dc4", func := "loop.example/jointjudgments/laws.FnHullOf", spec := "fnHullOf", unfollowed := true, recurses := true, apart := false, narrowed := true }
def FnHullOfUptoSaid : Prop := fnHullOfUptoRow.holds Try.pinned (OpenSpec.upto fnHullOfSpec)

/-- 'laws.FnSupportOf', WHERE WHAT IT READS IS OF BULK AT MOST 1048576: true; the input reads as it did. -/
def fnSupportOfUptoRow : OpenClaim := { program := "ytljbapfemjdneaa", sum := "ac4fc198110bb7616b7cbeecc49c0eb219ffd5cea96a2c7ae94cb3fb16a87dc4", func := "loop.example/jointjudgments/laws.FnSupportOf", spec := "fnSupportOf", unfollowed := true, recurses := true, apart := false, narrowed := true }
def FnSupportOfUptoSaid : Prop := fnSupportOfUptoRow.holds Try.pinned (OpenSpec.upto fnSupportOfSpec)

/-- 'laws.FnMajorityOf', WHERE WHAT IT READS IS OF BULK AT MOST 1048576: true; the input reads as it did. -/
def fnMajorityOfUptoRow : OpenClaim := { program := "ytljbapfemjdneaa", sum := "ac4fc198110bb7616b7cbeecc49c0eb219ffd5cea96a2c7ae94cb3fb16a87dc4", func := "loop.example/jointjudgments/laws.FnMajorityOf", spec := "fnMajorityOf", unfollowed := true, recurses := true, apart := false, narrowed := true }
def FnMajorityOfUptoSaid : Prop := fnMajorityOfUptoRow.holds Try.pinned (OpenSpec.upto fnMajorityOfSpec)

/-- 'laws.FnQuotaOf', WHERE WHAT IT READS IS OF BULK AT MOST 1048576: true; the input reads as it did. -/
def fnQuotaOfUptoRow : OpenClaim := { program := "ytljbapfemjdneaa", sum := "ac4fc198110bb7616b7cbeecc49c0eb219ffd5cea96a2c7ae94cb3fb16a87dc4", func := "loop.example/jointjudgments/laws.FnQuotaOf", spec := "fnQuotaOf", unfollowed := true, recurses := true, apart := false, narrowed := true }
def FnQuotaOfUptoSaid : Prop := fnQuotaOfUptoRow.holds Try.pinned (OpenSpec.upto fnQuotaOfSpec)

/-- 'laws.FnWantedPart', WHERE WHAT IT READS IS OF BULK AT MOST 1048576: true; the input reads as it did. -/
def fnWantedPartUptoRow : OpenClaim := { program := "ytljbapfemjdneaa", sum := "ac4fc198110bb7616b7cbeecc49c0eb219ffd5cea96a2c7ae94cb3fb16a87dc4", func := "loop.example/jointjudgments/laws.FnWantedPart", spec := "fnWantedPart", unfollowed := true, recurses := true, apart := false, narrowed := true }
def FnWantedPartUptoSaid : Prop := fnWantedPartUptoRow.holds Try.pinned (OpenSpec.upto fnWantedPartSpec)

/-- 'laws.FnPremiseRule', WHERE WHAT IT READS IS OF BULK AT MOST 1048576: true; the input reads as it did. -/
def fnPremiseRuleUptoRow : OpenClaim := { program := "ytljbapfemjdneaa", sum := "ac4fc198110bb7616b7cbeecc49c0eb219ffd5cea96a2c7ae94cb3fb16a87dc4", func := "loop.example/jointjudgments/laws.FnPremiseRule", spec := "fnPremiseRule", unfollowed := true, recurses := true, apart := false, narrowed := true }
def FnPremiseRuleUptoSaid : Prop := fnPremiseRuleUptoRow.holds Try.pinned (OpenSpec.upto fnPremiseRuleSpec)

end Rows
end Go.Proofs.Ytljbapfemjdneaa
