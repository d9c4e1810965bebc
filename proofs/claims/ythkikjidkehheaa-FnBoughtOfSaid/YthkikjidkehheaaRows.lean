/-
  No cell of these rows narrows 'for every input' (looked for: loops, veiled, ifaces, maps, wideKeys, modest, calm, conditions, laid).
  DERIVED. THE GIVEN ROWS OF THIS SEAT. 4 by the template 'for every input the law returns true; each argument reads behind the call as it read before'; 0 by the template 'total and deterministic' (their statements: YthkikjidkehheaaTotals.lean).
  GIVEN WITH THE SEED: the statements are not yours to turn. If you find one false, say at which input.
  Laid BY PROGRAM, IN A SANDBOX (cutbox-rows.mjs): the forced cells as the released guide's own fill.sh prints them over the translation 18ccea3872ad08ac… (all of the seat's roots in one cut). By AI agents, Wed Nov 11 2026. No macro, syntax, notation, axiom, sorry.
-/
import Derived.Test.YthkikjidkehheaaChecked
import GoSem.Claim
import GoSem.ClaimJoined
import GoSem.ClaimMapViews
import Derived.JoinedTies
import Derived.KernelRfl
namespace Go.Proofs.Ythkikjidkehheaa
/- THE CELL 'sum', in the pinned program and in every row, IS THE sha256 OF THE DUMP (.gsa) THAT YthkikjidkehheaaProg.lean LOADS. Nothing in Lean hashes anything: it is a label: what it is worth is what the hold of that sum in a sandbox is worth. -/
noncomputable def Try.pinned : Pinned := { name := "ythkikjidkehheaa", sum := "18ccea3872ad08aca96251573a0af4659b9e732f702b7659304fd2bdf625475f", checked := Try.checked }
namespace Rows
def none {H : Type} : Left H := { results := [], args := [] }

/-- 'laws.FnExactLoadedOf': WHATEVER THE INPUT: true; the input reads as it did. -/
def fnExactLoadedOfSpec : ChangeSpec := { name := "fnExactLoadedOf", fn := fun _ => fun
  | [d1, d2, d3] => { results := [.lit (.bool true)], args := [d1, d2, d3] }
  | _ => none }
def fnExactLoadedOfRow : OpenClaim := { program := "ythkikjidkehheaa", sum := "18ccea3872ad08aca96251573a0af4659b9e732f702b7659304fd2bdf625475f", func := "loop.example/jointjudgments/laws.FnExactLoadedOf", spec := "fnExactLoadedOf", unfollowed := true, recurses := true, apart := false }
def FnExactLoadedOfSaid : Prop := fnExactLoadedOfRow.holds Try.pinned (OpenSpec.ofChange fnExactLoadedOfSpec)

/-- ITS FALSE NEIGHBOUR: 'it returns false'. Refute it at one input. -/
def fnExactLoadedOfWrong : ChangeSpec := { name := "fnExactLoadedOf", fn := fun _ => fun
  | [d1, d2, d3] => { results := [.lit (.bool false)], args := [d1, d2, d3] }
  | _ => none }
def FnExactLoadedOfWrongFalsely : Prop := fnExactLoadedOfRow.holds Try.pinned (OpenSpec.ofChange fnExactLoadedOfWrong)

/-- 'laws.FnExactBoughtOf': WHATEVER THE INPUT: true; the input reads as it did. -/
def fnExactBoughtOfSpec : ChangeSpec := { name := "fnExactBoughtOf", fn := fun _ => fun
  | [d1, d2, d3] => { results := [.lit (.bool true)], args := [d1, d2, d3] }
  | _ => none }
def fnExactBoughtOfRow : OpenClaim := { program := "ythkikjidkehheaa", sum := "18ccea3872ad08aca96251573a0af4659b9e732f702b7659304fd2bdf625475f", func := "loop.example/jointjudgments/laws.FnExactBoughtOf", spec := "fnExactBoughtOf", unfollowed := true, recurses := true, apart := false }
def FnExactBoughtOfSaid : Prop := fnExactBoughtOfRow.holds Try.pinned (OpenSpec.ofChange fnExactBoughtOfSpec)

/-- ITS FALSE NEIGHBOUR: 'it returns false'. Refute it at one input. -/
def fnExactBoughtOfWrong : ChangeSpec := { name := "fnExactBoughtOf", fn := fun _ => fun
  | [d1, d2, d3] => { results := [.lit (.bool false)], args := [d1, d2, d3] }
  | _ => none }
def FnExactBoughtOfWrongFalsely : Prop := fnExactBoughtOfRow.holds Try.pinned (OpenSpec.ofChange fnExactBoughtOfWrong)

/-- 'laws.FnLoadedOf': WHATEVER THE INPUT: true; the input reads as it did. -/
def fnLoadedOfSpec : ChangeSpec := { name := "fnLoadedOf", fn := fun _ => fun
  | [d] => { results := [.lit (.bool true)], args := [d] }
  | _ => none }
def fnLoadedOfRow : OpenClaim := { program := "ythkikjidkehheaa", sum := "18ccea3872ad08aca96251573a0af4659b9e732f702b7659304fd2bdf625475f", func := "loop.example/jointjudgments/laws.FnLoadedOf", spec := "fnLoadedOf", unfollowed := true, recurses := true, apart := false }
def FnLoadedOfSaid : Prop := fnLoadedOfRow.holds Try.pinned (OpenSpec.ofChange fnLoadedOfSpec)

/-- ITS FALSE NEIGHBOUR: 'it returns false'. Refute it at one input. -/
def fnLoadedOfWrong : ChangeSpec := { name := "fnLoadedOf", fn := fun _ => fun
  | [d] => { results := [.lit (.bool false)], args := [d] }
  | _ => none }
def FnLoadedOfWrongFalsely : Prop := fnLoadedOfRow.holds Try.pinned (OpenSpec.ofChange fnLoadedOfWrong)

/-- 'laws.FnBoughtOf': WHATEVER THE INPUT: true; the input reads as it did. -/
def fnBoughtOfSpec : ChangeSpec := { name := "fnBoughtOf", fn := fun _ => fun
  | [d] => { results := [.lit (.bool true)], args := [d] }
  | _ => none }
def fnBoughtOfRow : OpenClaim := { program := "ythkikjidkehheaa", sum := "18ccea3872ad08aca96251573a0af4659b9e732f702b7659304fd2bdf625475f", func := "loop.example/jointjudgments/laws.FnBoughtOf", spec := "fnBoughtOf", unfollowed := true, recurses := true, apart := false }
def FnBoughtOfSaid : Prop := fnBoughtOfRow.holds Try.pinned (OpenSpec.ofChange fnBoughtOfSpec)

/-- ITS FALSE NEIGHBOUR: 'it returns false'. Refute it at one input. -/
def fnBoughtOfWrong : ChangeSpec := { name := "fnBoughtOf", fn := fun _ => fun
  | [d] => { results := [.lit (.bool false)], args := [d] }
  | _ => none }
def FnBoughtOfWrongFalsely : Prop := fnBoughtOfRow.holds Try.pinned (OpenSpec.ofChange fnBoughtOfWrong)

/- THE SECOND FORM. 'bulk': how many values and letters a reading holds, each counted each time it is reached (what is shared counts as often as it is met; a slice's spare places count too). A statement '..UptoSaid' is the law's where the arguments, and the package variables that the reading takes, are together of bulk at most 1048576: NARROWER than '..Said'. Prove '..Said' where nothing that the law and all that it calls make is longer than what came in: it says more and counts as full. Else prove '..UptoSaid'. A law counts once. -/
mutual
def uptoBulk {H : Type} : DataW H → Nat
  | .lit (.string bytes) => bytes.length + 1
  | .lit _ => 1
  | .nil => 1
  | .ptr d => uptoBulk d + 1
  | .slice elems spare => uptoBulkAll elems + uptoBulkAll spare + 1
  | .agg parts => uptoBulkAll parts + 1
  | .iface _ d => uptoBulk d + 1
  | .map entries => uptoBulkEntries entries + 1
  | .held _ => 1
def uptoBulkAll {H : Type} : List (DataW H) → Nat
  | [] => 0
  | d :: r => uptoBulk d + uptoBulkAll r
def uptoBulkEntries {H : Type} : List (Lit × DataW H) → Nat
  | [] => 0
  | x :: r => uptoBulkEntry x + uptoBulkEntries r
def uptoBulkEntry {H : Type} : Lit × DataW H → Nat
  | (.string bytes, d) => bytes.length + uptoBulk d + 1
  | (_, d) => uptoBulk d + 1
 end
def uptoSmall : (H : Type) → List (DataW H) → Bool := fun _ ds => decide (uptoBulkAll ds ≤ 1048576)
def OpenSpec.upto (s : _root_.Go.ChangeSpec) : _root_.Go.OpenSpec := { _root_.Go.OpenSpec.ofChange s with cond := some uptoSmall }

/-- 'laws.FnExactLoadedOf', WHERE WHAT IT READS IS OF BULK AT MOST 1048576: true; the input reads as it did. -/
def fnExactLoadedOfUptoRow : OpenClaim := { program := "ythkikjidkehheaa", sum := "18ccea3872ad08aca96251573a0af4659b9e732f702b7659304fd2bdf625475f", func := "loop.example/jointjudgments/laws.FnExactLoadedOf", spec := "fnExactLoadedOf", unfollowed := true, recurses := true, apart := false, narrowed := true }
def FnExactLoadedOfUptoSaid : Prop := fnExactLoadedOfUptoRow.holds Try.pinned (OpenSpec.upto fnExactLoadedOfSpec)

/-- 'laws.FnExactBoughtOf', WHERE WHAT IT READS IS OF BULK AT MOST 1048576: true; the input reads as it did. -/
def fnExactBoughtOfUptoRow : OpenClaim := { program := "ythkikjidkehheaa", sum := "18ccea3872ad08aca96251573a0af4659b9e732f702b7659304fd2bdf625475f", func := "loop.example/jointjudgments/laws.FnExactBoughtOf", spec := "fnExactBoughtOf", unfollowed := true, recurses := true, apart := false, narrowed := true }
def FnExactBoughtOfUptoSaid : Prop := fnExactBoughtOfUptoRow.holds Try.pinned (OpenSpec.upto fnExactBoughtOfSpec)

/-- 'laws.FnLoadedOf', WHERE WHAT IT READS IS OF BULK AT MOST 1048576: true; the input reads as it did. -/
def fnLoadedOfUptoRow : OpenClaim := { program := "ythkikjidkehheaa", sum := "18ccea3872ad08aca96251573a0af4659b9e732f702b7659304fd2bdf625475f", func := "loop.example/jointjudgments/laws.FnLoadedOf", spec := "fnLoadedOf", unfollowed := true, recurses := true, apart := false, narrowed := true }
def FnLoadedOfUptoSaid : Prop := fnLoadedOfUptoRow.holds Try.pinned (OpenSpec.upto fnLoadedOfSpec)

/-- 'laws.FnBoughtOf', WHERE WHAT IT READS IS OF BULK AT MOST 1048576: true; the input reads as it did. -/
def fnBoughtOfUptoRow : OpenClaim := { program := "ythkikjidkehheaa", sum := "18ccea3872ad08aca96251573a0af4659b9e732f702b7659304fd2bdf625475f", func := "loop.example/jointjudgments/laws.FnBoughtOf", spec := "fnBoughtOf", unfollowed := true, recurses := true, apart := false, narrowed := true }
def FnBoughtOfUptoSaid : Prop := fnBoughtOfUptoRow.holds Try.pinned (OpenSpec.upto fnBoughtOfSpec)

end Rows
end Go.Proofs.Ythkikjidkehheaa
