/-
  No cell of these rows narrows 'for every input' (looked for: loops, veiled, ifaces, maps, wideKeys, modest, calm, conditions, laid).
  DERIVED. THE GIVEN ROWS OF THIS SEAT. 8 by the template 'for every input the law returns true; each argument reads behind the call as it read before'; 0 by the template 'total and deterministic' (their statements: YtbnnblfgpdfmpaaTotals.lean).
  GIVEN WITH THE SEED: the statements are not yours to turn. If you find one false, say at which input.
  Laid BY PROGRAM, IN A SANDBOX (cutbox-rows.mjs): the forced cells as the released guide's own fill.sh prints them over the translation 31b92116780393b1… (all of the seat's roots in one cut). By AI agents, Wed Nov 11 2026. No macro, syntax, notation, axiom, sorry.
-/
import Derived.Test.YtbnnblfgpdfmpaaChecked
import GoSem.Claim
import GoSem.ClaimJoined
import GoSem.ClaimMapViews
import Derived.JoinedTies
import Derived.KernelRfl
namespace Go.Proofs.Ytbnnblfgpdfmpaa
/- THE CELL 'sum', in the pinned program and in every row, IS THE sha256 OF THE DUMP (.gsa) THAT YtbnnblfgpdfmpaaProg.lean LOADS. Nothing in Lean hashes anything: it is a label: what it is worth is what the hold of that sum in a sandbox is worth. -/
noncomputable def Try.pinned : Pinned := { name := "ytbnnblfgpdfmpaa", sum := "31b92116780393b1a8711a290475cf234305119baf027f92c55c783d78946a57", checked := Try.checked }
namespace Rows
def none {H : Type} : Left H := { results := [], args := [] }

/-- 'laws.FnExactFlipIssue': WHATEVER THE INPUT: true; the input reads as it did. -/
def fnExactFlipIssueSpec : ChangeSpec := { name := "fnExactFlipIssue", fn := fun _ => fun
  | [d1, d2] => { results := [.lit (.bool true)], args := [d1, d2] }
  | _ => none }
def fnExactFlipIssueRow : OpenClaim := { program := "ytbnnblfgpdfmpaa", sum := "31b92116780393b1a8711a290475cf234305119baf027f92c55c783d78946a57", func := "loop.example/jointjudgments/laws.FnExactFlipIssue", spec := "fnExactFlipIssue", unfollowed := true, recurses := true, plainKeys := false, apart := false }
def FnExactFlipIssueSaid : Prop := fnExactFlipIssueRow.holds Try.pinned (OpenSpec.ofChange fnExactFlipIssueSpec)

/-- ITS FALSE NEIGHBOUR: 'it returns false'. Refute it at one input. -/
def fnExactFlipIssueWrong : ChangeSpec := { name := "fnExactFlipIssue", fn := fun _ => fun
  | [d1, d2] => { results := [.lit (.bool false)], args := [d1, d2] }
  | _ => none }
def FnExactFlipIssueWrongFalsely : Prop := fnExactFlipIssueRow.holds Try.pinned (OpenSpec.ofChange fnExactFlipIssueWrong)

/-- 'laws.FnExactDropIssue': WHATEVER THE INPUT: true; the input reads as it did. -/
def fnExactDropIssueSpec : ChangeSpec := { name := "fnExactDropIssue", fn := fun _ => fun
  | [d1, d2] => { results := [.lit (.bool true)], args := [d1, d2] }
  | _ => none }
def fnExactDropIssueRow : OpenClaim := { program := "ytbnnblfgpdfmpaa", sum := "31b92116780393b1a8711a290475cf234305119baf027f92c55c783d78946a57", func := "loop.example/jointjudgments/laws.FnExactDropIssue", spec := "fnExactDropIssue", unfollowed := true, recurses := true, plainKeys := false, apart := false }
def FnExactDropIssueSaid : Prop := fnExactDropIssueRow.holds Try.pinned (OpenSpec.ofChange fnExactDropIssueSpec)

/-- ITS FALSE NEIGHBOUR: 'it returns false'. Refute it at one input. -/
def fnExactDropIssueWrong : ChangeSpec := { name := "fnExactDropIssue", fn := fun _ => fun
  | [d1, d2] => { results := [.lit (.bool false)], args := [d1, d2] }
  | _ => none }
def FnExactDropIssueWrongFalsely : Prop := fnExactDropIssueRow.holds Try.pinned (OpenSpec.ofChange fnExactDropIssueWrong)

/-- 'laws.FnFlipIssue': WHATEVER THE INPUT: true; the input reads as it did. -/
def fnFlipIssueSpec : ChangeSpec := { name := "fnFlipIssue", fn := fun _ => fun
  | [d] => { results := [.lit (.bool true)], args := [d] }
  | _ => none }
def fnFlipIssueRow : OpenClaim := { program := "ytbnnblfgpdfmpaa", sum := "31b92116780393b1a8711a290475cf234305119baf027f92c55c783d78946a57", func := "loop.example/jointjudgments/laws.FnFlipIssue", spec := "fnFlipIssue", unfollowed := true, recurses := true, plainKeys := false, apart := false }
def FnFlipIssueSaid : Prop := fnFlipIssueRow.holds Try.pinned (OpenSpec.ofChange fnFlipIssueSpec)

/-- ITS FALSE NEIGHBOUR: 'it returns false'. Refute it at one input. -/
def fnFlipIssueWrong : ChangeSpec := { name := "fnFlipIssue", fn := fun _ => fun
  | [d] => { results := [.lit (.bool false)], args := [d] }
  | _ => none }
def FnFlipIssueWrongFalsely : Prop := fnFlipIssueRow.holds Try.pinned (OpenSpec.ofChange fnFlipIssueWrong)

/-- 'laws.FnDropIssue': WHATEVER THE INPUT: true; the input reads as it did. -/
def fnDropIssueSpec : ChangeSpec := { name := "fnDropIssue", fn := fun _ => fun
  | [d] => { results := [.lit (.bool true)], args := [d] }
  | _ => none }
def fnDropIssueRow : OpenClaim := { program := "ytbnnblfgpdfmpaa", sum := "31b92116780393b1a8711a290475cf234305119baf027f92c55c783d78946a57", func := "loop.example/jointjudgments/laws.FnDropIssue", spec := "fnDropIssue", unfollowed := true, recurses := true, plainKeys := false, apart := false }
def FnDropIssueSaid : Prop := fnDropIssueRow.holds Try.pinned (OpenSpec.ofChange fnDropIssueSpec)

/-- ITS FALSE NEIGHBOUR: 'it returns false'. Refute it at one input. -/
def fnDropIssueWrong : ChangeSpec := { name := "fnDropIssue", fn := fun _ => fun
  | [d] => { results := [.lit (.bool false)], args := [d] }
  | _ => none }
def FnDropIssueWrongFalsely : Prop := fnDropIssueRow.holds Try.pinned (OpenSpec.ofChange fnDropIssueWrong)

/-- 'laws.FnIsBlocked': WHATEVER THE INPUT: true; the input reads as it did. -/
def fnIsBlockedSpec : ChangeSpec := { name := "fnIsBlocked", fn := fun _ => fun
  | [d] => { results := [.lit (.bool true)], args := [d] }
  | _ => none }
def fnIsBlockedRow : OpenClaim := { program := "ytbnnblfgpdfmpaa", sum := "31b92116780393b1a8711a290475cf234305119baf027f92c55c783d78946a57", func := "loop.example/jointjudgments/laws.FnIsBlocked", spec := "fnIsBlocked", unfollowed := true, recurses := true, plainKeys := false, apart := false }
def FnIsBlockedSaid : Prop := fnIsBlockedRow.holds Try.pinned (OpenSpec.ofChange fnIsBlockedSpec)

/-- ITS FALSE NEIGHBOUR: 'it returns false'. Refute it at one input. -/
def fnIsBlockedWrong : ChangeSpec := { name := "fnIsBlocked", fn := fun _ => fun
  | [d] => { results := [.lit (.bool false)], args := [d] }
  | _ => none }
def FnIsBlockedWrongFalsely : Prop := fnIsBlockedRow.holds Try.pinned (OpenSpec.ofChange fnIsBlockedWrong)

/-- 'laws.FnValidSpace': WHATEVER THE INPUT: true; the input reads as it did. -/
def fnValidSpaceSpec : ChangeSpec := { name := "fnValidSpace", fn := fun _ => fun
  | [d] => { results := [.lit (.bool true)], args := [d] }
  | _ => none }
def fnValidSpaceRow : OpenClaim := { program := "ytbnnblfgpdfmpaa", sum := "31b92116780393b1a8711a290475cf234305119baf027f92c55c783d78946a57", func := "loop.example/jointjudgments/laws.FnValidSpace", spec := "fnValidSpace", unfollowed := true, recurses := true, plainKeys := false, apart := false }
def FnValidSpaceSaid : Prop := fnValidSpaceRow.holds Try.pinned (OpenSpec.ofChange fnValidSpaceSpec)

/-- ITS FALSE NEIGHBOUR: 'it returns false'. Refute it at one input. -/
def fnValidSpaceWrong : ChangeSpec := { name := "fnValidSpace", fn := fun _ => fun
  | [d] => { results := [.lit (.bool false)], args := [d] }
  | _ => none }
def FnValidSpaceWrongFalsely : Prop := fnValidSpaceRow.holds Try.pinned (OpenSpec.ofChange fnValidSpaceWrong)

/-- 'laws.FnExactCrossSpaces': WHATEVER THE INPUT: true; the input reads as it did. -/
def fnExactCrossSpacesSpec : ChangeSpec := { name := "fnExactCrossSpaces", fn := fun _ => fun
  | [d1, d2] => { results := [.lit (.bool true)], args := [d1, d2] }
  | _ => none }
def fnExactCrossSpacesRow : OpenClaim := { program := "ytbnnblfgpdfmpaa", sum := "31b92116780393b1a8711a290475cf234305119baf027f92c55c783d78946a57", func := "loop.example/jointjudgments/laws.FnExactCrossSpaces", spec := "fnExactCrossSpaces", plainKeys := false, apart := false }
def FnExactCrossSpacesSaid : Prop := fnExactCrossSpacesRow.holds Try.pinned (OpenSpec.ofChange fnExactCrossSpacesSpec)

/-- ITS FALSE NEIGHBOUR: 'it returns false'. Refute it at one input. -/
def fnExactCrossSpacesWrong : ChangeSpec := { name := "fnExactCrossSpaces", fn := fun _ => fun
  | [d1, d2] => { results := [.lit (.bool false)], args := [d1, d2] }
  | _ => none }
def FnExactCrossSpacesWrongFalsely : Prop := fnExactCrossSpacesRow.holds Try.pinned (OpenSpec.ofChange fnExactCrossSpacesWrong)

/-- 'laws.FnCrossSpaces': WHATEVER THE INPUT: true; the input reads as it did. -/
def fnCrossSpacesSpec : ChangeSpec := { name := "fnCrossSpaces", fn := fun _ => fun
  | [d] => { results := [.lit (.bool true)], args := [d] }
  | _ => none }
def fnCrossSpacesRow : OpenClaim := { program := "ytbnnblfgpdfmpaa", sum := "31b92116780393b1a8711a290475cf234305119baf027f92c55c783d78946a57", func := "loop.example/jointjudgments/laws.FnCrossSpaces", spec := "fnCrossSpaces", unfollowed := true, recurses := true, plainKeys := false, apart := false }
def FnCrossSpacesSaid : Prop := fnCrossSpacesRow.holds Try.pinned (OpenSpec.ofChange fnCrossSpacesSpec)

/-- ITS FALSE NEIGHBOUR: 'it returns false'. Refute it at one input. -/
def fnCrossSpacesWrong : ChangeSpec := { name := "fnCrossSpaces", fn := fun _ => fun
  | [d] => { results := [.lit (.bool false)], args := [d] }
  | _ => none }
def FnCrossSpacesWrongFalsely : Prop := fnCrossSpacesRow.holds Try.pinned (OpenSpec.ofChange fnCrossSpacesWrong)

/- THE SECOND FORM. 'bulk': how many values and letters a reading holds, each counted each time it is reached (what is shared counts as often as it is met; a slice's spare places count too). A statement '..UptoSaid' is the law's where the arguments, and the package variables that the reading takes, are together of bulk at most 1048576: NARROWER than '..Said'. Prove '..Said' where nothing that the law and all that it calls make is longer than what came in: it says more and counts as full. Else prove '..UptoSaid'. A law counts once. -/
mutual
def uptoBulk {H : Type} : DataW H → Nat
  | .lit (.string bytes) => bytes.length + 1
  | .lit _ => 1
  | .nil => 1
  | .ptr d => uptoBulk d + 1
  | .slice elems spare => uptoBulkAll elems + uptoBulkAll spare + 1
  | .agg parts => uptoBulkAll parts + 1
  | .iface _ d => uptoBulk d + 1
  | .map entries => uptoBulkEntries entries + 1
  | .held _ => 1
def uptoBulkAll {H : Type} : List (DataW H) → Nat
  | [] => 0
  | d :: r => uptoBulk d + uptoBulkAll r
def uptoBulkEntries {H : Type} : List (Lit × DataW H) → Nat
  | [] => 0
  | x :: r => uptoBulkEntry x + uptoBulkEntries r
def uptoBulkEntry {H : Type} : Lit × DataW H → Nat
  | (.string bytes, d) => bytes.length + uptoBulk d + 1
  | (_, d) => uptoBulk d + 1
 end
def uptoSmall : (H : Type) → List (DataW H) → Bool := fun _ ds => decide (uptoBulkAll ds ≤ 1048576)
def OpenSpec.upto (s : _root_.Go.ChangeSpec) : _root_.Go.OpenSpec := { _root_.Go.OpenSpec.ofChange s with cond := some uptoSmall }

/-- 'laws.FnExactFlipIssue', WHERE WHAT IT READS IS OF BULK AT MOST 1048576: true; the input reads as it did. -/
def fnExactFlipIssueUptoRow : OpenClaim := { program := "ytbnnblfgpdfmpaa", sum := "31b92116780393b1a8711a290475cf234305119baf027f92c55c783d78946a57", func := "loop.example/jointjudgments/laws.FnExactFlipIssue", spec := "fnExactFlipIssue", unfollowed := true, recurses := true, plainKeys := false, apart := false, narrowed := true }
def FnExactFlipIssueUptoSaid : Prop := fnExactFlipIssueUptoRow.holds Try.pinned (OpenSpec.upto fnExactFlipIssueSpec)

/-- 'laws.FnExactDropIssue', WHERE WHAT IT READS IS OF BULK AT MOST 1048576: true; the input reads as it did. -/
def fnExactDropIssueUptoRow : OpenClaim := { program := "ytbnnblfgpdfmpaa", sum := "31b92116780393b1a8711a290475cf234305119baf027f92c55c783d78946a57", func := "loop.example/jointjudgments/laws.FnExactDropIssue", spec := "fnExactDropIssue", unfollowed := true, recurses := true, plainKeys := false, apart := false, narrowed := true }
def FnExactDropIssueUptoSaid : Prop := fnExactDropIssueUptoRow.holds Try.pinned (OpenSpec.upto fnExactDropIssueSpec)

/-- 'laws.FnFlipIssue', WHERE WHAT IT READS IS OF BULK AT MOST 1048576: true; the input reads as it did. -/
def fnFlipIssueUptoRow : OpenClaim := { program := "ytbnnblfgpdfmpaa", sum := "31b92116780393b1a8711a290475cf234305119baf027f92c55c783d78946a57", func := "loop.example/jointjudgments/laws.FnFlipIssue", spec := "fnFlipIssue", unfollowed := true, recurses := true, plainKeys := false, apart := false, narrowed := true }
def FnFlipIssueUptoSaid : Prop := fnFlipIssueUptoRow.holds Try.pinned (OpenSpec.upto fnFlipIssueSpec)

/-- 'laws.FnDropIssue', WHERE WHAT IT READS IS OF BULK AT MOST 1048576: true; the input reads as it did. -/
def fnDropIssueUptoRow : OpenClaim := { program := "ytbnnblfgpdfmpaa", sum := "31b92116780393b1a8711a290475cf234305119baf027f92c55c783d78946a57", func := "loop.example/jointjudgments/laws.FnDropIssue", spec := "fnDropIssue", unfollowed := true, recurses := true, plainKeys := false, apart := false, narrowed := true }
def FnDropIssueUptoSaid : Prop := fnDropIssueUptoRow.holds Try.pinned (OpenSpec.upto fnDropIssueSpec)

/-- 'laws.FnIsBlocked', WHERE WHAT IT READS IS OF BULK AT MOST 1048576: true; the input reads as it did. -/
def fnIsBlockedUptoRow : OpenClaim := { program := "ytbnnblfgpdfmpaa", sum := "31b92116780393b1a8711a290475cf234305119baf027f92c55c783d78946a57", func := "loop.example/jointjudgments/laws.FnIsBlocked", spec := "fnIsBlocked", unfollowed := true, recurses := true, plainKeys := false, apart := false, narrowed := true }
def FnIsBlockedUptoSaid : Prop := fnIsBlockedUptoRow.holds Try.pinned (OpenSpec.upto fnIsBlockedSpec)

/-- 'laws.FnValidSpace', WHERE WHAT IT READS IS OF BULK AT MOST 1048576: true; the input reads as it did. -/
def fnValidSpaceUptoRow : OpenClaim := { program := "ytbnnblfgpdfmpaa", sum := "31b92116780393b1a8711a290475cf234305119baf027f92c55c783d78946a57", func := "loop.example/jointjudgments/laws.FnValidSpace", spec := "fnValidSpace", unfollowed := true, recurses := true, plainKeys := false, apart := false, narrowed := true }
def FnValidSpaceUptoSaid : Prop := fnValidSpaceUptoRow.holds Try.pinned (OpenSpec.upto fnValidSpaceSpec)

/-- 'laws.FnExactCrossSpaces', WHERE WHAT IT READS IS OF BULK AT MOST 1048576: true; the input reads as it did. -/
def fnExactCrossSpacesUptoRow : OpenClaim := { program := "ytbnnblfgpdfmpaa", sum := "31b92116780393b1a8711a290475cf234305119baf027f92c55c783d78946a57", func := "loop.example/jointjudgments/laws.FnExactCrossSpaces", spec := "fnExactCrossSpaces", plainKeys := false, apart := false, narrowed := true }
def FnExactCrossSpacesUptoSaid : Prop := fnExactCrossSpacesUptoRow.holds Try.pinned (OpenSpec.upto fnExactCrossSpacesSpec)

/-- 'laws.FnCrossSpaces', WHERE WHAT IT READS IS OF BULK AT MOST 1048576: true; the input reads as it did. -/
def fnCrossSpacesUptoRow : OpenClaim := { program := "ytbnnblfgpdfmpaa", sum := "31b92116780393b1a8711a290475cf234305119baf027f92c55c783d78946a57", func := "loop.example/jointjudgments/laws.FnCrossSpaces", spec := "fnCrossSpaces", unfollowed := true, recurses := true, plainKeys := false, apart := false, narrowed := true }
def FnCrossSpacesUptoSaid : Prop := fnCrossSpacesUptoRow.holds Try.pinned (OpenSpec.upto fnCrossSpacesSpec)

end Rows
end Go.Proofs.Ytbnnblfgpdfmpaa
