/- Closed facts of the whole program of this seat, each checked by itself. Conditions: none. -/
import Derived.Test.YtbmodiobgkmngaaRows
import Derived.Test.YtbmodiobgkmngaaChecked
import Derived.WalkKit
import Derived.ProofKit
import Derived.OpenShut
import Derived.ShutString
import Derived.ChangeOld
import Derived.Below
namespace Go.Proofs.Ytbmodiobgkmngaa
open Go.ChangeShapes Go.WideShapes Go.ChangeAt Go.RowKit

theorem and_mk {a b : Bool} (ha : a = true) (hb : b = true) : (a && b) = true := by rw [ha, hb]; rfl
set_option maxHeartbeats 4000000 in
theorem closed_laid : (laidOutB Try.prog) = true := by kernel_rfl
set_option maxHeartbeats 4000000 in
theorem closed_mapped : (mapsRowed Try.prog) = true := by kernel_rfl
set_option maxHeartbeats 4000000 in
theorem closed_heard : (Program.stopsHeard Try.prog) = true := by kernel_rfl
set_option maxHeartbeats 4000000 in
theorem closed_enters : (Program.mayEnter Try.prog) = true := by kernel_rfl
set_option maxHeartbeats 4000000 in
theorem closed_lifts : (Rows.fnExactSafeRulesRow.lifted == Program.liftsFinal Try.prog) = true := by kernel_rfl
set_option maxHeartbeats 4000000 in
theorem closed_makes : (Program.make Try.prog == some Rows.fnExactSafeRulesRow.make) = true := by kernel_rfl
end Go.Proofs.Ytbmodiobgkmngaa
