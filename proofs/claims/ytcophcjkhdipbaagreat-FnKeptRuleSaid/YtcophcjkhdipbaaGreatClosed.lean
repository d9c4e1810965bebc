/- Closed facts of the whole program of this seat, each checked by itself. Conditions: none. -/
import Derived.Test.YtcophcjkhdipbaaGreatRows
import Derived.Test.YtcophcjkhdipbaaGreatChecked
import Derived.WalkKit
import Derived.ProofKit
import Derived.OpenShut
import Derived.ShutString
import Derived.ChangeOld
import Derived.Below
namespace Go.Proofs.YtcophcjkhdipbaaGreat
open Go.ChangeShapes Go.WideShapes Go.ChangeAt Go.RowKit

theorem and_mk {a b : Bool} (ha : a = true) (hb : b = true) : (a && b) = true := by rw [ha, hb]; rfl
set_option maxHeartbeats 4000000 in
theorem closed_laid : (laidOutB Tryz.prog) = true := by kernel_rfl
set_option maxHeartbeats 4000000 in
theorem closed_mapped : (mapsRowed Tryz.prog) = true := by kernel_rfl
set_option maxHeartbeats 4000000 in
theorem closed_heard : (Program.stopsHeard Tryz.prog) = true := by kernel_rfl
set_option maxHeartbeats 4000000 in
theorem closed_enters : (Program.mayEnter Tryz.prog) = true := by kernel_rfl
set_option maxHeartbeats 4000000 in
theorem closed_lifts : (Rows.fnKeptRuleRow.lifted == Program.liftsFinal Tryz.prog) = true := by kernel_rfl
set_option maxHeartbeats 4000000 in
theorem closed_makes : (Program.make Tryz.prog == some Rows.fnKeptRuleRow.make) = true := by kernel_rfl
end Go.Proofs.YtcophcjkhdipbaaGreat
