/- Whether a judgment has all answers of a part: the model's loop, the program's closures; IsOpen. -/
import Derived.Test.YtklfpbidbiippaaPart
import Derived.Test.YtklfpbidbiippaaOpenB
namespace Go.Proofs.Ytklfpbidbiippaa
open Go.RowKit Go.Joins


theorem hasPart_any (x c b : Int) (w : World) (hx : 0 ≤ x ∧ x ≤ 15) (hc : 0 ≤ c ∧ c ≤ 15) (hb : 0 ≤ b) :
    Calls Try.prog 96 #[.int .i64 x, .agg #[.int .i64 c, .int .i64 b]] w fun e w' => e = .returned (.bool (hpB x c b)) ∧ Below w.heap.size w w' := by
  have hp := hide (hp_and hx hc hb)
  clear hx hc hb
  go_enter Try.func96, Try.ntmps96
  go_wp2_with fail
  go_ret
  exact ⟨ret_bool hp.out, bel1 w _⟩

/-- what IsOpen answers -/
def opB (n : Int) (zs : List Int) (c b : Int) : Bool := vpB n zs c b && openB zs c b
theorem opB_false {n : Int} {zs : List Int} {c b : Int} (h : vpB n zs c b = false) : opB n zs c b = false := by unfold opB; rw [h]; rfl
theorem opB_true {n : Int} {zs : List Int} {c b : Int} (h : vpB n zs c b = true) : opB n zs c b = openB zs c b := by unfold opB; rw [h]; rfl
theorem vp_of {n : Int} {zs : List Int} {c b : Int} (h : vpB n zs c b = true) : Valid n zs ∧ IsPt n c b := by
  simpa [vpB, vsB, ptB] using h

end Go.Proofs.Ytklfpbidbiippaa
