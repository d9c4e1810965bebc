/- ApplyRule, in the model and in the program. -/
import Derived.Test.YtbmodiobgkmngaaApply
namespace Go.Proofs.Ytbmodiobgkmngaa
open Go.RowKit Go.Joins

def ApplyOk (n : Int) (zs : List Int) (v : Int) (ws vs : List Int) : Prop := vrB n zs v ws = true ∧ votesB zs vs = true ∧ (vs.length : Int) = v
instance (n : Int) (zs : List Int) (v : Int) (ws vs : List Int) : Decidable (ApplyOk n zs v ws vs) := by unfold ApplyOk; infer_instance
/-- what ApplyRule answers -/
def applyR (n : Int) (zs : List Int) (v : Int) (ws vs : List Int) : Int := if ApplyOk n zs v ws vs then (applyK vs ws ws.length : Nat) else -1
theorem applyR_yes {n v : Int} {zs ws vs : List Int} (h : ApplyOk n zs v ws vs) : applyR n zs v ws vs = (applyK vs ws ws.length : Nat) := if_pos h
theorem applyR_no {n v : Int} {zs ws vs : List Int} (h : ¬ ApplyOk n zs v ws vs) : applyR n zs v ws vs = -1 := if_neg h
theorem vote_range {n : Int} {zs vs : List Int} (h : Valid n zs) (ho : VotesOk zs vs) : ∀ x ∈ vs, 0 ≤ x ∧ x ≤ 255 := fun x hx => by
  have := valid_range h x (ho.mem x hx)
  omega

end Go.Proofs.Ytbmodiobgkmngaa
