/- CriticalParts of the model. -/
import Derived.Test.YtbnnblfgpdfmpaaCrS
import Derived.Test.YtbnnblfgpdfmpaaValid
namespace Go.Proofs.Ytbnnblfgpdfmpaa
open Go.RowKit Go.Joins

/-- what CriticalParts answers -/
def crR (n : Int) (zs : List Int) : List (Int × Int) := if vsB n zs = true then ofP (critL n.toNat zs) else []
theorem crR_no {n : Int} {zs : List Int} (h : vsB n zs = false) : crR n zs = [] := by unfold crR; rw [if_neg (by rw [h]; simp)]
theorem crR_yes {n : Int} {zs : List Int} (h : vsB n zs = true) : crR n zs = ofP (critL n.toNat zs) := if_pos h
theorem OwnsP.le {w : World} {base base' : Nat} {v : Value} {ps : List (Int × Int)} (h : OwnsP w base v ps) (hb : base' ≤ base) : OwnsP w base' v ps := ownsRow_le h hb
/-- a slice of parts of its own memory -/
def GivesP (ps : List (Int × Int)) (w : World) (e : Ending) (w' : World) : Prop := ∃ v, e = .returned v ∧ OwnsP w' w.heap.size v ps ∧ Below w.heap.size w w'
end Go.Proofs.Ytbnnblfgpdfmpaa
