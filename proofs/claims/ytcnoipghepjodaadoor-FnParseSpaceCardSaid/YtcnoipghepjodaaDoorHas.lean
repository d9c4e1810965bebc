/- Whether a list has a number: the model's loop and slices.Contains; InSpace. -/
import Derived.Test.YtcnoipghepjodaaDoorValid
namespace Go.Proofs.YtcnoipghepjodaaDoor
open Go.RowKit Go.Joins

def hasB (zs : List Int) (x : Int) : Bool := decide (x ∈ zs)
theorem mem_of_at {zs : List Int} {k : Nat} (h : k < zs.length) : zs[k] ∈ zs := List.getElem_mem h
theorem not_mem_of {zs : List Int} {x : Int} (h : ∀ j, j < zs.length → zs.getD j 0 ≠ x) : x ∉ zs := by
  intro hm
  obtain ⟨j, hj, e⟩ := List.getElem_of_mem hm
  exact h j hj (by rw [getD_lt hj]; exact e)
theorem hasB_true {zs : List Int} {x : Int} (h : x ∈ zs) : hasB zs x = true := by simpa [hasB] using h
theorem hasB_false {zs : List Int} {x : Int} (h : x ∉ zs) : hasB zs x = false := by simpa [hasB] using h

/-- What slices.Index leaves. -/
def IdxPost (zs : List Int) (x : Int) (w : World) (e : Ending) (w' : World) : Prop :=
  ∃ r : Int, ((x ∈ zs ∧ 0 ≤ r) ∨ (x ∉ zs ∧ r = -1)) ∧ r ≤ 1048576 ∧ e = .returned (.int .i64 r) ∧ Below w.heap.size w w'

/-- what InSpace answers -/
def inB (n : Int) (zs : List Int) (x : Int) : Bool := vsB n zs && hasB zs x
theorem inB_false {n : Int} {zs : List Int} {x : Int} (h : vsB n zs = false) : inB n zs x = false := by unfold inB; rw [h]; rfl
theorem inB_true {n : Int} {zs : List Int} {x : Int} (h : vsB n zs = true) : inB n zs x = hasB zs x := by unfold inB; rw [h]; rfl

end Go.Proofs.YtcnoipghepjodaaDoor
