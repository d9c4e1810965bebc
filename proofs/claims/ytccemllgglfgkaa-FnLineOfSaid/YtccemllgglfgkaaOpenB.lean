/- Whether a judgment has all answers of a part: plain mathematics. -/
import Derived.Test.YtccemllgglfgkaaBits
import Derived.Test.YtccemllgglfgkaaHas
namespace Go.Proofs.Ytccemllgglfgkaa
open Go.RowKit Go.Joins

def openB (zs : List Int) (c b : Int) : Bool := zs.any fun x => hpB x c b
theorem openB_true {zs : List Int} {c b : Int} {k : Nat} (hk : k < zs.length) (h : hpB zs[k] c b = true) : openB zs c b = true := by
  unfold openB; rw [List.any_eq_true]; exact ⟨zs[k], mem_of_at hk, h⟩
theorem openB_false {zs : List Int} {c b : Int} (h : ∀ j, j < zs.length → hpB (zs.getD j 0) c b = false) : openB zs c b = false := by
  unfold openB; rw [List.any_eq_false]
  intro x hx
  obtain ⟨j, hj, rfl⟩ := List.getElem_of_mem hx
  have := h j hj
  rw [getD_lt hj] at this
  simp [this]
end Go.Proofs.Ytccemllgglfgkaa
