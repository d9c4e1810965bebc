/- Votes: slices.ContainsFunc with any test; ValidVotes in the model and in the program. -/
import Derived.Test.YtbmodiobgkmngaaSV
import Derived.Test.YtbmodiobgkmngaaHas
import Derived.Deep.RegionHeld3
import Derived.Outline
namespace Go.Proofs.Ytbmodiobgkmngaa
open Go.RowKit Go.Joins

theorem any_true {p : Int → Bool} {zs : List Int} {k : Nat} (hk : k < zs.length) (h : p zs[k] = true) : zs.any p = true := List.any_eq_true.2 ⟨zs[k], mem_of_at hk, h⟩
theorem any_false {p : Int → Bool} {zs : List Int} (h : ∀ j, j < zs.length → p (zs.getD j 0) = false) : zs.any p = false := by
  rw [List.any_eq_false]
  intro x hx
  obtain ⟨j, hj, rfl⟩ := List.getElem_of_mem hx
  have := h j hj
  rw [getD_lt hj] at this
  simp [this]

/-- What slices.IndexFunc leaves, with a test p. -/
def IdxGPost (p : Int → Bool) (zs : List Int) (w : World) (e : Ending) (w' : World) : Prop :=
  ∃ r : Int, ((zs.any p = true ∧ 0 ≤ r) ∨ (zs.any p = false ∧ r = -1)) ∧ r ≤ 1048576 ∧ e = .returned (.int .i64 r) ∧ Below w.heap.size w w'

def VotesOk (zs vs : List Int) : Prop := (∀ j, j < vs.length → vs.getD j 0 ∈ zs) ∧ (1 ≤ (vs.length : Int) ∧ (vs.length : Int) ≤ 5)
instance (zs vs : List Int) : Decidable (VotesOk zs vs) := by unfold VotesOk; infer_instance
def votesB (zs vs : List Int) : Bool := decide (VotesOk zs vs)
theorem votesB_true {zs vs : List Int} (h : VotesOk zs vs) : votesB zs vs = true := by simpa [votesB] using h
theorem votesB_false {zs vs : List Int} (h : ¬ VotesOk zs vs) : votesB zs vs = false := by simpa [votesB] using h
theorem votes_of {zs vs : List Int} (h : votesB zs vs = true) : VotesOk zs vs := by simpa [votesB] using h
theorem VotesOk.mem {zs vs : List Int} (h : VotesOk zs vs) : ∀ x ∈ vs, x ∈ zs := by
  intro x hx
  obtain ⟨j, hj, rfl⟩ := List.getElem_of_mem hx
  have := h.1 j hj
  rwa [getD_lt hj] at this
/-- what ValidVotes answers -/
def vvB (n : Int) (zs vs : List Int) : Bool := vsB n zs && votesB zs vs
theorem vvB_no {n : Int} {zs vs : List Int} (h : vsB n zs = false) : vvB n zs vs = false := by unfold vvB; rw [h]; rfl
theorem vvB_yes {n : Int} {zs vs : List Int} (h : vsB n zs = true) : vvB n zs vs = votesB zs vs := by unfold vvB; rw [h]; rfl
theorem vv_of {n : Int} {zs vs : List Int} (h : vvB n zs vs = true) : Valid n zs ∧ VotesOk zs vs := by
  simpa [vvB, vsB, votesB] using h


theorem any_not_has {zs vs : List Int} (h : ∀ j, j < vs.length → vs.getD j 0 ∈ zs) : (vs.any fun x => !hasB zs x) = false := any_false fun j hj => by rw [hasB_true (h j hj)]; rfl
theorem votes_any {zs vs : List Int} (hl : 1 ≤ (vs.length : Int) ∧ (vs.length : Int) ≤ 5) : votesB zs vs = !(vs.any fun x => !hasB zs x) := by
  by_cases h : ∀ j, j < vs.length → vs.getD j 0 ∈ zs
  · rw [votesB_true ⟨h, hl⟩, any_not_has h]; rfl
  · rw [votesB_false (fun hh : VotesOk zs vs => h hh.1)]
    cases ha : vs.any fun x => !hasB zs x
    · exfalso
      apply h
      intro j hj
      rw [List.any_eq_false] at ha
      have := ha _ (mem_of_at hj)
      rw [getD_lt hj]
      simpa [hasB] using this
    · rfl

end Go.Proofs.Ytbmodiobgkmngaa
