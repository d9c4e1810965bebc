/- A judgment of a space as a number. -/
import Derived.Test.YtbmodiobgkmngaaBit
import Derived.Test.YtbmodiobgkmngaaValid
namespace Go.Proofs.Ytbmodiobgkmngaa
open Go.RowKit Go.Joins

theorem valid_lt {N : Nat} {zs : List Int} (h : Valid (N : Int) zs) {z : Int} (hz : z ∈ zs) : 0 ≤ z ∧ z.toNat < 2 ^ N := by
  obtain ⟨i, hi, rfl⟩ := List.getElem_of_mem hz
  have h1 := (h.2.2 i hi).1
  rw [getD_lt hi] at h1
  have e : pw (N : Int) = ((2 ^ N : Nat) : Int) := by unfold pw; rw [Int.toNat_natCast]
  omega
end Go.Proofs.Ytbmodiobgkmngaa
