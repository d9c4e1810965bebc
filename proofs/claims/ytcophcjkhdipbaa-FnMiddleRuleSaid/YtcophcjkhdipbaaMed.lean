/- IsMedian and IsEven: what they answer; the model's loops. -/
import Derived.Test.YtcophcjkhdipbaaJoinW
import Derived.Deep.RegionHeld3
import Derived.Deep.RegionWith
namespace Go.Proofs.Ytcophcjkhdipbaa
open Go.RowKit Go.Joins

theorem asc_valid {n : Int} {zs : List Int} (h : Valid n zs) : ∀ i j, i < j → j < zs.length → zs.getD i 0 < zs.getD j 0 := by
  intro i j hij hj
  induction j with
  | zero => omega
  | succ j ih =>
    have hs := (h.2.2 (j + 1) hj).2 (by omega)
    rw [Nat.add_sub_cancel] at hs
    rcases Nat.lt_or_ge i j with h1 | h1
    · have := ih h1 (by omega)
      omega
    · obtain rfl : i = j := by omega
      exact hs
theorem valid_nat {n : Int} {zs : List Int} (h : Valid n zs) : Asc (zs.map Int.toNat) ∧ (∀ x ∈ zs.map Int.toNat, x < 16) := by
  constructor
  · unfold Asc
    rw [List.pairwise_iff_getElem]
    intro i j hi hj hij
    simp only [List.length_map] at hi hj
    have h1 := asc_valid h i j hij hj
    rw [getD_lt hi, getD_lt hj] at h1
    have h2 := valid_range h _ (mem_of_at hi)
    simp only [List.getElem_map]
    omega
  · intro x hx
    obtain ⟨y, hy, rfl⟩ := List.mem_map.1 hx
    have := valid_range h y hy
    omega
/-- what IsMedian, IsEven answer -/
def closedB (f : Nat → Nat → Nat → Nat) (n : Int) (zs : List Int) : Bool := vsB n zs && ((joined f (zs.map Int.toNat)).length == zs.length)
theorem closedB_no {f : Nat → Nat → Nat → Nat} {n : Int} {zs : List Int} (h : vsB n zs = false) : closedB f n zs = false := by unfold closedB; rw [h]; rfl
/-- what three of the space make is in the space -/
def In3 (f : Nat → Nat → Nat → Nat) (zs : List Int) (i j k : Nat) : Prop := ((f (zN zs i) (zN zs j) (zN zs k) : Nat) : Int) ∈ zs
theorem closed_iff {f : Nat → Nat → Nat → Nat} (J : Join f) {n : Int} {zs : List Int} (h : Valid n zs) : closedB f n zs = true ↔ ∀ i j k, i < zs.length → j < zs.length → k < zs.length → In3 f zs i j k := by
  have ⟨ha, hlt⟩ := valid_nat h
  have hz : ∀ i, i < zs.length → (zs.map Int.toNat).getD i 0 = zN zs i := fun i hi => by
    unfold zN
    simp [List.getD_eq_getElem?_getD, hi]
  have hmem : ∀ t : Nat, t ∈ zs.map Int.toNat ↔ (t : Int) ∈ zs := fun t => by
    rw [List.mem_map]
    constructor
    · rintro ⟨y, hy, rfl⟩
      have := valid_range h y hy
      rwa [Int.toNat_of_nonneg this.1]
    · intro ht
      exact ⟨t, ht, by simp⟩
  have key := joined_len_iff J (zs.map Int.toNat) ha hlt
  rw [List.length_map] at key
  unfold closedB
  rw [vsB_true h, Bool.true_and, beq_iff_eq, key]
  constructor
  · intro hc i j k hi hj hk
    exact (hmem _).1 (hc _ ⟨i, j, k, by simpa using hi, by simpa using hj, by simpa using hk, by rw [hz i hi, hz j hj, hz k hk]⟩)
  · rintro hc x ⟨i, j, k, hi, hj, hk, rfl⟩
    have hi' : i < zs.length := by simpa using hi
    have hj' : j < zs.length := by simpa using hj
    have hk' : k < zs.length := by simpa using hk
    rw [hz i hi', hz j hj', hz k hk']
    exact (hmem _).2 (hc i j k hi' hj' hk')
theorem zN_at {n : Int} {zs : List Int} (h : Valid n zs) {i : Nat} (hi : i < zs.length) : zs[i] = (zN zs i : Int) ∧ zN zs i < 16 := by
  have := valid_range h _ (mem_of_at hi)
  unfold zN
  rw [getD_lt hi]
  constructor
  · rw [Int.toNat_of_nonneg this.1]
  · omega

end Go.Proofs.Ytcophcjkhdipbaa
