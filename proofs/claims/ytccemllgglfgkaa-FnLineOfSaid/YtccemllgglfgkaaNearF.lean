/- The model's nearest, for whatever is to be least; the judgments than which no other one is better. -/
import Derived.Test.YtccemllgglfgkaaSV
import Derived.Test.YtccemllgglfgkaaHas
import Derived.Outline
namespace Go.Proofs.Ytccemllgglfgkaa
open Go.RowKit Go.Joins

/-- the least of the first k -/
def leastF (f : Int → Nat) (zs : List Int) : Nat → Nat
  | 0 => f (zs.getD 0 0)
  | k + 1 => min (leastF f zs k) (f (zs.getD k 0))
def nearF (f : Int → Nat) (zs : List Int) (y : Int) : Bool := f y == leastF f zs zs.length
theorem leastF_le (f : Int → Nat) (zs : List Int) : ∀ (k j : Nat), j < k → leastF f zs k ≤ f (zs.getD j 0)
  | 0, j, h => by omega
  | k + 1, j, h => by
    unfold leastF
    rcases Nat.lt_or_ge j k with hlt | hge
    · exact Nat.le_trans (Nat.min_le_left _ _) (leastF_le f zs k j hlt)
    · obtain rfl : j = k := by omega
      exact Nat.min_le_right _ _
theorem leastF_at (f : Int → Nat) (zs : List Int) (hpos : 0 < zs.length) : ∀ k, k ≤ zs.length → ∃ z ∈ zs, leastF f zs k = f z
  | 0, _ => ⟨zs[0], mem_of_at hpos, by unfold leastF; rw [getD_lt hpos]⟩
  | k + 1, h => by
    obtain ⟨z, hz, e⟩ := leastF_at f zs hpos k (by omega)
    unfold leastF
    rcases Nat.le_total (leastF f zs k) (f (zs.getD k 0)) with hle | hle
    · exact ⟨z, hz, by rw [Nat.min_eq_left hle]; exact e⟩
    · refine ⟨zs[k], mem_of_at h, ?_⟩
      rw [Nat.min_eq_right hle, getD_lt (show k < zs.length from h)]
/-- the judgments than which by b no other one is better -/
def unbP (b : Int → Int → Bool) (zs : List Int) (x : Int) : Bool := !(zs.any fun y => b y x)
def unbL (b : Int → Int → Bool) (zs : List Int) : List Int := zs.filter (unbP b zs)
theorem unbP_no {b : Int → Int → Bool} {zs : List Int} {x : Int} (h : ∃ y ∈ zs, b y x = true) : unbP b zs x = false := by
  unfold unbP
  rw [Bool.not_eq_false', List.any_eq_true]
  exact h
theorem unbP_yes {b : Int → Int → Bool} {zs : List Int} {x : Int} (h : ∀ y ∈ zs, b y x = false) : unbP b zs x = true := by
  unfold unbP
  rw [Bool.not_eq_true', List.any_eq_false]
  intro y hy
  rw [h y hy]; decide
theorem unb_congr {b c : Int → Int → Bool} {zs : List Int} (h : ∀ x ∈ zs, ∀ y ∈ zs, b y x = c y x) : unbL b zs = unbL c zs := by
  unfold unbL
  refine List.filter_congr fun x hx => ?_
  unfold unbP
  rw [Bool.not_inj_iff, Bool.eq_iff_iff, List.any_eq_true, List.any_eq_true]
  exact ⟨fun ⟨y, hy, e⟩ => ⟨y, hy, by rw [← h x hx y hy]; exact e⟩, fun ⟨y, hy, e⟩ => ⟨y, hy, by rw [h x hx y hy]; exact e⟩⟩
theorem unb_near (f : Int → Nat) (zs : List Int) : unbL (fun y x => decide (f y < f x)) zs = zs.filter (nearF f zs) := by
  unfold unbL
  refine List.filter_congr fun x hx => ?_
  obtain ⟨j, hj, rfl⟩ := List.getElem_of_mem hx
  have hle := leastF_le f zs zs.length j hj
  rw [getD_lt hj] at hle
  obtain ⟨z, hz, e⟩ := leastF_at f zs (by omega) zs.length (Nat.le_refl _)
  unfold nearF unbP
  rw [Bool.eq_iff_iff, Bool.not_eq_true', List.any_eq_false, beq_iff_eq]
  refine ⟨fun h => ?_, fun h y hy => ?_⟩
  · have := h z hz
    simp only [decide_eq_true_eq] at this
    omega
  · obtain ⟨i, hi, rfl⟩ := List.getElem_of_mem hy
    have := leastF_le f zs zs.length i hi
    rw [getD_lt hi] at this
    simp only [decide_eq_true_eq]
    omega
/-- the distances of all of a list -/
def farL (f : Int → Nat) (zs : List Int) : List Int := zs.map fun y => (f y : Int)
theorem farL_length (f : Int → Nat) (zs : List Int) : (farL f zs).length = zs.length := by simp [farL]
theorem farL_getD (f : Int → Nat) (zs : List Int) (k : Nat) (hk : k < zs.length) : (farL f zs).getD k 0 = (f zs[k] : Int) := by
  simp [farL, List.getD_eq_getElem?_getD, hk]
theorem farL_take (f : Int → Nat) (zs : List Int) (k : Nat) (hk : k < zs.length) : farL f (zs.take (k + 1)) = farL f (zs.take k) ++ [(f zs[k] : Int)] := by
  unfold farL
  rw [List.take_add_one, List.getElem?_eq_getElem hk, List.map_append]
  rfl

end Go.Proofs.Ytccemllgglfgkaa
