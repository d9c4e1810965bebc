/- CommitteesOf, in the model and in the program. -/
import Derived.Test.YthkikjidkehheaaBal
namespace Go.Proofs.Ythkikjidkehheaa
open Go.RowKit Go.Joins

theorem countOfNames_any (x : Nat) (w : World) (hx : x < 32) : Calls Try.prog 63 #[.int .i64 x] w fun e w' => e = .returned (.int .i64 (pc x)) ∧ w = w' := by
  go_enter Try.func63, Try.ntmps63
  go_wp2_with (go_at_call 73; refine (onesCount_any _ _ hx).mono ?_; rintro e w' ⟨rfl, rfl⟩)
  go_ret
  exact ⟨rfl, rfl⟩
/-- the first m numbers with k digits 1 -/
def comL (m : Nat) (k : Int) : List Int := ((List.range m).filter fun x => decide ((pc x : Int) = k)).map fun (x : Nat) => (x : Int)
theorem comL_zero (k : Int) : comL 0 k = [] := rfl
theorem comL_len (m : Nat) (k : Int) : (comL m k).length ≤ m := by
  unfold comL
  rw [List.length_map]
  exact Nat.le_trans (List.length_filter_le _ _) (by simp)
theorem comL_yes {m : Nat} {k : Int} (h : (pc m : Int) = k) : comL (m + 1) k = comL m k ++ [(m : Int)] := by
  unfold comL
  rw [List.range_succ, List.filter_append, List.map_append]
  congr 1
  rw [List.filter_cons_of_pos (by simpa using h)]
  rfl
theorem comL_no {m : Nat} {k : Int} (h : ¬ (pc m : Int) = k) : comL (m + 1) k = comL m k := by
  unfold comL
  rw [List.range_succ, List.filter_append, List.filter_cons_of_neg (by simpa using h)]
  simp
/-- what CommitteesOf answers -/
def comA (c k : Int) : List Int := if (1 ≤ c ∧ c ≤ 5) ∧ (1 ≤ k ∧ k ≤ c) then comL (2 ^ c.toNat) k else []
theorem comA_yes {c k : Int} (h : (1 ≤ c ∧ c ≤ 5) ∧ (1 ≤ k ∧ k ≤ c)) : comA c k = comL (2 ^ c.toNat) k := if_pos h
theorem comA_no {c k : Int} (h : ¬ ((1 ≤ c ∧ c ≤ 5) ∧ (1 ≤ k ∧ k ≤ c))) : comA c k = [] := if_neg h
theorem pow_le5 (c : Int) (h : c ≤ 5) : 2 ^ c.toNat ≤ 32 := by
  have h1 : c.toNat ≤ 5 := by omega
  have : 2 ^ c.toNat ≤ 2 ^ 5 := Nat.pow_le_pow_right (by omega) h1
  omega
theorem comA_len (c k : Int) : (comA c k).length ≤ 32 := by
  unfold comA
  split
  · rename_i h
    exact Nat.le_trans (comL_len _ _) (pow_le5 c h.1.2)
  · simp

end Go.Proofs.Ythkikjidkehheaa
