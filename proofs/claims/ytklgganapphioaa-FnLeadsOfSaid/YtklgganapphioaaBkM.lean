/- Blocked spaces: plain mathematics. -/
import Derived.Test.YtklgganapphioaaLdM
namespace Go.Proofs.Ytklgganapphioaa
open Go.RowKit Go.Joins

/-- rows of K bits -/
def RC (K : Nat) (r : List Nat) : Prop := r.length = K ∧ ∀ x ∈ r, x < 2 ^ K
theorem RC.at {K : Nat} {r : List Nat} (h : RC K r) (k : Nat) : r.getD k 0 < 2 ^ K := by
  by_cases hk : k < r.length
  · rw [List.getD_eq_getElem?_getD, List.getElem?_eq_getElem hk]
    exact h.2 _ (List.getElem_mem hk)
  · rw [List.getD_eq_getElem?_getD, List.getElem?_eq_none (by omega)]
    exact Nat.two_pow_pos K
theorem RC.set {K : Nat} {r : List Nat} (h : RC K r) {f y : Nat} (hy : y < 2 ^ K) : RC K (r.set f y) := by
  refine ⟨by rw [List.length_set]; exact h.1, fun x hx => ?_⟩
  rcases List.mem_or_eq_of_mem_set hx with h1 | h1
  · exact h.2 x h1
  · rw [h1]; exact hy
theorem RC.upd {K : Nat} {r : List Nat} (h : RC K r) {f t : Nat} (ht : t < K) : RC K (upd r f t) := h.set (Nat.or_lt_two_pow (h.at f) (Nat.pow_lt_pow_right (by omega) ht))
theorem rc_stK {N : Nat} {m : Nat × Nat} {j kk : Nat} (hk : kk ≤ N) {r : List Nat} (h : RC (2 * N) r) : RC (2 * N) (stK m j kk r) :=
  foldl_inv (RC (2 * N)) _ _ (fun r k hkm hr => by
    split
    · exact hr.upd (opp_lt m (N := N) (k := k) (by have := List.mem_range.1 hkm; omega))
    · exact hr) h
theorem rc_stJ {N : Nat} {m : Nat × Nat} {jj : Nat} {r : List Nat} (h : RC (2 * N) r) : RC (2 * N) (stJ N m jj r) :=
  foldl_inv (RC (2 * N)) _ _ (fun _ _ _ hr => rc_stK (Nat.le_refl _) hr) h
theorem rc_stI (N : Nat) (L : List (Nat × Nat)) (ii : Nat) : RC (2 * N) (stI N L ii) :=
  foldl_inv (RC (2 * N)) _ _ (fun _ _ _ hr => rc_stJ hr) ⟨by simp, fun x hx => by rw [List.eq_of_mem_replicate hx]; exact Nat.two_pow_pos _⟩
theorem rc_clS {K : Nat} {r : List Nat} (h : RC K r) (k i : Nat) : RC K (clS r k i) := by
  unfold clS
  split
  · exact h.set (Nat.or_lt_two_pow (h.at i) (h.at k))
  · exact h
theorem rc_clI {K : Nat} {r : List Nat} (h : RC K r) (k ii : Nat) : RC K (clI k ii r) := foldl_inv (RC K) _ _ (fun _ _ _ hr => rc_clS hr _ _) h
theorem rc_clK {K : Nat} {r : List Nat} (h : RC K r) (kk : Nat) : RC K (clK K kk r) := foldl_inv (RC K) _ _ (fun _ _ _ hr => rc_clI hr _ _) h
/-- all lead to all -/
def allB (K : Nat) (r : List Nat) : Bool := (List.range K).all fun i => (List.range K).all fun k => i == k || bitN (r.getD i 0) k == 1
theorem allB_iff (K : Nat) (r : List Nat) : allB K r = true ↔ ∀ i, i < K → ∀ k, k < K → i ≠ k → bitN (r.getD i 0) k = 1 := by
  unfold allB
  simp only [List.all_eq_true, List.mem_range, Bool.or_eq_true, beq_iff_eq]
  constructor
  · intro h i hi k hk hne
    rcases h i hi k hk with e | e
    · exact absurd e hne
    · exact e
  · intro h i hi k hk
    by_cases e : i = k
    · exact Or.inl e
    · exact Or.inr (h i hi k hk e)
theorem bitN_testBit (a k : Nat) : bitN a k = 1 ↔ a.testBit k = true := by
  unfold bitN
  rw [Nat.testBit_eq_decide_div_mod_eq]
  simp
theorem full_iff {K a i : Nat} (ha : a < 2 ^ K) (hi : i < K) : a ||| 2 ^ i = 2 ^ K - 1 ↔ ∀ k, k < K → i ≠ k → bitN a k = 1 := by
  constructor
  · intro h k hk hne
    rw [bitN_testBit]
    have h1 := congrArg (fun x => x.testBit k) h
    simp only [Nat.testBit_or, Nat.testBit_two_pow, Nat.testBit_two_pow_sub_one] at h1
    rw [decide_eq_false hne, decide_eq_true hk, Bool.or_false] at h1
    exact h1
  · intro h
    refine Nat.eq_of_testBit_eq fun k => ?_
    rw [Nat.testBit_or, Nat.testBit_two_pow, Nat.testBit_two_pow_sub_one]
    by_cases hk : k < K
    · rw [decide_eq_true hk]
      by_cases hne : i = k
      · rw [decide_eq_true hne, Bool.or_true]
      · rw [(bitN_testBit a k).1 (h k hk hne), Bool.true_or]
    · rw [decide_eq_false hk, decide_eq_false (by omega), Bool.or_false]
      exact Nat.testBit_lt_two_pow (Nat.lt_of_lt_of_le ha (Nat.pow_le_pow_right (by omega) (by omega)))
/-- what IsBlocked answers -/
def blkB (n : Int) (zs : List Int) : Bool := vsB n zs && allB (2 * n.toNat) (ldR n zs)
theorem blkB_no {n : Int} {zs : List Int} (h : vsB n zs = false) : blkB n zs = false := by unfold blkB; rw [h]; rfl
theorem blkB_yes {n : Int} {zs : List Int} (h : vsB n zs = true) : blkB n zs = allB (2 * n.toNat) (ldR n zs) := by unfold blkB; rw [h]; rfl
theorem blk_no {n : Int} {zs : List Int} (h : vsB n zs = true) {i k : Nat} (hi : i < 2 * n.toNat) (hk : k < 2 * n.toNat) (hne : i ≠ k) (hb : bitN ((ldR n zs).getD i 0) k = 0) : blkB n zs = false := by
  rw [blkB_yes h]
  cases ha : allB (2 * n.toNat) (ldR n zs) with
  | false => rfl
  | true =>
    have := (allB_iff _ _).1 ha i hi k hk hne
    rw [hb] at this
    cases this
theorem ldR_rc {N : Nat} {zs : List Int} (h : vsB (N : Int) zs = true) : RC (2 * N) (ldR (N : Int) zs) := by
  rw [ldR_yes h]
  exact rc_clK (rc_stI N _ _) _
end Go.Proofs.Ytklgganapphioaa
