/- The clearest first: the library's sort and the model's rows answer the same. -/
import Derived.Test.YtgebplpbnaeckaaGreatDoorMg22
import Derived.Test.YtgebplpbnaeckaaGreatDoorMg20
namespace Go.Proofs.YtgebplpbnaeckaaGreatDoor
open Go.RowKit Go.Joins

/-- the issues of one clearness among the first k -/
def rowF (f : Int → Int) (d : Int) : Nat → List Int
  | 0 => []
  | k + 1 => if f (k : Int) = d then rowF f d k ++ [(k : Int)] else rowF f d k
/-- .. of the t greatest -/
def rowsF (f : Int → Int) (n m : Nat) : Nat → List Int
  | 0 => []
  | t + 1 => rowsF f n m t ++ rowF f ((n : Int) - (t : Int)) m
theorem rowF_len (f : Int → Int) (d : Int) : ∀ k, (rowF f d k).length ≤ k
  | 0 => Nat.le_refl _
  | k + 1 => by
    have := rowF_len f d k
    unfold rowF
    split
    · rw [List.length_append]; simp; omega
    · omega
theorem rowsF_len (f : Int → Int) (n m : Nat) : ∀ t, (rowsF f n m t).length ≤ m * t
  | 0 => by simp [rowsF]
  | t + 1 => by
    have h1 := rowsF_len f n m t
    have h2 := rowF_len f ((n : Int) - (t : Int)) m
    unfold rowsF
    rw [List.length_append, Nat.mul_succ]
    omega
/-- all lists of m numbers up to n -/
def allL (n : Nat) : Nat → List (List Nat)
  | 0 => [[]]
  | m + 1 => (List.range (n + 1)).flatMap fun a => (allL n m).map fun l => a :: l
theorem mem_allL {n : Nat} : ∀ {m : Nat} {l : List Nat}, l.length = m → (∀ x ∈ l, x ≤ n) → l ∈ allL n m
  | 0, l, hl, _ => by simp [allL, List.length_eq_zero_iff.1 hl]
  | m + 1, [], hl, _ => by simp at hl
  | m + 1, a :: l, hl, h => by
    unfold allL
    rw [List.mem_flatMap]
    refine ⟨a, List.mem_range.2 (by have := h a (by simp); omega), List.mem_map.2 ⟨l, mem_allL (by simpa using hl) (fun x hx => h x (by simp [hx])), rfl⟩⟩
def rankOk (n : Nat) (l : List Nat) : Bool :=
  decide (clearL (n : Int) (l.map fun x : Nat => (x : Int)) = rowsF (leadV (n : Int) (l.map fun x : Nat => (x : Int))) n l.length (n + 1)) && ordB (l.length : Int) (clearL (n : Int) (l.map fun x : Nat => (x : Int)))
set_option maxRecDepth 100000 in
theorem rank_chk : ((List.range 6).all fun n => (List.range 4).all fun m => (allL n (m + 1)).all fun l => rankOk n l) = true := by decide +kernel
theorem rank_ok {n : Nat} {ss : List Int} (hn : n ≤ 5) (h1 : 0 < ss.length) (h4 : ss.length ≤ 4) (hs : ∀ x ∈ ss, 0 ≤ x ∧ x ≤ (n : Int)) :
    clearL (n : Int) ss = rowsF (leadV (n : Int) ss) n ss.length (n + 1) ∧ OrdOk (ss.length : Int) (clearL (n : Int) ss) := by
  obtain ⟨l, hl⟩ : ∃ l : List Nat, l.map (fun x : Nat => (x : Int)) = ss := by
    refine ⟨ss.map Int.toNat, ?_⟩
    rw [List.map_map]
    conv => rhs; rw [← List.map_id ss]
    refine List.map_congr_left fun x hx => ?_
    have := hs x hx
    simp only [Function.comp, id]
    omega
  have hll : l.length = ss.length := by rw [← hl, List.length_map]
  have h := List.all_eq_true.1 (List.all_eq_true.1 (List.all_eq_true.1 rank_chk n (List.mem_range.2 (by omega))) (ss.length - 1) (List.mem_range.2 (by omega))) l (mem_allL (by omega) (fun x hx => by
    have := hs (x : Int) (by rw [← hl]; exact List.mem_map.2 ⟨x, hx, rfl⟩)
    omega))
  unfold rankOk at h
  rw [Bool.and_eq_true, hl, hll] at h
  exact ⟨of_decide_eq_true h.1, ord_of h.2⟩
/-- what RankedRule answers -/
def rankV (n : Int) (zs vs : List Int) : Int := turnV n zs vs (clearL vs.length (supL n.toNat vs))
theorem supL_le {m : Nat} {vs : List Int} : ∀ x ∈ supL m vs, 0 ≤ x ∧ x ≤ (vs.length : Int) := by
  intro x hx
  simp [supL, supKL] at hx
  obtain ⟨j, _, rfl⟩ := hx
  have := supK_le vs j vs.length
  omega
theorem rankV_yes {n : Nat} {zs vs : List Int} (h : vvB n zs vs = true) : clearL vs.length (supL n vs) = rowsF (leadV vs.length (supL n vs)) vs.length n (vs.length + 1) ∧ OrdOk (n : Int) (clearL vs.length (supL n vs)) ∧ rankV n zs vs = ((turnK zs vs (clearL vs.length (supL n vs)) (clearL vs.length (supL n vs)).length).2 : Nat) := by
  have hv := vv_of h
  have h1 := hv.1.1
  have h2 := hv.2.2
  have hk := rank_ok (n := vs.length) (ss := supL n vs) (by omega) (by rw [supL_length]; omega) (by rw [supL_length]; omega) supL_le
  rw [supL_length] at hk
  refine ⟨hk.1, hk.2, ?_⟩
  unfold rankV
  rw [Int.toNat_natCast]
  exact turnV_yes h (ordB_true hk.2)
theorem rankV_no {n : Int} {zs vs : List Int} (h : vvB n zs vs = false) : rankV n zs vs = -1 := turnV_no1 h
end Go.Proofs.YtgebplpbnaeckaaGreatDoor
