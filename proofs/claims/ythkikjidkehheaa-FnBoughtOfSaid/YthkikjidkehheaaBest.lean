/- BestOf in the model and in the program. -/
import Derived.Test.YthkikjidkehheaaScoreOf
import Derived.Test.YthkikjidkehheaaSeat
import Derived.Deep.RegionHeld3
namespace Go.Proofs.Ythkikjidkehheaa
open Go.RowKit Go.Joins

/-- the greatest value among the first k of a list; -1 of none -/
def mxI (f : Int → Nat) (zs : List Int) : Nat → Int
  | 0 => -1
  | k + 1 => max (mxI f zs k) (f (zs.getD k 0))
/-- the greatest value among the first k of a list; 0 of none -/
def mxN (f : Int → Nat) (zs : List Int) : Nat → Nat
  | 0 => 0
  | k + 1 => max (mxN f zs k) (f (zs.getD k 0))
theorem mxI_pos (f : Int → Nat) (zs : List Int) : ∀ k, 0 < k → mxI f zs k = mxN f zs k
  | 0, h => by omega
  | 1, _ => by show max (-1 : Int) (f (zs.getD 0 0)) = ((max 0 (f (zs.getD 0 0)) : Nat) : Int); omega
  | k + 2, _ => by
    have ih := mxI_pos f zs (k + 1) (by omega)
    show max (mxI f zs (k + 1)) _ = ((max (mxN f zs (k + 1)) _ : Nat) : Int)
    rw [ih]; omega
theorem mxI_ge (f : Int → Nat) (zs : List Int) : ∀ k, ∀ j, j < k → (f (zs.getD j 0) : Int) ≤ mxI f zs k
  | 0, j, h => by omega
  | k + 1, j, h => by
    show _ ≤ max (mxI f zs k) (f (zs.getD k 0) : Int)
    rcases Nat.lt_or_ge j k with h1 | h1
    · have := mxI_ge f zs k j h1; omega
    · obtain rfl : j = k := by omega
      omega
theorem mxI_lo (f : Int → Nat) (zs : List Int) : ∀ k, -1 ≤ mxI f zs k
  | 0 => Int.le_refl _
  | k + 1 => by have := mxI_lo f zs k; show -1 ≤ max _ _; omega
/-- those of the first k whose value is m -/
def outK (f : Int → Nat) (zs : List Int) (m : Int) (k : Nat) : List Int := (zs.take k).filter fun z => (f z : Int) == m
theorem outK_same {f : Int → Nat} {zs : List Int} {m : Int} {k : Nat} (hk : k < zs.length) (h : (f zs[k] : Int) = m) : outK f zs m (k + 1) = outK f zs m k ++ [zs[k]] := by
  unfold outK
  rw [filter_take _ _ _ hk, if_pos (by rw [h]; exact beq_self_eq_true m)]
theorem outK_other {f : Int → Nat} {zs : List Int} {m : Int} {k : Nat} (hk : k < zs.length) (h : (f zs[k] : Int) ≠ m) : outK f zs m (k + 1) = outK f zs m k := by
  unfold outK
  rw [filter_take _ _ _ hk, if_neg (by simpa using h), List.append_nil]
theorem outK_none {f : Int → Nat} {zs : List Int} {m : Int} {k : Nat} (hk : k ≤ zs.length) (h : mxI f zs k < m) : outK f zs m k = [] := by
  unfold outK
  rw [List.filter_eq_nil_iff]
  intro z hz
  obtain ⟨j, hj, rfl⟩ := List.getElem_of_mem hz
  have hjk : j < k := by simp at hj; omega
  have := mxI_ge f zs k j hjk
  rw [getD_lt (by omega)] at this
  simp
  omega
theorem outK_le (f : Int → Nat) (zs : List Int) (m : Int) (k : Nat) : (outK f zs m k).length ≤ k := filter_le _ _ _

theorem comL_mem {m : Nat} {k : Int} {z : Int} (h : z ∈ comL m k) : 0 ≤ z ∧ z < m := by
  unfold comL at h
  obtain ⟨x, hx, rfl⟩ := List.mem_map.1 h
  have := (List.mem_filter.1 hx).1
  rw [List.mem_range] at this
  omega
theorem comL_pos {c k : Int} (h1 : 1 ≤ c ∧ c ≤ 5) (h2 : 1 ≤ k ∧ k ≤ c) : 0 < (comL (2 ^ c.toNat) k).length := by
  have h : ∀ c : Fin 6, ∀ k : Fin 6, k.val ≤ c.val → 0 < (comL (2 ^ c.val) ((k.val : Nat) : Int)).length := by decide +kernel
  have := h ⟨c.toNat, by omega⟩ ⟨k.toNat, by omega⟩ (by show k.toNat ≤ c.toNat; omega)
  rwa [Int.toNat_of_nonneg (by omega)] at this

/-- the score of a committee -/
def scF (q : Nat) (bs : List Int) (z : Int) : Nat := scoreV q bs z.toNat
theorem scF_le (q : Nat) (bs : List Int) (z : Int) : scF q bs z ≤ 147 * bs.length := scoreK_le _ _ _ _
theorem mxN_le (q : Nat) (bs zs : List Int) : ∀ k, mxN (scF q bs) zs k ≤ 147 * bs.length
  | 0 => Nat.zero_le _
  | k + 1 => by have := mxN_le q bs zs k; have := scF_le q bs (zs.getD k 0); show max _ _ ≤ _; omega
/-- the best of a list by a score -/
def bestL (q : Nat) (bs : List Int) (zs : List Int) : List Int := outK (scF q bs) zs (mxI (scF q bs) zs zs.length) zs.length
theorem bestL_le (q : Nat) (bs zs : List Int) : (bestL q bs zs).length ≤ zs.length := outK_le _ _ _ _
/-- what BestOf answers -/
def bestA (s : ByteArray) (c : Int) (bs : List Int) (k : Int) : List Int := if seatsB c bs k = true ∧ kindN s < 4 then bestL (kindN s) bs (comL (2 ^ c.toNat) k) else []
theorem bestA_yes {s : ByteArray} {c : Int} {bs : List Int} {k : Int} (h : seatsB c bs k = true) (h2 : kindN s < 4) : bestA s c bs k = bestL (kindN s) bs (comL (2 ^ c.toNat) k) := if_pos ⟨h, h2⟩
theorem bestA_seats {s : ByteArray} {c : Int} {bs : List Int} {k : Int} (h : seatsB c bs k = false) : bestA s c bs k = [] := if_neg (fun hh => by rw [h] at hh; cases hh.1)
theorem bestA_name {s : ByteArray} {c : Int} {bs : List Int} {k : Int} (h : ¬ kindN s < 4) : bestA s c bs k = [] := if_neg (fun hh => h hh.2)
theorem bestA_len (s : ByteArray) (c : Int) (bs : List Int) (k : Int) : (bestA s c bs k).length ≤ 32 := by
  unfold bestA
  split
  · rename_i h
    have h1 := (seats_of h.1).1.1
    exact Nat.le_trans (bestL_le _ _ _) (Nat.le_trans (comL_len _ _) (pow_le5 c h1.2))
  · simp


end Go.Proofs.Ythkikjidkehheaa
