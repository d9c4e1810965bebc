/- Issues flipped and dropped: plain mathematics. -/
import Derived.Test.YtbnnblfgpdfmpaaSrt
import Derived.Test.YtbnnblfgpdfmpaaHas
import Derived.Test.YtbnnblfgpdfmpaaBit
import Derived.Test.YtbnnblfgpdfmpaaVlt
namespace Go.Proofs.Ytbnnblfgpdfmpaa
open Go.RowKit Go.Joins

/-- the numbers below t with something, ascending -/
def pkK (p : Nat → Bool) (t : Nat) : List Int := ((List.range t).filter p).map fun (x : Nat) => (x : Int)
theorem pkK_yes {p : Nat → Bool} {t : Nat} (h : p t = true) : pkK p (t + 1) = pkK p t ++ [(t : Int)] := by
  unfold pkK; rw [List.range_succ, List.filter_append, List.map_append]; simp [h]
theorem pkK_no {p : Nat → Bool} {t : Nat} (h : p t = false) : pkK p (t + 1) = pkK p t := by
  unfold pkK; rw [List.range_succ, List.filter_append, List.map_append]; simp [h]
theorem pkK_len (p : Nat → Bool) (t : Nat) : (pkK p t).length ≤ t := by
  unfold pkK
  rw [List.length_map]
  refine Nat.le_trans (List.length_filter_le _ _) ?_
  simp
theorem pkK_asc (p : Nat → Bool) (t : Nat) : (pkK p t).Pairwise (· < ·) := by
  unfold pkK
  rw [List.pairwise_map]
  exact ((List.pairwise_lt_range).filter p).imp fun h => by omega
theorem pkK_mem {p : Nat → Bool} {t : Nat} {x : Int} : x ∈ pkK p t ↔ ∃ u : Nat, u < t ∧ p u = true ∧ (u : Int) = x := by
  unfold pkK
  rw [List.mem_map]
  constructor
  · rintro ⟨u, hu, e⟩
    rw [List.mem_filter, List.mem_range] at hu
    exact ⟨u, hu.1, hu.2, e⟩
  · rintro ⟨u, h1, h2, e⟩
    exact ⟨u, List.mem_filter.2 ⟨List.mem_range.2 h1, h2⟩, e⟩
theorem unq_pk {f : Int → Int} {zs : List Int} {p : Nat → Bool} {t : Nat} (h1 : ∀ z ∈ zs, ∃ u : Nat, u < t ∧ p u = true ∧ (u : Int) = f z) (h2 : ∀ u : Nat, u < t → p u = true → ∃ z ∈ zs, f z = (u : Int)) : unq (zs.map f) = pkK p t := by
  refine unq_eq (pkK_asc p t) fun x => ?_
  rw [pkK_mem, List.mem_map]
  constructor
  · rintro ⟨u, a, b, rfl⟩
    exact h2 u a b
  · rintro ⟨z, hz, rfl⟩
    exact h1 z hz
theorem hasZ_iff {zs : List Int} {x : Int} : hasB zs x = true ↔ x ∈ zs := by unfold hasB; exact decide_eq_true_iff
/-- whether a space is valid and has an issue -/
def hiB (n : Int) (zs : List Int) (j : Int) : Bool := vsB n zs && (decide (0 ≤ j) && decide (j < n))
theorem hiB_iff {n j : Int} {zs : List Int} : hiB n zs j = true ↔ vsB n zs = true ∧ 0 ≤ j ∧ j < n := by
  unfold hiB
  rw [Bool.and_eq_true, Bool.and_eq_true, decide_eq_true_iff, decide_eq_true_iff]

/-! ### flipped -/
def flipI (j : Nat) (x : Int) : Int := ((x.toNat ^^^ 2 ^ j : Nat) : Int)
def flP (zs : List Int) (j u : Nat) : Bool := hasB zs ((u ^^^ 2 ^ j : Nat) : Int)
theorem flip_pk {N j : Nat} {zs : List Int} (hV : Valid (N : Int) zs) (hj : j < N) : unq (zs.map (flipI j)) = pkK (flP zs j) (2 ^ N) := by
  have h2 : 2 ^ j < 2 ^ N := Nat.pow_lt_pow_right (by omega) hj
  refine unq_pk (fun z hz => ?_) fun u hu hp => ?_
  · have h1 := valid_lt hV hz
    refine ⟨z.toNat ^^^ 2 ^ j, Nat.xor_lt_two_pow h1.2 h2, ?_, rfl⟩
    unfold flP
    rw [hasZ_iff, Nat.xor_assoc, Nat.xor_self, Nat.xor_zero, Int.toNat_of_nonneg h1.1]
    exact hz
  · unfold flP at hp
    rw [hasZ_iff] at hp
    refine ⟨_, hp, ?_⟩
    unfold flipI
    rw [Int.toNat_natCast, Nat.xor_assoc, Nat.xor_self, Nat.xor_zero]
/-- what FlipIssue gives -/
def fpN (n : Int) (zs : List Int) (j : Int) : Int := if hiB n zs j = true then n else 0
def fpL (n : Int) (zs : List Int) (j : Int) : List Int := if hiB n zs j = true then unq (zs.map (flipI j.toNat)) else []

/-! ### dropped -/
def dropN (j x : Nat) : Nat := x % 2 ^ j + 2 ^ j * (x / 2 ^ (j + 1))
def dropI (j : Nat) (x : Int) : Int := ((dropN j x.toNat : Nat) : Int)
def wideN (j u : Nat) : Nat := u % 2 ^ j + (u - u % 2 ^ j) * 2
def dpP (zs : List Int) (j u : Nat) : Bool := hasB zs ((wideN j u : Nat) : Int) || hasB zs ((wideN j u + 2 ^ j : Nat) : Int)
theorem drop_chk : ∀ N : Fin 5, ∀ j : Fin 4, ∀ z : Fin 16, j.val < N.val → z.val < 2 ^ N.val → dropN j.val z.val < 2 ^ (N.val - 1) ∧ (wideN j.val (dropN j.val z.val) = z.val ∨ wideN j.val (dropN j.val z.val) + 2 ^ j.val = z.val) := by decide +kernel
theorem wide_chk : ∀ j : Fin 4, ∀ u : Fin 8, dropN j.val (wideN j.val u.val) = u.val ∧ dropN j.val (wideN j.val u.val + 2 ^ j.val) = u.val := by decide +kernel
theorem drop_pk {N j : Nat} {zs : List Int} (hV : Valid (N : Int) zs) (hj : j < N) : unq (zs.map (dropI j)) = pkK (dpP zs j) (2 ^ (N - 1)) := by
  have hN : N ≤ 4 := by have := hV.1; omega
  have p16 : 2 ^ N ≤ 2 ^ 4 := Nat.pow_le_pow_right (by omega) hN
  have p8 : 2 ^ (N - 1) ≤ 2 ^ 3 := Nat.pow_le_pow_right (by omega) (by omega)
  refine unq_pk (fun z hz => ?_) fun u hu hp => ?_
  · have h1 := valid_lt hV hz
    obtain ⟨h2, h3⟩ := drop_chk ⟨N, by omega⟩ ⟨j, by omega⟩ ⟨z.toNat, by omega⟩ hj h1.2
    simp only at h2 h3
    refine ⟨dropN j z.toNat, h2, ?_, rfl⟩
    unfold dpP
    rw [Bool.or_eq_true, hasZ_iff, hasZ_iff]
    rcases h3 with h3 | h3
    · refine .inl ?_
      rw [h3, Int.toNat_of_nonneg h1.1]
      exact hz
    · refine .inr ?_
      rw [h3, Int.toNat_of_nonneg h1.1]
      exact hz
  · obtain ⟨h2, h3⟩ := wide_chk ⟨j, by omega⟩ ⟨u, by omega⟩
    simp only at h2 h3
    unfold dpP at hp
    rw [Bool.or_eq_true, hasZ_iff, hasZ_iff] at hp
    unfold dropI
    rcases hp with hp | hp
    · exact ⟨_, hp, by rw [Int.toNat_natCast, h2]⟩
    · exact ⟨_, hp, by rw [Int.toNat_natCast, h3]⟩
/-- what DropIssue gives -/
def dpB (n : Int) (zs : List Int) (j : Int) : Bool := hiB n zs j && decide (2 ≤ n)
def dpN (n : Int) (zs : List Int) (j : Int) : Int := if dpB n zs j = true then n - 1 else 0
def dpL (n : Int) (zs : List Int) (j : Int) : List Int := if dpB n zs j = true then unq (zs.map (dropI j.toNat)) else []
theorem dpB_iff {n j : Int} {zs : List Int} : dpB n zs j = true ↔ (vsB n zs = true ∧ 0 ≤ j ∧ j < n) ∧ 2 ≤ n := by
  unfold dpB
  rw [Bool.and_eq_true, hiB_iff, decide_eq_true_iff]
/-- the arithmetic of the program's closures -/
theorem drop_bits : ∀ j : Fin 4, ∀ x : Fin 16, bits .or .i64 (bits .and .i64 ((x.val : Nat) : Int) (((2 ^ j.val : Nat) : Int) - 1)) (bits .andNot .i64 (((x.val : Nat) : Int) / 2) (((2 ^ j.val : Nat) : Int) - 1)) = ((dropN j.val x.val : Nat) : Int) := by decide +kernel
theorem flip_bits : ∀ j : Fin 4, ∀ x : Fin 16, bits .xor .i64 ((x.val : Nat) : Int) ((2 ^ j.val : Nat) : Int) = ((x.val ^^^ 2 ^ j.val : Nat) : Int) := by decide +kernel
end Go.Proofs.Ytbnnblfgpdfmpaa
