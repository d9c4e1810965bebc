/- The best committees: plain mathematics. -/
import Derived.Test.YtgkaghappogglaaBest
import Derived.Test.YtgkaghappogglaaEjr
namespace Go.Proofs.Ytgkaghappogglaa
open Go.RowKit Go.Joins

theorem comL_iff {m : Nat} {k z : Int} : z ∈ comL m k ↔ ∃ y : Nat, z = (y : Int) ∧ y < m ∧ (pc y : Int) = k := by
  unfold comL
  simp only [List.mem_map, List.mem_filter, List.mem_range, decide_eq_true_eq]
  constructor
  · rintro ⟨y, ⟨h1, h2⟩, rfl⟩; exact ⟨y, rfl, h1, h2⟩
  · rintro ⟨y, rfl, h1, h2⟩; exact ⟨y, ⟨h1, h2⟩, rfl⟩
theorem mxI_at (f : Int → Nat) (zs : List Int) : ∀ k, 0 < k → k ≤ zs.length → ∃ z ∈ zs, mxI f zs k = (f z : Int)
  | 0, h, _ => by omega
  | k + 1, _, hk => by
    show ∃ z ∈ zs, max (mxI f zs k) (f (zs.getD k 0) : Int) = _
    have hm : zs.getD k 0 ∈ zs := by rw [getD_lt (by omega)]; exact mem_of_at _
    rcases Nat.eq_zero_or_pos k with e | e
    · subst e
      refine ⟨_, hm, ?_⟩
      have : mxI f zs 0 = -1 := rfl
      omega
    · obtain ⟨z, h1, h2⟩ := mxI_at f zs k e (by omega)
      by_cases hc : mxI f zs k ≤ (f (zs.getD k 0) : Int)
      · exact ⟨_, hm, by omega⟩
      · exact ⟨z, h1, by omega⟩
theorem bestL_iff {q : Nat} {bs zs : List Int} {z : Int} (hz : 0 < zs.length) : z ∈ bestL q bs zs ↔ z ∈ zs ∧ ∀ y ∈ zs, scF q bs y ≤ scF q bs z := by
  unfold bestL outK
  rw [List.take_length, List.mem_filter, beq_iff_eq]
  obtain ⟨y0, h0, e0⟩ := mxI_at (scF q bs) zs zs.length hz (Nat.le_refl _)
  have hge : ∀ y ∈ zs, (scF q bs y : Int) ≤ mxI (scF q bs) zs zs.length := by
    intro y hy
    obtain ⟨j, hj, e⟩ := List.getElem_of_mem hy
    have := mxI_ge (scF q bs) zs zs.length j hj
    rw [getD_lt hj, e] at this
    exact this
  constructor
  · rintro ⟨h1, h2⟩
    refine ⟨h1, fun y hy => ?_⟩
    have := hge y hy
    omega
  · rintro ⟨h1, h2⟩
    refine ⟨h1, ?_⟩
    have h3 := hge z h1
    have h4 := h2 y0 h0
    omega
theorem bestL_pos {q : Nat} {bs zs : List Int} (hz : 0 < zs.length) : 0 < (bestL q bs zs).length := by
  obtain ⟨y0, h0, e0⟩ := mxI_at (scF q bs) zs zs.length hz (Nat.le_refl _)
  have : y0 ∈ bestL q bs zs := by
    unfold bestL outK
    rw [List.take_length, List.mem_filter, beq_iff_eq]
    exact ⟨h0, e0.symm⟩
  exact List.length_pos_of_mem this
theorem pc_lt_fin : ∀ m : Fin 6, ∀ x : Fin 32, x.val < 2 ^ m.val → pc x.val ≤ m.val := by decide +kernel
theorem pc_of_lt {m x : Nat} (hm : m ≤ 5) (hx : x < 2 ^ m) : pc x ≤ m := by
  have h32 : 2 ^ m ≤ 2 ^ 5 := Nat.pow_le_pow_right (by omega) hm
  exact pc_lt_fin ⟨m, by omega⟩ ⟨x, by omega⟩ hx
theorem swap_pc : ∀ w : Fin 32, ∀ a x : Fin 5, bitN w.val a.val = 1 → bitN w.val x.val = 0 → ((w.val ^^^ 2 ^ a.val) ^^^ 2 ^ x.val) < 32 ∧ pc ((w.val ^^^ 2 ^ a.val) ^^^ 2 ^ x.val) = pc w.val := by decide +kernel
theorem swap_lt {m w a x : Nat} (hw : w < 2 ^ m) (ha : a < m) (hx : x < m) : ((w ^^^ 2 ^ a) ^^^ 2 ^ x) < 2 ^ m :=
  Nat.xor_lt_two_pow (Nat.xor_lt_two_pow hw (Nat.pow_lt_pow_right (by omega) ha)) (Nat.pow_lt_pow_right (by omega) hx)
/-- a best committee is better than each of its swaps -/
theorem best_stable {q m : Nat} {bs : List Int} {k z : Int} (hm : m ≤ 5) (hz : z ∈ bestL q bs (comL (2 ^ m) k)) : ∃ y : Nat, z = (y : Int) ∧ y < 2 ^ m ∧ (pc y : Int) = k ∧
    ∀ a b, a < m → b < m → bitN y a = 1 → bitN y b = 0 → scoreV q bs ((y ^^^ 2 ^ a) ^^^ 2 ^ b) ≤ scoreV q bs y := by
  have hp : 0 < (comL (2 ^ m) k).length := by
    rcases Nat.eq_zero_or_pos (comL (2 ^ m) k).length with e | e
    · rw [List.length_eq_zero_iff] at e; rw [e] at hz; cases hz
    · exact e
  rw [bestL_iff hp] at hz
  obtain ⟨h1, h2⟩ := hz
  obtain ⟨y, rfl, hy, hpy⟩ := comL_iff.1 h1
  refine ⟨y, rfl, hy, hpy, fun a b ha hb h3 h4 => ?_⟩
  have h32 : 2 ^ m ≤ 2 ^ 5 := Nat.pow_le_pow_right (by omega) hm
  have h5 := swap_pc ⟨y, by omega⟩ ⟨a, by omega⟩ ⟨b, by omega⟩ h3 h4
  have h6 := h2 (((y ^^^ 2 ^ a) ^^^ 2 ^ b : Nat) : Int) (comL_iff.2 ⟨_, rfl, swap_lt hy ha hb, by rw [h5.2]; exact hpy⟩)
  exact h6
end Go.Proofs.Ytgkaghappogglaa
