/- What the program's sets of groups and the model's loops have in common. -/
import Derived.Test.YtbmodiobgkmngaaTabN
import Derived.Test.YtbmodiobgkmngaaTabD
namespace Go.Proofs.Ytbmodiobgkmngaa
open Go.RowKit Go.Joins

theorem all_not {p : Int → Bool} {ws : List Int} : (!ws.any fun x => !p x) = true ↔ ∀ j, j < ws.length → p (ws.getD j 0) = true := by
  rw [Bool.not_eq_true', List.any_eq_false]
  constructor
  · intro h j hj
    have := h _ (mem_of_at hj)
    rw [getD_lt hj]
    simpa using this
  · intro h x hx
    obtain ⟨j, hj, rfl⟩ := List.getElem_of_mem hx
    have := h j hj
    rw [getD_lt hj] at this
    simp [this]
theorem eqT_iff (f h : Nat → Bool) : eqT f h = true ↔ ∀ k, k < 8 → f k = h k := by
  unfold eqT
  simp only [Bool.and_eq_true, beq_iff_eq]
  constructor
  · rintro ⟨h0, h1, h2, h3, h4, h5, h6, h7⟩ k hk
    rcases (show k = 0 ∨ k = 1 ∨ k = 2 ∨ k = 3 ∨ k = 4 ∨ k = 5 ∨ k = 6 ∨ k = 7 from by omega) with rfl | rfl | rfl | rfl | rfl | rfl | rfl | rfl <;> assumption
  · intro hh
    exact ⟨hh 0 (by omega), hh 1 (by omega), hh 2 (by omega), hh 3 (by omega), hh 4 (by omega), hh 5 (by omega), hh 6 (by omega), hh 7 (by omega)⟩
theorem eqT_up {v : Int} (p2 : pw v ≤ 8) (f h : Nat → Bool) : eqT (upT v f) (upT v h) = true ↔ ∀ k : Nat, (k : Int) < pw v → f k = h k := by
  rw [eqT_iff]
  unfold upT
  constructor
  · intro hh k hk
    have := hh k (by omega)
    simpa [hk] using this
  · intro hh k _
    by_cases hk : (k : Int) < pw v
    · rw [hh k hk]
    · simp [hk]
theorem bitN_eq (x k : Nat) : bitN x k = if x.testBit k then 1 else 0 := by
  rw [testBit_eq]
  unfold bitN
  have : x / 2 ^ k % 2 < 2 := Nat.mod_lt _ (by omega)
  by_cases h : x / 2 ^ k % 2 = 1
  · simp [h]
  · simp [h]; omega
theorem bit_same (x y k l : Nat) : (bitN x k == bitN y l) = (x.testBit k == y.testBit l) := by
  rw [bitN_eq, bitN_eq]
  cases x.testBit k <;> cases y.testBit l <;> rfl

def monoC (v : Int) (x : Nat) : Bool := (List.range 8).all fun g => (List.range 3).all fun i => !(decide ((g : Int) < pw v) && decide ((i : Int) < v) && badStep x g i)
theorem mono_chk1 : (List.range 256).all (fun x => holdMono 1 (x : Int) == monoC 1 x) = true := by kernel_rfl
theorem mono_chk2 : (List.range 256).all (fun x => holdMono 2 (x : Int) == monoC 2 x) = true := by kernel_rfl
theorem mono_chk3 : (List.range 256).all (fun x => holdMono 3 (x : Int) == monoC 3 x) = true := by kernel_rfl
theorem mono_eq {v x : Int} (hv : 1 ≤ v ∧ v ≤ 3) (hx : 0 ≤ x ∧ x ≤ 255) : holdMono v x = monoC v x.toNat := by
  obtain ⟨a, rfl⟩ := Int.eq_ofNat_of_zero_le hx.1
  have hm : a ∈ List.range 256 := List.mem_range.2 (by omega)
  rw [Int.toNat_natCast]
  rcases isVoters hv with rfl | rfl | rfl
  · simpa using List.all_eq_true.1 mono_chk1 a hm
  · simpa using List.all_eq_true.1 mono_chk2 a hm
  · simpa using List.all_eq_true.1 mono_chk3 a hm
theorem monoC_iff {v : Int} (hv : 1 ≤ v ∧ v ≤ 3) (x : Nat) : monoC v x = true ↔ ∀ g : Nat, (g : Int) < pw v → ∀ i : Nat, (i : Int) < v → badStep x g i = false := by
  have p2 := pw_le3 v hv.2
  unfold monoC
  simp only [List.all_eq_true, List.mem_range]
  constructor
  · intro h g hg i hi
    have := h g (by omega) i (by omega)
    simpa [hg, hi] using this
  · intro h g _ i _
    by_cases hg : (g : Int) < pw v
    · by_cases hi : (i : Int) < v
      · rw [h g hg i hi]; simp
      · simp [hi]
    · simp [hg]
/-- what IsMonotone answers -/
def monoR (n : Int) (zs : List Int) (v : Int) (ws : List Int) : Bool := vrB n zs v ws && !ws.any fun x => !holdMono v x
theorem monoS_iff {v : Int} {ws : List Int} (hv : 1 ≤ v ∧ v ≤ 3) (hx : ∀ x ∈ ws, 0 ≤ x ∧ x ≤ 255) : MonoS v ws ↔ (!ws.any fun x => !holdMono v x) = true := by
  rw [all_not]
  constructor
  · intro h j hj
    have hr := hx _ (mem_of_at hj)
    rw [getD_lt hj, mono_eq hv hr, monoC_iff hv, ← getD_lt hj]
    exact h j hj
  · intro h j hj
    have hr := hx _ (mem_of_at hj)
    have := h j hj
    rw [getD_lt hj, mono_eq hv hr, monoC_iff hv, ← getD_lt hj] at this
    exact this
theorem unan_chk1 : (List.range 256).all (fun x => holdUnan 1 (x : Int) == !badUnan 1 x) = true := by kernel_rfl
theorem unan_chk2 : (List.range 256).all (fun x => holdUnan 2 (x : Int) == !badUnan 2 x) = true := by kernel_rfl
theorem unan_chk3 : (List.range 256).all (fun x => holdUnan 3 (x : Int) == !badUnan 3 x) = true := by kernel_rfl
theorem unan_eq {v x : Int} (hv : 1 ≤ v ∧ v ≤ 3) (hx : 0 ≤ x ∧ x ≤ 255) : holdUnan v x = !badUnan v x.toNat := by
  obtain ⟨a, rfl⟩ := Int.eq_ofNat_of_zero_le hx.1
  have hm : a ∈ List.range 256 := List.mem_range.2 (by omega)
  rw [Int.toNat_natCast]
  rcases isVoters hv with rfl | rfl | rfl
  · exact beq_iff_eq.1 (List.all_eq_true.1 unan_chk1 a hm)
  · exact beq_iff_eq.1 (List.all_eq_true.1 unan_chk2 a hm)
  · exact beq_iff_eq.1 (List.all_eq_true.1 unan_chk3 a hm)
/-- what IsUnanimous answers -/
def unanR (n : Int) (zs : List Int) (v : Int) (ws : List Int) : Bool := vrB n zs v ws && !ws.any fun x => !holdUnan v x
theorem unanS_iff {v : Int} {ws : List Int} (hv : 1 ≤ v ∧ v ≤ 3) (hx : ∀ x ∈ ws, 0 ≤ x ∧ x ≤ 255) : UnanS v ws ↔ (!ws.any fun x => !holdUnan v x) = true := by
  rw [all_not]
  constructor
  · intro h j hj
    have hr := hx _ (mem_of_at hj)
    have := h j hj
    rw [getD_lt hj] at this ⊢
    rw [unan_eq hv hr, this]; rfl
  · intro h j hj
    have hr := hx _ (mem_of_at hj)
    have := h j hj
    rw [getD_lt hj, unan_eq hv hr] at this
    rw [getD_lt hj]
    simpa using this
theorem dict_eq {v x : Int} {i : Nat} (hv : 1 ≤ v ∧ v ≤ 3) : holdDict v (upT v (memF i)) x = true ↔ ∀ g : Nat, (g : Int) < pw v → sameB x.toNat g i = true := by
  unfold holdDict
  rw [eqT_up (pw_le3 v hv.2)]
  unfold winF memF sameB
  constructor
  · intro h g hg
    rw [bit_same, h g hg]; simp
  · intro h g hg
    have := h g hg
    rw [bit_same] at this
    simpa using this
/-- the first of at most three -/
def firstI (v : Int) (P : Nat → Bool) : Int := if 0 < v ∧ P 0 = true then 0 else if 1 < v ∧ P 1 = true then 1 else if 2 < v ∧ P 2 = true then 2 else -1
theorem firstI_at {v : Int} {P : Nat → Bool} {i : Nat} (hv : v ≤ 3) (hi : (i : Int) < v) (h : P i = true) (hl : ∀ i', i' < i → P i' = false) : firstI v P = i := by
  unfold firstI
  rcases (show i = 0 ∨ i = 1 ∨ i = 2 from by omega) with rfl | rfl | rfl
  · rw [if_pos ⟨by omega, h⟩]; rfl
  · rw [if_neg (by rw [hl 0 (by omega)]; simp), if_pos ⟨by omega, h⟩]; rfl
  · rw [if_neg (by rw [hl 0 (by omega)]; simp), if_neg (by rw [hl 1 (by omega)]; simp), if_pos ⟨by omega, h⟩]; rfl
theorem firstI_none {v : Int} {P : Nat → Bool} (h : ∀ i : Nat, (i : Int) < v → P i = false) : firstI v P = -1 := by
  unfold firstI
  rw [if_neg (fun hh => by have := h 0 (by omega); rw [hh.2] at this; cases this), if_neg (fun hh => by have := h 1 (by omega); rw [hh.2] at this; cases this), if_neg (fun hh => by have := h 2 (by omega); rw [hh.2] at this; cases this)]
/-- whether a voter is the dictator -/
def isD (v : Int) (ws : List Int) (i : Nat) : Bool := !ws.any fun x => !holdDict v (upT v (memF i)) x
/-- what DictatorOf answers -/
def dictR (n : Int) (zs : List Int) (v : Int) (ws : List Int) : Int := if vrB n zs v ws = true then firstI v (isD v ws) else -1
theorem isD_iff {v : Int} {ws : List Int} (hv : 1 ≤ v ∧ v ≤ 3) (i : Nat) : isD v ws i = true ↔ DictS v ws i := by
  unfold isD
  rw [all_not]
  constructor
  · intro h j hj
    exact (dict_eq hv).1 (h j hj)
  · intro h j hj
    exact (dict_eq hv).2 (h j hj)
theorem isD_no {v : Int} {ws : List Int} (hv : 1 ≤ v ∧ v ≤ 3) {i : Nat} (h : ¬ DictS v ws i) : isD v ws i = false := by
  cases hd : isD v ws i
  · rfl
  · exact absurd ((isD_iff hv i).1 hd) h
theorem isDict_first {v : Int} {ws : List Int} {r : Int} (hv : 1 ≤ v ∧ v ≤ 3) (h : IsDict v ws r) : r = firstI v (isD v ws) := by
  rcases h with ⟨i, hi, hd, hl, rfl⟩ | ⟨hl, rfl⟩
  · rw [firstI_at hv.2 hi ((isD_iff hv i).2 hd) (fun i' hi' => isD_no hv (hl i' hi'))]
  · rw [firstI_none (fun i hi => isD_no hv (hl i hi))]
end Go.Proofs.Ytbmodiobgkmngaa
