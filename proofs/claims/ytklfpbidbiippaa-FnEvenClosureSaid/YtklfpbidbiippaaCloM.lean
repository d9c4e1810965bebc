/- The least closed spaces: plain mathematics. -/
import Derived.Test.YtklfpbidbiippaaMed
import Derived.Test.YtklfpbidbiippaaClo
namespace Go.Proofs.Ytklfpbidbiippaa
open Go.RowKit Go.Joins

theorem valid_lt {N : Nat} {zs : List Int} (h : Valid (N : Int) zs) {z : Int} (hz : z ∈ zs) : 0 ≤ z ∧ z.toNat < 2 ^ N := by
  obtain ⟨i, hi, rfl⟩ := List.getElem_of_mem hz
  have h1 := (h.2.2 i hi).1
  rw [getD_lt hi] at h1
  have e : pw (N : Int) = ((2 ^ N : Nat) : Int) := by unfold pw; rw [Int.toNat_natCast]
  omega
theorem cloK_sub (f : Nat → Nat → Nat → Nat) : ∀ (k : Nat) (l : List Nat), (∀ x ∈ l, x < 16) → ∀ x ∈ l, x ∈ cloK f k l
  | 0, l, hl, x, hx => sub_joined f l hl x hx
  | k + 1, l, hl, x, hx => by
    rw [cloK]
    split
    · exact sub_joined f l hl x hx
    · exact cloK_sub f k (joined f l) (joined_lt f l) x (sub_joined f l hl x hx)
theorem joined_in {f : Nat → Nat → Nat → Nat} (J : Join f) {T : Nat → Prop} (hT : ∀ a b c, T a → T b → T c → T (f a b c)) {l : List Nat} (hl : ∀ x ∈ l, x < 16) (h : ∀ x ∈ l, T x) : ∀ x ∈ joined f l, T x := fun x hx => by
  obtain ⟨i, j, k, hi, hj, hk, rfl⟩ := (mem_joined J l hl x).1 hx
  exact hT _ _ _ (h _ (mem_getD hi)) (h _ (mem_getD hj)) (h _ (mem_getD hk))
theorem cloK_min {f : Nat → Nat → Nat → Nat} (J : Join f) {T : Nat → Prop} (hT : ∀ a b c, T a → T b → T c → T (f a b c)) : ∀ (k : Nat) (l : List Nat), (∀ x ∈ l, x < 16) → (∀ x ∈ l, T x) → ∀ x ∈ cloK f k l, T x
  | 0, l, hl, h, x, hx => joined_in J hT hl h x hx
  | k + 1, l, hl, h, x, hx => by
    rw [cloK] at hx
    split at hx
    · exact joined_in J hT hl h x hx
    · exact cloK_min J hT k (joined f l) (joined_lt f l) (joined_in J hT hl h) x hx
theorem joined_same {f : Nat → Nat → Nat → Nat} (J : Join f) {l : List Nat} (ha : Asc l) (hl : ∀ x ∈ l, x < 16) (h : (joined f l).length = l.length) : joined f l = l :=
  asc_ext _ _ (joined_asc f l) ha (fun x => ⟨fun hx => (joined_len_iff J l ha hl).1 h x ((mem_joined J l hl x).1 hx), sub_joined f l hl x⟩)
theorem cloK_closed {f : Nat → Nat → Nat → Nat} (J : Join f) : ∀ (k : Nat) (l : List Nat), Asc l → (∀ x ∈ l, x < 16) → 16 - l.length ≤ k → (joined f (cloK f k l)).length = (cloK f k l).length
  | 0, l, ha, hl, hk => by
    have h1 := joined_ge f l ha hl
    have h2 := joined_le f l
    have h3 := joined_ge f (joined f l) (joined_asc f l) (joined_lt f l)
    have h4 := joined_le f (joined f l)
    show (joined f (joined f l)).length = (joined f l).length
    omega
  | k + 1, l, ha, hl, hk => by
    rw [cloK]
    split
    · rename_i h
      rw [joined_same J ha hl h, h]
    · rename_i h
      have h1 := joined_ge f l ha hl
      exact cloK_closed J k (joined f l) (joined_asc f l) (joined_lt f l) (by omega)
theorem cloK_asc (f : Nat → Nat → Nat → Nat) : ∀ (k : Nat) (l : List Nat), Asc (cloK f k l)
  | 0, l => joined_asc f l
  | k + 1, l => by
    rw [cloK]
    split
    · exact joined_asc f l
    · exact cloK_asc f k _
theorem valid_ofAsc {N : Nat} (hN : 1 ≤ N ∧ N ≤ 4) {l : List Nat} (ha : Asc l) (hl : ∀ x ∈ l, x < 2 ^ N) (hp : 0 < l.length) : Valid (N : Int) (l.map fun (t : Nat) => (t : Int)) := by
  have e : pw (N : Int) = ((2 ^ N : Nat) : Int) := by unfold pw; rw [Int.toNat_natCast]
  refine ⟨by omega, by rw [List.length_map]; exact hp, fun i hi => ?_⟩
  rw [List.length_map] at hi
  refine ⟨?_, fun h0 => ?_⟩
  · rw [getD_lt (by rw [List.length_map]; exact hi), List.getElem_map]
    have := hl _ (List.getElem_mem hi)
    omega
  · rw [getD_lt (k := i) (by rw [List.length_map]; exact hi), getD_lt (k := i - 1) (by rw [List.length_map]; omega), List.getElem_map, List.getElem_map]
    have := List.pairwise_iff_getElem.1 ha (i - 1) i (show i - 1 < l.length from by omega) hi (by omega)
    omega
section
variable {f : Nat → Nat → Nat → Nat} {N : Nat} {zs : List Int}
theorem clo_mem (hV : Valid (N : Int) zs) {x : Nat} (h : (x : Int) ∈ zs) : (x : Int) ∈ cloT f zs := by
  have hm : x ∈ zs.map Int.toNat := List.mem_map.2 ⟨_, h, by simp⟩
  unfold cloT
  exact List.mem_map.2 ⟨x, cloK_sub f _ _ (valid_nat hV).2 x hm, rfl⟩
theorem clo_valid (J : Join f) (hf : ∀ x y z, x < 2 ^ N → y < 2 ^ N → z < 2 ^ N → f x y z < 2 ^ N) (hV : Valid (N : Int) zs) : Valid (N : Int) (cloT f zs) := by
  have hN := hV.1
  refine valid_ofAsc (by omega) (cloK_asc f _ _) (cloK_min J hf _ _ (valid_nat hV).2 (fun x hx => ?_)) ?_
  · obtain ⟨z, hz, rfl⟩ := List.mem_map.1 hx
    exact (valid_lt hV hz).2
  · have hpos := hV.2.1
    have hm : zs[0].toNat ∈ zs.map Int.toNat := List.mem_map.2 ⟨zs[0], List.getElem_mem hpos, rfl⟩
    exact List.length_pos_of_mem (cloK_sub f _ _ (valid_nat hV).2 _ hm)
theorem clo_closed (J : Join f) (hf : ∀ x y z, x < 2 ^ N → y < 2 ^ N → z < 2 ^ N → f x y z < 2 ^ N) (hV : Valid (N : Int) zs) : closedB f (N : Int) (cloT f zs) = true := by
  have h1 := clo_valid J hf hV
  unfold closedB
  rw [vsB_true h1, Bool.true_and, beq_iff_eq]
  unfold cloT
  rw [cast_toNat, List.length_map]
  exact cloK_closed J _ _ (valid_nat hV).1 (valid_nat hV).2 (by rw [List.length_map]; exact Nat.le_refl _)
/-- the closure is the space itself exactly if that is closed -/
theorem clo_self (J : Join f) (hf : ∀ x y z, x < 2 ^ N → y < 2 ^ N → z < 2 ^ N → f x y z < 2 ^ N) (hV : Valid (N : Int) zs) : decide (cloT f zs = zs) = closedB f (N : Int) zs := by
  rw [Bool.eq_iff_iff, decide_eq_true_iff]
  constructor
  · intro h
    have := clo_closed J hf hV
    rwa [h] at this
  · intro h
    unfold closedB at h
    rw [vsB_true hV, Bool.true_and, beq_iff_eq] at h
    have hl : (zs.map Int.toNat).length = zs.length := List.length_map _
    have e := joined_same J (valid_nat hV).1 (valid_nat hV).2 (by omega)
    unfold cloT
    rw [clo_stop (by omega), e, List.map_map]
    refine (List.map_congr_left (fun z hz => ?_)).trans (List.map_id zs)
    have h1 := valid_lt hV hz
    show ((z.toNat : Nat) : Int) = z
    omega
end
end Go.Proofs.Ytklfpbidbiippaa
