/- Groups of ballots: plain mathematics. -/
import Derived.Test.YthkikjidkehheaaWroB
namespace Go.Proofs.Ythkikjidkehheaa
open Go.RowKit Go.Joins

theorem tb_bitN (x j : Nat) : bitN x j = 1 ↔ x.testBit j = true := by
  unfold bitN
  rw [Nat.testBit_eq_decide_div_mod_eq, decide_eq_true_eq]
theorem andL_bit (ms : List Int) (j : Nat) : ∀ x, (andL ms x).testBit j = true ↔ x.testBit j = true ∧ ∀ b ∈ ms, b.toNat.testBit j = true := by
  induction ms with
  | nil => intro x; simp [andL]
  | cons b ms ih =>
    intro x
    show (andL ms (x &&& b.toNat)).testBit j = true ↔ _
    rw [ih, Nat.testBit_and, Bool.and_eq_true]
    simp only [List.mem_cons, forall_eq_or_imp]
    exact and_assoc
theorem orL_bit (ms : List Int) (j : Nat) : ∀ x, (orL ms x).testBit j = true ↔ x.testBit j = true ∨ ∃ b ∈ ms, b.toNat.testBit j = true := by
  induction ms with
  | nil => intro x; simp [orL]
  | cons b ms ih =>
    intro x
    show (orL ms (x ||| b.toNat)).testBit j = true ↔ _
    rw [ih, Nat.testBit_or, Bool.or_eq_true]
    simp only [List.mem_cons, exists_eq_or_imp]
    exact or_assoc
theorem pc_pos {x : Nat} (hx : x < 32) (h : 1 ≤ pc x) : ∃ j, j < 5 ∧ x.testBit j = true := by
  have h0 : ∀ x : Fin 32, 1 ≤ pc x.val → ∃ j : Fin 5, x.val.testBit j.val = true := by decide +kernel
  obtain ⟨j, hj⟩ := h0 ⟨x, hx⟩ h
  exact ⟨j, j.isLt, hj⟩
theorem pc_one {x j : Nat} (hx : x < 32) (h : x.testBit j = true) : 1 ≤ pc x := by
  rcases Nat.eq_zero_or_pos (pc x) with e | e
  · rw [pc_zero_iff x hx] at e
    rw [e, Nat.zero_testBit] at h; cases h
  · exact e
theorem memK_congr (bs : List Int) {g h : Nat} : ∀ k, (∀ j, j < k → bitN g j = bitN h j) → memK bs g k = memK bs h k
  | 0, _ => rfl
  | k + 1, e => by
    have ih := memK_congr bs k (fun j hj => e j (by omega))
    unfold memK
    rw [e k (by omega), ih]
/-- a group that takes just the ballots of a kind -/
theorem memGrp (p : Int → Bool) (bs : List Int) : ∀ k, k ≤ bs.length → ∃ g, g < 2 ^ k ∧ memK bs g k = (bs.take k).filter p
  | 0, _ => ⟨0, by decide, by simp [memK]⟩
  | k + 1, hk => by
    obtain ⟨g, hg, e⟩ := memGrp p bs k (by omega)
    have hlt : k < bs.length := by omega
    by_cases hp : p bs[k] = true
    · refine ⟨g + 2 ^ k, by rw [Nat.pow_succ]; omega, ?_⟩
      have h1 : bitN (g + 2 ^ k) k = 1 := by
        rw [tb_bitN, Nat.add_comm, Nat.testBit_two_pow_add_eq, Nat.testBit_lt_two_pow hg]; rfl
      have h2 : memK bs (g + 2 ^ k) k = memK bs g k := memK_congr bs k (fun j hj => by
        have h3 : (g + 2 ^ k).testBit j = g.testBit j := by rw [Nat.add_comm, Nat.testBit_two_pow_add_gt hj]
        have h4 := tb_bitN (g + 2 ^ k) j
        have h5 := tb_bitN g j
        have h6 := bitN_le (g + 2 ^ k) j
        have h7 := bitN_le g j
        rw [h3] at h4
        rcases Nat.eq_zero_or_pos (bitN g j) with e0 | e0
        · have h8 : g.testBit j ≠ true := fun hh => by have := h5.2 hh; omega
          have h9 : bitN (g + 2 ^ k) j ≠ 1 := fun hh => h8 (h4.1 hh)
          omega
        · have h8 : bitN (g + 2 ^ k) j = 1 := h4.2 (h5.1 (by omega))
          omega)
      rw [memK_yes h1, h2, e, filter_take _ _ _ hlt, if_pos hp, getD_lt hlt]
    · refine ⟨g, by rw [Nat.pow_succ]; omega, ?_⟩
      have h1 : bitN g k ≠ 1 := fun hh => by
        rw [tb_bitN, Nat.testBit_lt_two_pow hg] at hh; cases hh
      rw [memK_no h1, e, filter_take _ _ _ hlt, if_neg hp, List.append_nil]
theorem grp_ex (p : Int → Bool) (bs : List Int) : ∃ g, g < 2 ^ bs.length ∧ memL bs g = bs.filter p := by
  obtain ⟨g, h1, h2⟩ := memGrp p bs bs.length (Nat.le_refl _)
  exact ⟨g, h1, by rw [List.take_length] at h2; exact h2⟩
theorem memK_sub (bs : List Int) (g : Nat) : ∀ k, k ≤ bs.length → (memK bs g k).Sublist (bs.take k)
  | 0, _ => by simp [memK]
  | k + 1, hk => by
    have ih := memK_sub bs g k (by omega)
    have hlt : k < bs.length := by omega
    rw [List.take_succ_eq_append_getElem hlt]
    by_cases h : bitN g k = 1
    · rw [memK_yes h, getD_lt hlt]
      exact List.Sublist.append ih (List.Sublist.refl _)
    · rw [memK_no h]
      exact ih.trans (List.sublist_append_left _ _)
theorem memL_sub (bs : List Int) (g : Nat) : (memL bs g).Sublist bs := by
  have := memK_sub bs g bs.length (Nat.le_refl _)
  rw [List.take_length] at this
  exact this
def tbB (x : Nat) (b : Int) : Bool := b.toNat.testBit x
theorem supK_fil (vs : List Int) (x : Nat) : ∀ k, k ≤ vs.length → supK vs x k = ((vs.take k).filter (tbB x)).length
  | 0, _ => by simp [supK]
  | k + 1, hk => by
    have ih := supK_fil vs x k (by omega)
    have hlt : k < vs.length := by omega
    have hle := bitN_le (vs[k]).toNat x
    have htb := tb_bitN (vs[k]).toNat x
    show supK vs x k + bitN (vs.getD k 0).toNat x = _
    rw [filter_take _ _ _ hlt, List.length_append, ← ih, getD_lt hlt]
    by_cases h : tbB x vs[k] = true
    · rw [if_pos h, htb.2 h]; rfl
    · rw [if_neg h]
      have : bitN (vs[k]).toNat x ≠ 1 := fun hh => h (htb.1 hh)
      show _ = _ + 0
      omega
theorem supN_fil (vs : List Int) (x : Nat) : supN vs x = (vs.filter (tbB x)).length := by
  have := supK_fil vs x vs.length (Nat.le_refl _)
  rw [List.take_length] at this
  exact this
/-- when a group is wronged by someone -/
theorem wrong3_iff {ms : List Int} {l w : Nat} (hl : 1 ≤ l) : wrongB 3 ms l w = true ↔ ∀ b ∈ ms, pc (b.toNat &&& w) < l := by
  unfold wrongB
  rw [if_neg (by decide), if_neg (by decide), decide_eq_true_eq, mostL_lt]
  exact ⟨fun h => h.2, fun h => ⟨by omega, h⟩⟩
theorem wrong1_iff {ms : List Int} {l w : Nat} : wrongB 1 ms l w = true ↔ l = 1 ∧ ∀ b ∈ ms, pc (b.toNat &&& w) < 1 := by
  unfold wrongB
  rw [if_pos rfl, decide_eq_true_eq]
  have := mostL_lt ms w 1 0
  constructor
  · rintro ⟨h, h2⟩; exact ⟨h, (this.1 (by omega)).2⟩
  · rintro ⟨h, h2⟩; exact ⟨h, by have := this.2 ⟨by omega, h2⟩; omega⟩
theorem due_iff {ms : List Int} {m n k l : Nat} : dueB ms m n k l = true ↔ l * n ≤ ms.length * k ∧ l ≤ pc (andL ms (2 ^ m - 1)) := by
  unfold dueB; rw [decide_eq_true_eq]
end Go.Proofs.Ythkikjidkehheaa
