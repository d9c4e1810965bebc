/- Groups that meet: the program's sets and the model's recursion say the same. -/
import Derived.Test.YtklgganapphioaaMtS
import Derived.Test.YtklgganapphioaaMtI
namespace Go.Proofs.Ytklgganapphioaa
open Go.RowKit Go.Joins

theorem crF_iff {f h : Nat → Bool} {q : Nat} : crF f h q = true ↔ ∃ x, x < 8 ∧ ∃ y, y < 8 ∧ f x = true ∧ h y = true ∧ x &&& y = q := by
  unfold crF crI crJ
  simp only [List.any_eq_true, List.mem_range, Bool.and_eq_true, beq_iff_eq]
theorem comp_fin : ∀ v : Fin 4, ∀ x : Fin 8, x.val < 2 ^ v.val → (2 ^ v.val - 1) ^^^ x.val = 2 ^ v.val - 1 - x.val := by decide +kernel
theorem pwN (v : Nat) : pw (v : Int) = ((2 ^ v : Nat) : Int) := by unfold pw; rw [Int.toNat_natCast]
theorem wn_win {v : Nat} (hv : 1 ≤ v ∧ v ≤ 3) {ws : List Int} {m : Nat × Nat} {j x : Nat} (hx : x < 8) : wnF (v : Int) ws m j x = true ↔ x < 2 ^ v ∧ winB v ws m j x = true := by
  have hE : (pw (v : Int) - 1).toNat = 2 ^ v - 1 := by
    rw [pwN]
    have := Nat.two_pow_pos v
    omega
  have hcast : ((x : Int) < pw (v : Int)) ↔ x < 2 ^ v := by rw [pwN]; omega
  by_cases hb : bitN m.2 j = 0
  · rw [wnF_opp hb]
    unfold winB
    rw [if_pos hb]
    unfold upT oppF
    rw [hE]
    by_cases hx2 : x < 2 ^ v
    · have hc := comp_fin ⟨v, by omega⟩ ⟨x, hx⟩ hx2
      simp only at hc
      rw [hc]
      have h2 : ((2 ^ v - 1 - x : Nat) : Int) < pw (v : Int) := by rw [pwN]; omega
      show (decide ((x : Int) < pw (v : Int)) && !(decide (((2 ^ v - 1 - x : Nat) : Int) < pw (v : Int)) && winF (ws.getD j 0) (2 ^ v - 1 - x))) = true ↔ _
      rw [decide_eq_true (hcast.2 hx2), decide_eq_true h2, Bool.true_and, Bool.true_and]
      unfold winF
      generalize (ws.getD j 0).toNat = wj
      have h3 := bitN_le wj (2 ^ v - 1 - x)
      have h4 : wj.testBit (2 ^ v - 1 - x) = decide (bitN wj (2 ^ v - 1 - x) = 1) := by
        rw [Nat.testBit_eq_decide_div_mod_eq]
        rfl
      rw [h4]
      constructor
      · intro h
        refine ⟨hx2, ?_⟩
        simp at h
        simp
        omega
      · rintro ⟨_, h⟩
        simp at h
        simp
        omega
    · rw [decide_eq_false (fun h => hx2 (hcast.1 h))]
      simp [hx2]
  · have hb1 : bitN m.2 j = 1 := by have := bitN_le m.2 j; omega
    rw [wnF_own hb1]
    unfold winB
    rw [if_neg hb]
    unfold upT winF
    have h4 : (ws.getD j 0).toNat.testBit x = decide (bitN (ws.getD j 0).toNat x = 1) := by
      rw [Nat.testBit_eq_decide_div_mod_eq]
      rfl
    rw [h4, Bool.and_eq_true, decide_eq_true_eq, decide_eq_true_eq, hcast, beq_iff_eq]
theorem cgK_lt {v : Nat} (hv : 1 ≤ v ∧ v ≤ 3) {ws : List Int} {m : Nat × Nat} : ∀ (j : Nat) {c : Nat}, cgK (v : Int) ws m j c = true → c < 8
  | 0, c, h => by
    unfold cgK at h
    rw [Bool.false_or, beq_iff_eq, pwN] at h
    have : 2 ^ v ≤ 2 ^ 3 := Nat.pow_le_pow_right (by omega) hv.2
    omega
  | j + 1, c, h => by
    by_cases hb : bitN m.1 j = 0
    · rw [cgK_no hb] at h
      exact cgK_lt hv j h
    · rw [cgK_yes (by have := bitN_le m.1 j; omega), crF_iff] at h
      obtain ⟨x, hx, y, _, _, _, rfl⟩ := h
      exact Nat.lt_of_le_of_lt Nat.and_le_left hx
theorem mt_iff {v : Nat} (hv : 1 ≤ v ∧ v ≤ 3) {ws : List Int} {m : Nat × Nat} {N : Nat} : ∀ (k j : Nat), j + k = N → ((∀ c, cgK (v : Int) ws m j c = true → mtK v ws m k j c = true) ↔ cgK (v : Int) ws m N 0 = false)
  | 0, j, hj => by
    obtain rfl : j = N := by omega
    constructor
    · intro h
      cases hc : cgK (v : Int) ws m j 0 with
      | false => rfl
      | true =>
        have := h 0 hc
        simp [mtK] at this
    · intro h c hc
      rw [mtK, decide_eq_true_eq]
      rcases Nat.eq_zero_or_pos c with e | e
      · subst e
        rw [h] at hc
        cases hc
      · exact e
  | k + 1, j, hj => by
    rw [← mt_iff hv k (j + 1) (by omega)]
    by_cases hb : bitN m.1 j = 0
    · rw [cgK_no hb]
      constructor
      · intro h c hc
        rw [← mtK_skip hb]
        exact h c hc
      · intro h c hc
        rw [mtK_skip hb]
        exact h c hc
    · have hb1 : bitN m.1 j = 1 := by have := bitN_le m.1 j; omega
      rw [cgK_yes hb1]
      constructor
      · intro h q hq
        obtain ⟨x, hx, y, hy, hcx, hwy, rfl⟩ := crF_iff.1 hq
        obtain ⟨hy2, hwin⟩ := (wn_win hv hy).1 hwy
        cases hm : mtK v ws m k (j + 1) (x &&& y) with
        | true => rfl
        | false =>
          have h1 := h x hcx
          rw [mtK_no hb1 hy2 hwin hm] at h1
          cases h1
      · intro h c hc
        refine mtK_yes hb1 fun x hx => ?_
        cases hw : winB v ws m j x with
        | false => rfl
        | true =>
          have hx8 : x < 8 := by
            have : 2 ^ v ≤ 2 ^ 3 := Nat.pow_le_pow_right (by omega) hv.2
            omega
          have h1 := h (c &&& x) (crF_iff.2 ⟨c, cgK_lt hv j hc, x, hx8, hc, (wn_win hv hx8).2 ⟨hx, hw⟩, rfl⟩)
          rw [h1]
          rfl
/-- the model's answer for a part is that of the program -/
theorem mt_none {v : Nat} (hv : 1 ≤ v ∧ v ≤ 3) {ws : List Int} {m : Nat × Nat} : mtK v ws m ws.length 0 (2 ^ v - 1) = !noneB (v : Int) ws m := by
  have h := mt_iff hv (ws := ws) (m := m) (N := ws.length) ws.length 0 (by omega)
  have h0 : ∀ c, cgK (v : Int) ws m 0 c = true ↔ c = 2 ^ v - 1 := fun c => by
    have hp := Nat.two_pow_pos v
    unfold cgK
    rw [Bool.false_or, beq_iff_eq, pwN]
    omega
  unfold noneB
  cases hc : cgK (v : Int) ws m ws.length 0 with
  | false => exact h.2 hc _ ((h0 _).2 rfl)
  | true =>
    cases hm : mtK v ws m ws.length 0 (2 ^ v - 1) with
    | false => rfl
    | true =>
      have := h.1 fun c hcc => by rw [(h0 c).1 hcc]; exact hm
      rw [hc] at this
      cases this
/-- what DoMeet answers -/
def meetR (n : Int) (zs : List Int) (v : Int) (ws : List Int) : Bool := vrB n zs v ws && !(critL n.toNat zs).any (noneB v ws)
theorem meetR_no {n v : Int} {zs ws : List Int} (h : vrB n zs v ws = false) : meetR n zs v ws = false := by unfold meetR; rw [h]; rfl
theorem meetR_yes {n v : Int} {zs ws : List Int} (h : vrB n zs v ws = true) : meetR n zs v ws = !(critL n.toNat zs).any (noneB v ws) := by unfold meetR; rw [h]; rfl
end Go.Proofs.Ytklgganapphioaa
