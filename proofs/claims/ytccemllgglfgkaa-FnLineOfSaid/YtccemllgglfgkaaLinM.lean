/- The program's search along a line, and that it finds what the model's search finds. -/
import Derived.Test.YtccemllgglfgkaaLinU
import Derived.Test.YtccemllgglfgkaaBestM
namespace Go.Proofs.Ytccemllgglfgkaa
open Go.RowKit Go.Joins

/-- the issues to which the answer changes when vote x comes behind -/
def turnN (vs hs : List Int) (x : Nat) : Nat := if hs = [] then 0 else (vs.getD x 0).toNat ^^^ (vs.getD (hs.getD (hs.length - 1) 0).toNat 0).toNat
def dnL (vs : List Int) : Nat → List Int → Nat → List Int
  | 0, hs, _ => hs
  | f + 1, hs, t => firstL (fun x => if (x : Int) ∈ hs then [] else if turnN vs hs x &&& t ≠ 0 then [] else dnL vs f (hs ++ [(x : Int)]) (t ||| turnN vs hs x)) vs.length
theorem chgK_push (L : List Int) (z : Int) (j : Nat) : ∀ k, k + 1 ≤ L.length → chgK (L ++ [z]) j k = chgK L j k
  | 0, _ => rfl
  | k + 1, h => by
    have e1 : (L ++ [z]).getD k 0 = L.getD k 0 := by simp [List.getD_eq_getElem?_getD, List.getElem?_append_left (show k < L.length by omega)]
    have e2 : (L ++ [z]).getD (k + 1) 0 = L.getD (k + 1) 0 := by simp [List.getD_eq_getElem?_getD, List.getElem?_append_left (show k + 1 < L.length by omega)]
    rw [chgK, chgK, chgK_push L z j k (by omega), e1, e2]
theorem chg_push {L : List Int} (hL : 0 < L.length) (z : Int) (j : Nat) : chg (L ++ [z]) j = chg L j + if bitN (L.getD (L.length - 1) 0).toNat j = bitN z.toNat j then 0 else 1 := by
  obtain ⟨k, hk⟩ : ∃ k, L.length = k + 1 := ⟨L.length - 1, by omega⟩
  have e1 : (L ++ [z]).getD k 0 = L.getD k 0 := by simp [List.getD_eq_getElem?_getD, List.getElem?_append_left (show k < L.length by omega)]
  have e2 : (L ++ [z]).getD (k + 1) 0 = z := by rw [← hk]; simp [List.getD_eq_getElem?_getD]
  unfold chg
  rw [List.length_append, List.length_singleton, hk, Nat.add_sub_cancel, Nat.add_sub_cancel, chgK, chgK_push L z j k (by omega), e1, e2]
theorem chg_one (z : Int) (j : Nat) : chg [z] j = 0 := rfl
theorem chg_nil (j : Nat) : chg [] j = 0 := rfl
theorem inRow_push (vs hs : List Int) (x : Nat) : inRow vs (hs ++ [(x : Int)]) = inRow vs hs ++ [vs.getD x 0] := by
  unfold inRow
  rw [List.map_append]
  simp
theorem inRow_len (vs hs : List Int) : (inRow vs hs).length = hs.length := by simp [inRow]
theorem chg_more (L : List Int) (z : Int) (j : Nat) : chg L j ≤ chg (L ++ [z]) j := by
  by_cases hL : 0 < L.length
  · rw [chg_push hL]; omega
  · rw [List.length_eq_zero_iff.1 (show L.length = 0 by omega)]; exact Nat.zero_le _
theorem firstL_all {g : Nat → List Int} : ∀ n, (∀ x, x < n → g x = []) → firstL g n = []
  | 0, _ => rfl
  | n + 1, h => firstL_none (firstL_all n fun x hx => h x (by omega)) (h n (by omega))
theorem firstL_congr {g g' : Nat → List Int} : ∀ n, (∀ x, x < n → g x = g' x) → firstL g n = firstL g' n
  | 0, _ => rfl
  | n + 1, h => by rw [firstL, firstL, firstL_congr n fun x hx => h x (by omega), h n (by omega)]
theorem up_bad {m : Nat} {vs : List Int} : ∀ (f : Nat) (hs : List Int), (∃ j, j < m ∧ 1 < chg (inRow vs hs) j) → upL m vs f hs = []
  | 0, hs, ⟨j, hj, h⟩ => by rw [upL, linB_false hj h]; rfl
  | f + 1, hs, ⟨j, hj, h⟩ => by
    rw [upL]
    refine firstL_all _ fun x _ => ?_
    split
    · rfl
    · exact up_bad f _ ⟨j, hj, by rw [inRow_push]; exact Nat.lt_of_lt_of_le h (chg_more _ _ _)⟩
theorem and_some : ∀ p q : Fin 16, p.val &&& q.val ≠ 0 → ∃ j : Fin 4, bitN p.val j.val = 1 ∧ bitN q.val j.val = 1 := by decide +kernel
theorem and_none : ∀ p q : Fin 16, p.val &&& q.val = 0 → ∀ j : Fin 4, bitN p.val j.val = 1 → bitN q.val j.val = 0 := by decide +kernel
theorem or_bit : ∀ p q : Fin 16, ∀ j : Fin 4, bitN (p.val ||| q.val) j.val = if bitN p.val j.val = 1 ∨ bitN q.val j.val = 1 then 1 else 0 := by decide +kernel
theorem zero_all : ∀ p : Fin 16, (∀ j : Fin 4, bitN p.val j.val = 0) → p.val = 0 := by decide +kernel
/-- no answer has changed twice; t has the issues where it has changed -/
def LInv (vs hs : List Int) (t : Nat) : Prop := t < 16 ∧ ∀ j, j < 4 → chg (inRow vs hs) j ≤ 1 ∧ (bitN t j = 1 ↔ chg (inRow vs hs) j = 1)
theorem vs_16 {m : Nat} {vs : List Int} (hv : ∀ v ∈ vs, 0 ≤ v ∧ v < 2 ^ m) (y : Nat) : (vs.getD y 0).toNat < 2 ^ m := by
  have hp : 0 < 2 ^ m := Nat.pow_pos (by omega)
  by_cases h : y < vs.length
  · have := hv _ (mem_of_at h)
    rw [getD_lt h]
    have e : ((2 ^ m : Nat) : Int) = (2 : Int) ^ m := by simp
    omega
  · rw [List.getD_eq_getElem?_getD, List.getElem?_eq_none (by omega)]
    exact hp
theorem turn_16 {m : Nat} {vs : List Int} (hv : ∀ v ∈ vs, 0 ≤ v ∧ v < 2 ^ m) (hs : List Int) (x : Nat) : turnN vs hs x < 2 ^ m := by
  unfold turnN
  split
  · exact Nat.pow_pos (by omega)
  · exact Nat.xor_lt_two_pow (vs_16 hv _) (vs_16 hv _)
theorem row_last (vs : List Int) {hs : List Int} (h : 0 < hs.length) : (inRow vs hs).getD ((inRow vs hs).length - 1) 0 = vs.getD (hs.getD (hs.length - 1) 0).toNat 0 := by
  rw [inRow_len, getD_lt (by rw [inRow_len]; omega), getD_lt (show hs.length - 1 < hs.length by omega)]
  simp [inRow]
theorem chg_turn {m : Nat} {vs hs : List Int} (hm : m ≤ 4) (hv : ∀ v ∈ vs, 0 ≤ v ∧ v < 2 ^ m) (h : 0 < hs.length) (x j : Nat) (hj : j < 4) : chg (inRow vs (hs ++ [(x : Int)])) j = chg (inRow vs hs) j + bitN (turnN vs hs x) j := by
  have h16 : 2 ^ m ≤ 16 := Nat.pow_le_pow_right (n := 2) (by omega) hm
  have a := vs_16 hv x
  have b := vs_16 hv (hs.getD (hs.length - 1) 0).toNat
  rw [inRow_push, chg_push (by rw [inRow_len]; exact h), row_last vs h]
  have hne : hs ≠ [] := fun e => by rw [e] at h; simp at h
  have htu : turnN vs hs x = (vs.getD x 0).toNat ^^^ (vs.getD (hs.getD (hs.length - 1) 0).toNat 0).toNat := if_neg hne
  have hx := xor_bit ⟨_, Nat.lt_of_lt_of_le a h16⟩ ⟨_, Nat.lt_of_lt_of_le b h16⟩ ⟨j, hj⟩
  simp only at hx
  rw [htu, hx]
  have b1 := bitN_le (vs.getD x 0).toNat j
  have b2 := bitN_le (vs.getD (hs.getD (hs.length - 1) 0).toNat 0).toNat j
  split <;> omega
theorem linv_step {m : Nat} {vs hs : List Int} {t : Nat} (hm : m ≤ 4) (hv : ∀ v ∈ vs, 0 ≤ v ∧ v < 2 ^ m) (h : LInv vs hs t) (x : Nat) :
    if turnN vs hs x &&& t ≠ 0 then (∃ j, j < m ∧ 1 < chg (inRow vs (hs ++ [(x : Int)])) j) else LInv vs (hs ++ [(x : Int)]) (t ||| turnN vs hs x) := by
  have h16 : 2 ^ m ≤ 16 := Nat.pow_le_pow_right (n := 2) (by omega) hm
  have ht := turn_16 hv hs x
  have ht16 : turnN vs hs x < 16 := Nat.lt_of_lt_of_le ht h16
  by_cases hl : 0 < hs.length
  · split
    · rename_i hne
      obtain ⟨j, j1, j2⟩ := and_some ⟨_, ht16⟩ ⟨t, h.1⟩ hne
      simp only at j1 j2
      refine ⟨j.val, ?_, ?_⟩
      · rcases Nat.lt_or_ge j.val m with hh | hh
        · exact hh
        · have := bit_high ⟨m, by omega⟩ ⟨_, ht16⟩ j ht (by simp only; omega)
          simp only at this
          omega
      · rw [chg_turn hm hv hl x j.val j.isLt, j1, ((h.2 j.val j.isLt).2.1 j2)]
        omega
    · rename_i he
      have he : turnN vs hs x &&& t = 0 := by
        rcases Nat.eq_zero_or_pos (turnN vs hs x &&& t) with h0 | h0
        · exact h0
        · exact absurd (show turnN vs hs x &&& t ≠ 0 by omega) he
      refine ⟨Nat.or_lt_two_pow (n := 4) h.1 ht16, fun j hj => ?_⟩
      have ho := or_bit ⟨t, h.1⟩ ⟨_, ht16⟩ ⟨j, hj⟩
      have ha := and_none ⟨_, ht16⟩ ⟨t, h.1⟩ he ⟨j, hj⟩
      simp only at ho ha
      obtain ⟨c1, c2⟩ := h.2 j hj
      have hb := bitN_le (turnN vs hs x) j
      have hbt := bitN_le t j
      rw [chg_turn hm hv hl x j hj, ho]
      by_cases h1 : bitN (turnN vs hs x) j = 1
      · have h0 := ha h1
        have hc0 : ¬ chg (inRow vs hs) j = 1 := fun e => by have := c2.2 e; omega
        rw [if_pos (.inr h1), h1]
        omega
      · have e0 : bitN (turnN vs hs x) j = 0 := by omega
        rw [e0, Nat.add_zero]
        refine ⟨c1, ?_⟩
        rw [← c2]
        by_cases h2 : bitN t j = 1
        · simp [h2]
        · simp [h2]
  · have hnil : hs = [] := List.length_eq_zero_iff.1 (by omega)
    subst hnil
    have ht0 : turnN vs [] x = 0 := if_pos rfl
    have hz : t = 0 := zero_all ⟨t, h.1⟩ fun j => by
      have := (h.2 j.val j.isLt).2
      have hb := bitN_le t j.val
      have hc : chg (inRow vs []) j.val = 0 := rfl
      rw [hc] at this
      simp only
      omega
    rw [ht0, hz]
    refine ⟨by simp, fun j hj => ?_⟩
    have hc : chg (inRow vs ([] ++ [(x : Int)])) j = 0 := by rw [inRow_push]; rfl
    rw [hc]
    simp [bitN]
/-- the program's search finds what the model's does -/
theorem dn_up {m : Nat} {vs : List Int} (hm : m ≤ 4) (hv : ∀ v ∈ vs, 0 ≤ v ∧ v < 2 ^ m) : ∀ (f : Nat) (hs : List Int) (t : Nat), LInv vs hs t → dnL vs f hs t = upL m vs f hs
  | 0, hs, t, h => by
    rw [dnL, upL, linB_true (fun j hj => (h.2 j (by omega)).1)]
    rfl
  | f + 1, hs, t, h => by
    rw [dnL, upL]
    refine firstL_congr _ fun x _ => ?_
    have hst := linv_step hm hv h x
    split
    · rfl
    · split
      · rename_i hne
        rw [if_pos hne] at hst
        exact (up_bad f _ hst).symm
      · rename_i hne
        rw [if_neg hne] at hst
        exact dn_up hm hv f _ _ hst
theorem linv_nil (vs : List Int) : LInv vs [] 0 := ⟨by omega, fun j _ => by rw [show chg (inRow vs []) j = 0 from rfl]; simp [bitN]⟩
end Go.Proofs.Ytccemllgglfgkaa
