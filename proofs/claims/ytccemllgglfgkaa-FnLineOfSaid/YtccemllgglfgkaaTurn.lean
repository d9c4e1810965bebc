/- Issues settled in turn: what comes of it, the program's loop and the model's loop. -/
import Derived.Test.YtccemllgglfgkaaOrd
import Derived.Test.YtccemllgglfgkaaWant
import Derived.Test.YtccemllgglfgkaaOpen
import Derived.Deep.RegionWith
import Derived.Outline
namespace Go.Proofs.Ytccemllgglfgkaa
open Go.RowKit Go.Joins

/-- one issue more: the answer of more than half, or the other one if that is not open -/
def stpT (zs vs : List Int) (s : Nat × Nat) (j : Nat) : Nat × Nat :=
  (s.1 + 2 ^ j, if openB zs ((s.1 + 2 ^ j : Nat) : Int) ((s.2 + (if vs.length < 2 * supN vs j then 2 ^ j else 0) : Nat) : Int) = true then s.2 + (if vs.length < 2 * supN vs j then 2 ^ j else 0)
    else (s.2 + (if vs.length < 2 * supN vs j then 2 ^ j else 0)) ^^^ 2 ^ j)
def turnK (zs vs ls : List Int) : Nat → Nat × Nat
  | 0 => (0, 0)
  | k + 1 => stpT zs vs (turnK zs vs ls k) (ls.getD k 0).toNat
def turnV (n : Int) (zs vs ls : List Int) : Int := if (vvB n zs vs && ordB n ls) = true then ((turnK zs vs ls ls.length).2 : Nat) else -1
theorem turnV_yes {n : Int} {zs vs ls : List Int} (h : vvB n zs vs = true) (h2 : ordB n ls = true) : turnV n zs vs ls = ((turnK zs vs ls ls.length).2 : Nat) := if_pos (by rw [h, h2]; rfl)
theorem turnV_no1 {n : Int} {zs vs ls : List Int} (h : vvB n zs vs = false) : turnV n zs vs ls = -1 := if_neg (by rw [h, Bool.false_and]; decide)
theorem turnV_no2 {n : Int} {zs vs ls : List Int} (h : ordB n ls = false) : turnV n zs vs ls = -1 := if_neg (by rw [h, Bool.and_false]; decide)

theorem tf1 : ∀ c : Fin 16, ∀ j : Fin 4, bitN c.val j.val = 0 → c.val ||| 2 ^ j.val = c.val + 2 ^ j.val ∧ c.val + 2 ^ j.val < 16 := by decide +kernel
theorem tf2 : ∀ c b : Fin 16, ∀ j : Fin 4, bitN c.val j.val = 0 → b.val &&& c.val = b.val → b.val ||| 2 ^ j.val = b.val + 2 ^ j.val ∧ b.val + 2 ^ j.val < 16 ∧ (b.val + 2 ^ j.val) &&& (c.val + 2 ^ j.val) = b.val + 2 ^ j.val ∧ b.val &&& (c.val + 2 ^ j.val) = b.val ∧ (b.val + 2 ^ j.val) ^^^ 2 ^ j.val = b.val ∧ b.val ^^^ 2 ^ j.val = b.val + 2 ^ j.val := by decide +kernel
theorem tf3 : ∀ c : Fin 16, ∀ i j : Fin 4, bitN c.val j.val = 0 → bitN (c.val + 2 ^ j.val) i.val = if i.val = j.val then 1 else bitN c.val i.val := by decide +kernel
/-- what holds of the part when k issues are settled -/
def TInv (ls : List Int) (k : Nat) (s : Nat × Nat) : Prop := s.1 < 16 ∧ s.2 < 16 ∧ s.2 &&& s.1 = s.2 ∧ ∀ i, i < 4 → (bitN s.1 i = 1 ↔ ∃ t, t < k ∧ ls.getD t 0 = (i : Int))
theorem ord_at {n : Int} {ls : List Int} (h : OrdOk n ls) (h4 : n ≤ 4) {k : Nat} (hk : k < ls.length) : ∃ j : Nat, ls[k] = (j : Int) ∧ j < 4 ∧ (j : Int) < n ∧ (ls.getD k 0).toNat = j := by
  have := h.2.1 k hk
  rw [getD_lt hk] at this
  exact ⟨ls[k].toNat, by omega, by omega, by omega, by rw [getD_lt hk]⟩
theorem tinv {n : Int} {zs vs ls : List Int} (h : OrdOk n ls) (h4 : n ≤ 4) : ∀ k, k ≤ ls.length → TInv ls k (turnK zs vs ls k)
  | 0, _ => ⟨by simp [turnK], by simp [turnK], by simp [turnK], fun i _ => by simp [turnK, bitN]⟩
  | k + 1, hk => by
    obtain ⟨hc, hb, hbc, hbits⟩ := tinv (zs := zs) (vs := vs) h h4 k (by omega)
    obtain ⟨j, hj, hj4, _, hjn⟩ := ord_at h h4 (k := k) (by omega)
    have h0 : bitN (turnK zs vs ls k).1 j = 0 := by
      have hle := bitN_le (turnK zs vs ls k).1 j
      rcases (show bitN (turnK zs vs ls k).1 j = 0 ∨ bitN (turnK zs vs ls k).1 j = 1 by omega) with h1 | h1
      · exact h1
      · obtain ⟨t, ht, e⟩ := (hbits j hj4).1 h1
        have := h.2.2 k (by omega) t ht
        rw [getD_lt (show k < ls.length by omega), hj] at this
        exact absurd e this
    have f1 := (tf1 ⟨_, hc⟩ ⟨j, hj4⟩ h0).2
    have f2 := tf2 ⟨_, hc⟩ ⟨_, hb⟩ ⟨j, hj4⟩ h0 hbc
    simp only at f1 f2
    have e : turnK zs vs ls (k + 1) = stpT zs vs (turnK zs vs ls k) j := by rw [turnK, hjn]
    rw [e]
    have both : (stpT zs vs (turnK zs vs ls k) j).2 = (turnK zs vs ls k).2 ∨ (stpT zs vs (turnK zs vs ls k) j).2 = (turnK zs vs ls k).2 + 2 ^ j := by
      unfold stpT
      by_cases hs : vs.length < 2 * supN vs j
      · simp only [if_pos hs]
        split
        · exact .inr rfl
        · exact .inl f2.2.2.2.2.1
      · simp only [if_neg hs, Nat.add_zero]
        split
        · exact .inl rfl
        · exact .inr f2.2.2.2.2.2
    refine ⟨f1, ?_, ?_, fun i hi => ?_⟩
    · rcases both with e2 | e2
      · rw [e2]; exact hb
      · rw [e2]; exact f2.2.1
    · rcases both with e2 | e2
      · rw [e2]; exact f2.2.2.2.1
      · rw [e2]; exact f2.2.2.1
    · have f3 := tf3 ⟨_, hc⟩ ⟨i, hi⟩ ⟨j, hj4⟩ h0
      simp only at f3
      show bitN ((turnK zs vs ls k).1 + 2 ^ j) i = 1 ↔ _
      rw [f3]
      constructor
      · intro hh
        split at hh
        · rename_i hij
          exact ⟨k, by omega, by rw [getD_lt (show k < ls.length by omega), hj, hij]⟩
        · obtain ⟨t, ht, et⟩ := (hbits i hi).1 hh
          exact ⟨t, by omega, et⟩
      · rintro ⟨t, ht, et⟩
        split
        · rfl
        · rename_i hij
          rcases Nat.lt_or_ge t k with h1 | h1
          · exact (hbits i hi).2 ⟨t, h1, et⟩
          · obtain rfl : t = k := by omega
            rw [getD_lt (show t < ls.length by omega), hj] at et
            omega
/-- What one step needs. -/
theorem tstep {n : Int} {zs vs ls : List Int} (h : OrdOk n ls) (h4 : n ≤ 4) {k : Nat} (hk : k < ls.length) :
    ∃ j : Nat, ls[k] = (j : Int) ∧ j < 4 ∧ (j : Int) < n ∧ turnK zs vs ls (k + 1) = stpT zs vs (turnK zs vs ls k) j ∧ (turnK zs vs ls k).1 < 16 ∧ (turnK zs vs ls k).2 < 16 ∧
      (turnK zs vs ls k).1 ||| 2 ^ j = (turnK zs vs ls k).1 + 2 ^ j ∧ (turnK zs vs ls k).1 + 2 ^ j < 16 ∧ (turnK zs vs ls k).2 ||| 2 ^ j = (turnK zs vs ls k).2 + 2 ^ j ∧ (turnK zs vs ls k).2 + 2 ^ j < 16 := by
  obtain ⟨hc, hb, hbc, hbits⟩ := tinv (zs := zs) (vs := vs) h h4 k (by omega)
  obtain ⟨j, hj, hj4, hjn, hjt⟩ := ord_at h h4 hk
  have h0 : bitN (turnK zs vs ls k).1 j = 0 := by
    have hle := bitN_le (turnK zs vs ls k).1 j
    rcases (show bitN (turnK zs vs ls k).1 j = 0 ∨ bitN (turnK zs vs ls k).1 j = 1 by omega) with h1 | h1
    · exact h1
    · obtain ⟨t, ht, e⟩ := (hbits j hj4).1 h1
      have := h.2.2 k hk t ht
      rw [getD_lt hk, hj] at this
      exact absurd e this
  have f1 := tf1 ⟨_, hc⟩ ⟨j, hj4⟩ h0
  have f2 := tf2 ⟨_, hc⟩ ⟨_, hb⟩ ⟨j, hj4⟩ h0 hbc
  simp only at f1 f2
  exact ⟨j, hj, hj4, hjn, by rw [turnK, hjt], hc, hb, f1.1, f1.2, f2.1, f2.2.1⟩
theorem bits_or : ∀ p q : Fin 16, bits .or .i64 ((p.val : Nat) : Int) ((q.val : Nat) : Int) = ((p.val ||| q.val : Nat) : Int) := by decide +kernel
theorem bits_xor : ∀ p q : Fin 16, bits .xor .i64 ((p.val : Nat) : Int) ((q.val : Nat) : Int) = ((p.val ^^^ q.val : Nat) : Int) := by decide +kernel
theorem bits_and : ∀ p q : Fin 16, bits .and .i64 ((p.val : Nat) : Int) ((q.val : Nat) : Int) = ((p.val &&& q.val : Nat) : Int) := by decide +kernel
theorem tpush : ∀ k : Fin 4, ∀ a : Fin 16, ∀ j : Fin 4, a.val < 2 ^ k.val → bitN (a.val + 2 ^ k.val) j.val = if j.val = k.val then 1 else bitN a.val j.val := by decide +kernel
theorem tbitB (vs : List Int) (j : Nat) (hj : j < 4) : ∀ k, k ≤ 4 → bitN (wantB vs k) j = if j < k ∧ vs.length < 2 * supN vs j then 1 else 0
  | 0, _ => by simp [wantB, bitN]
  | k + 1, h => by
    have ih := tbitB vs j hj k (by omega)
    have hlt := wantB_lt vs k
    have h16 : wantB vs k < 16 := Nat.lt_of_lt_of_le hlt (Nat.pow_le_pow_right (n := 2) (by omega) (show k ≤ 4 by omega))
    by_cases he : vs.length < 2 * supN vs k
    · have hp := tpush ⟨k, by omega⟩ ⟨wantB vs k, h16⟩ ⟨j, hj⟩ hlt
      simp only at hp
      rw [wantB_yes he, hp, ih]
      by_cases hjk : j = k
      · subst hjk
        rw [if_pos rfl, if_pos ⟨by omega, he⟩]
      · rw [if_neg hjk]
        by_cases hjl : j < k
        · simp [hjl, show j < k + 1 by omega]
        · rw [if_neg (by omega), if_neg (by omega)]
    · rw [wantB_no he, ih]
      by_cases hjk : j < k
      · simp [hjk, show j < k + 1 by omega]
      · rw [if_neg (by omega), if_neg]
        rintro ⟨h1, h2⟩
        obtain rfl : j = k := by omega
        exact he h2
theorem and_pow : ∀ M : Fin 16, ∀ j : Fin 4, M.val &&& 2 ^ j.val = if bitN M.val j.val = 1 then 2 ^ j.val else 0 := by decide +kernel
theorem maj_and {vs : List Int} {m j : Nat} (hm : m ≤ 4) (hj : j < m) : wantB vs m &&& 2 ^ j = if vs.length < 2 * supN vs j then 2 ^ j else 0 := by
  have h16 : wantB vs m < 16 := Nat.lt_of_lt_of_le (wantB_lt vs m) (Nat.pow_le_pow_right (n := 2) (by omega) hm)
  have h := and_pow ⟨_, h16⟩ ⟨j, by omega⟩
  simp only at h
  rw [h, tbitB vs j (by omega) m hm]
  by_cases hs : vs.length < 2 * supN vs j
  · rw [if_pos (show (if j < m ∧ vs.length < 2 * supN vs j then 1 else 0) = 1 from if_pos ⟨hj, hs⟩), if_pos hs]
  · rw [if_neg (show ¬ (if j < m ∧ vs.length < 2 * supN vs j then 1 else 0) = 1 from by rw [if_neg (fun h => hs h.2)]; omega), if_neg hs]
theorem stpT_open {zs vs : List Int} {c b j q : Nat} (hq : (if vs.length < 2 * supN vs j then 2 ^ j else 0) = q) (h : openB zs ((c + 2 ^ j : Nat) : Int) ((b + q : Nat) : Int) = true) : stpT zs vs (c, b) j = (c + 2 ^ j, b + q) := by
  subst hq
  unfold stpT
  rw [if_pos h]
theorem stpT_shut {zs vs : List Int} {c b j q : Nat} (hq : (if vs.length < 2 * supN vs j then 2 ^ j else 0) = q) (h : openB zs ((c + 2 ^ j : Nat) : Int) ((b + q : Nat) : Int) = false) : stpT zs vs (c, b) j = (c + 2 ^ j, (b + q) ^^^ 2 ^ j) := by
  subst hq
  unfold stpT
  rw [if_neg (by rw [h]; decide)]
end Go.Proofs.Ytccemllgglfgkaa
