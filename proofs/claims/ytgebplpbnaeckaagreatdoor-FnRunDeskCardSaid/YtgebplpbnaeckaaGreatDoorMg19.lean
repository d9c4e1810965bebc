/- Texts of this seat one behind the other: Turn, TurnM, TurnN, Rank. Conditions: none. -/
import Derived.Test.YtgebplpbnaeckaaGreatDoorMg18
import Derived.Test.YtgebplpbnaeckaaGreatDoorMg10
import Derived.Test.YtgebplpbnaeckaaGreatDoorMg04
import Derived.Test.YtgebplpbnaeckaaGreatDoorMg11
import Derived.Test.YtgebplpbnaeckaaGreatDoorMg09
import Derived.Deep.RegionWith
import Derived.Outline
import Derived.Deep.QuietTactic
import Derived.BigQuiet
import Derived.RegionTactic
import Derived.BigRegion

/- Turn: Issues settled in turn: what comes of it, the program's loop and the model's loop. -/
namespace Go.Proofs.YtgebplpbnaeckaaGreatDoor
open Go.RowKit Go.Joins

/-- one issue more: the answer of more than half, or the other one if that is not open -/
def stpT (zs vs : List Int) (s : Nat × Nat) (j : Nat) : Nat × Nat :=
  (s.1 + 2 ^ j, if openB zs ((s.1 + 2 ^ j : Nat) : Int) ((s.2 + (if vs.length < 2 * supN vs j then 2 ^ j else 0) : Nat) : Int) = true then s.2 + (if vs.length < 2 * supN vs j then 2 ^ j else 0)
    else (s.2 + (if vs.length < 2 * supN vs j then 2 ^ j else 0)) ^^^ 2 ^ j)
def turnK (zs vs ls : List Int) : Nat → Nat × Nat
  | 0 => (0, 0)
  | k + 1 => stpT zs vs (turnK zs vs ls k) (ls.getD k 0).toNat
def turnV (n : Int) (zs vs ls : List Int) : Int := if (vvB n zs vs && ordB n ls) = true then ((turnK zs vs ls ls.length).2 : Nat) else -1
theorem turnV_yes {n : Int} {zs vs ls : List Int} (h : vvB n zs vs = true) (h2 : ordB n ls = true) : turnV n zs vs ls = ((turnK zs vs ls ls.length).2 : Nat) := if_pos (by rw [h, h2]; rfl)
theorem turnV_no1 {n : Int} {zs vs ls : List Int} (h : vvB n zs vs = false) : turnV n zs vs ls = -1 := if_neg (by rw [h, Bool.false_and]; decide)
theorem turnV_no2 {n : Int} {zs vs ls : List Int} (h : ordB n ls = false) : turnV n zs vs ls = -1 := if_neg (by rw [h, Bool.and_false]; decide)

theorem tf1 : ∀ c : Fin 16, ∀ j : Fin 4, bitN c.val j.val = 0 → c.val ||| 2 ^ j.val = c.val + 2 ^ j.val ∧ c.val + 2 ^ j.val < 16 := by decide +kernel
theorem tf2 : ∀ c b : Fin 16, ∀ j : Fin 4, bitN c.val j.val = 0 → b.val &&& c.val = b.val → b.val ||| 2 ^ j.val = b.val + 2 ^ j.val ∧ b.val + 2 ^ j.val < 16 ∧ (b.val + 2 ^ j.val) &&& (c.val + 2 ^ j.val) = b.val + 2 ^ j.val ∧ b.val &&& (c.val + 2 ^ j.val) = b.val ∧ (b.val + 2 ^ j.val) ^^^ 2 ^ j.val = b.val ∧ b.val ^^^ 2 ^ j.val = b.val + 2 ^ j.val := by decide +kernel
theorem tf3 : ∀ c : Fin 16, ∀ i j : Fin 4, bitN c.val j.val = 0 → bitN (c.val + 2 ^ j.val) i.val = if i.val = j.val then 1 else bitN c.val i.val := by decide +kernel
/-- what holds of the part when k issues are settled -/
def TInv (ls : List Int) (k : Nat) (s : Nat × Nat) : Prop := s.1 < 16 ∧ s.2 < 16 ∧ s.2 &&& s.1 = s.2 ∧ ∀ i, i < 4 → (bitN s.1 i = 1 ↔ ∃ t, t < k ∧ ls.getD t 0 = (i : Int))
theorem ord_at {n : Int} {ls : List Int} (h : OrdOk n ls) (h4 : n ≤ 4) {k : Nat} (hk : k < ls.length) : ∃ j : Nat, ls[k] = (j : Int) ∧ j < 4 ∧ (j : Int) < n ∧ (ls.getD k 0).toNat = j := by
  have := h.2.1 k hk
  rw [getD_lt hk] at this
  exact ⟨ls[k].toNat, by omega, by omega, by omega, by rw [getD_lt hk]⟩
theorem tinv {n : Int} {zs vs ls : List Int} (h : OrdOk n ls) (h4 : n ≤ 4) : ∀ k, k ≤ ls.length → TInv ls k (turnK zs vs ls k)
  | 0, _ => ⟨by simp [turnK], by simp [turnK], by simp [turnK], fun i _ => by simp [turnK, bitN]⟩
  | k + 1, hk => by
    obtain ⟨hc, hb, hbc, hbits⟩ := tinv (zs := zs) (vs := vs) h h4 k (by omega)
    obtain ⟨j, hj, hj4, _, hjn⟩ := ord_at h h4 (k := k) (by omega)
    have h0 : bitN (turnK zs vs ls k).1 j = 0 := by
      have hle := bitN_le (turnK zs vs ls k).1 j
      rcases (show bitN (turnK zs vs ls k).1 j = 0 ∨ bitN (turnK zs vs ls k).1 j = 1 by omega) with h1 | h1
      · exact h1
      · obtain ⟨t, ht, e⟩ := (hbits j hj4).1 h1
        have := h.2.2 k (by omega) t ht
        rw [getD_lt (show k < ls.length by omega), hj] at this
        exact absurd e this
    have f1 := (tf1 ⟨_, hc⟩ ⟨j, hj4⟩ h0).2
    have f2 := tf2 ⟨_, hc⟩ ⟨_, hb⟩ ⟨j, hj4⟩ h0 hbc
    simp only at f1 f2
    have e : turnK zs vs ls (k + 1) = stpT zs vs (turnK zs vs ls k) j := by rw [turnK, hjn]
    rw [e]
    have both : (stpT zs vs (turnK zs vs ls k) j).2 = (turnK zs vs ls k).2 ∨ (stpT zs vs (turnK zs vs ls k) j).2 = (turnK zs vs ls k).2 + 2 ^ j := by
      unfold stpT
      by_cases hs : vs.length < 2 * supN vs j
      · simp only [if_pos hs]
        split
        · exact .inr rfl
        · exact .inl f2.2.2.2.2.1
      · simp only [if_neg hs, Nat.add_zero]
        split
        · exact .inl rfl
        · exact .inr f2.2.2.2.2.2
    refine ⟨f1, ?_, ?_, fun i hi => ?_⟩
    · rcases both with e2 | e2
      · rw [e2]; exact hb
      · rw [e2]; exact f2.2.1
    · rcases both with e2 | e2
      · rw [e2]; exact f2.2.2.2.1
      · rw [e2]; exact f2.2.2.1
    · have f3 := tf3 ⟨_, hc⟩ ⟨i, hi⟩ ⟨j, hj4⟩ h0
      simp only at f3
      show bitN ((turnK zs vs ls k).1 + 2 ^ j) i = 1 ↔ _
      rw [f3]
      constructor
      · intro hh
        split at hh
        · rename_i hij
          exact ⟨k, by omega, by rw [getD_lt (show k < ls.length by omega), hj, hij]⟩
        · obtain ⟨t, ht, et⟩ := (hbits i hi).1 hh
          exact ⟨t, by omega, et⟩
      · rintro ⟨t, ht, et⟩
        split
        · rfl
        · rename_i hij
          rcases Nat.lt_or_ge t k with h1 | h1
          · exact (hbits i hi).2 ⟨t, h1, et⟩
          · obtain rfl : t = k := by omega
            rw [getD_lt (show t < ls.length by omega), hj] at et
            omega
/-- What one step needs. -/
theorem tstep {n : Int} {zs vs ls : List Int} (h : OrdOk n ls) (h4 : n ≤ 4) {k : Nat} (hk : k < ls.length) :
    ∃ j : Nat, ls[k] = (j : Int) ∧ j < 4 ∧ (j : Int) < n ∧ turnK zs vs ls (k + 1) = stpT zs vs (turnK zs vs ls k) j ∧ (turnK zs vs ls k).1 < 16 ∧ (turnK zs vs ls k).2 < 16 ∧
      (turnK zs vs ls k).1 ||| 2 ^ j = (turnK zs vs ls k).1 + 2 ^ j ∧ (turnK zs vs ls k).1 + 2 ^ j < 16 ∧ (turnK zs vs ls k).2 ||| 2 ^ j = (turnK zs vs ls k).2 + 2 ^ j ∧ (turnK zs vs ls k).2 + 2 ^ j < 16 := by
  obtain ⟨hc, hb, hbc, hbits⟩ := tinv (zs := zs) (vs := vs) h h4 k (by omega)
  obtain ⟨j, hj, hj4, hjn, hjt⟩ := ord_at h h4 hk
  have h0 : bitN (turnK zs vs ls k).1 j = 0 := by
    have hle := bitN_le (turnK zs vs ls k).1 j
    rcases (show bitN (turnK zs vs ls k).1 j = 0 ∨ bitN (turnK zs vs ls k).1 j = 1 by omega) with h1 | h1
    · exact h1
    · obtain ⟨t, ht, e⟩ := (hbits j hj4).1 h1
      have := h.2.2 k hk t ht
      rw [getD_lt hk, hj] at this
      exact absurd e this
  have f1 := tf1 ⟨_, hc⟩ ⟨j, hj4⟩ h0
  have f2 := tf2 ⟨_, hc⟩ ⟨_, hb⟩ ⟨j, hj4⟩ h0 hbc
  simp only at f1 f2
  exact ⟨j, hj, hj4, hjn, by rw [turnK, hjt], hc, hb, f1.1, f1.2, f2.1, f2.2.1⟩
theorem bits_or : ∀ p q : Fin 16, bits .or .i64 ((p.val : Nat) : Int) ((q.val : Nat) : Int) = ((p.val ||| q.val : Nat) : Int) := by decide +kernel
theorem bits_xor : ∀ p q : Fin 16, bits .xor .i64 ((p.val : Nat) : Int) ((q.val : Nat) : Int) = ((p.val ^^^ q.val : Nat) : Int) := by decide +kernel
theorem bits_and : ∀ p q : Fin 16, bits .and .i64 ((p.val : Nat) : Int) ((q.val : Nat) : Int) = ((p.val &&& q.val : Nat) : Int) := by decide +kernel
theorem tpush : ∀ k : Fin 4, ∀ a : Fin 16, ∀ j : Fin 4, a.val < 2 ^ k.val → bitN (a.val + 2 ^ k.val) j.val = if j.val = k.val then 1 else bitN a.val j.val := by decide +kernel
theorem tbitB (vs : List Int) (j : Nat) (hj : j < 4) : ∀ k, k ≤ 4 → bitN (wantB vs k) j = if j < k ∧ vs.length < 2 * supN vs j then 1 else 0
  | 0, _ => by simp [wantB, bitN]
  | k + 1, h => by
    have ih := tbitB vs j hj k (by omega)
    have hlt := wantB_lt vs k
    have h16 : wantB vs k < 16 := Nat.lt_of_lt_of_le hlt (Nat.pow_le_pow_right (n := 2) (by omega) (show k ≤ 4 by omega))
    by_cases he : vs.length < 2 * supN vs k
    · have hp := tpush ⟨k, by omega⟩ ⟨wantB vs k, h16⟩ ⟨j, hj⟩ hlt
      simp only at hp
      rw [wantB_yes he, hp, ih]
      by_cases hjk : j = k
      · subst hjk
        rw [if_pos rfl, if_pos ⟨by omega, he⟩]
      · rw [if_neg hjk]
        by_cases hjl : j < k
        · simp [hjl, show j < k + 1 by omega]
        · rw [if_neg (by omega), if_neg (by omega)]
    · rw [wantB_no he, ih]
      by_cases hjk : j < k
      · simp [hjk, show j < k + 1 by omega]
      · rw [if_neg (by omega), if_neg]
        rintro ⟨h1, h2⟩
        obtain rfl : j = k := by omega
        exact he h2
theorem and_pow : ∀ M : Fin 16, ∀ j : Fin 4, M.val &&& 2 ^ j.val = if bitN M.val j.val = 1 then 2 ^ j.val else 0 := by decide +kernel
theorem maj_and {vs : List Int} {m j : Nat} (hm : m ≤ 4) (hj : j < m) : wantB vs m &&& 2 ^ j = if vs.length < 2 * supN vs j then 2 ^ j else 0 := by
  have h16 : wantB vs m < 16 := Nat.lt_of_lt_of_le (wantB_lt vs m) (Nat.pow_le_pow_right (n := 2) (by omega) hm)
  have h := and_pow ⟨_, h16⟩ ⟨j, by omega⟩
  simp only at h
  rw [h, tbitB vs j (by omega) m hm]
  by_cases hs : vs.length < 2 * supN vs j
  · rw [if_pos (show (if j < m ∧ vs.length < 2 * supN vs j then 1 else 0) = 1 from if_pos ⟨hj, hs⟩), if_pos hs]
  · rw [if_neg (show ¬ (if j < m ∧ vs.length < 2 * supN vs j then 1 else 0) = 1 from by rw [if_neg (fun h => hs h.2)]; omega), if_neg hs]
theorem stpT_open {zs vs : List Int} {c b j q : Nat} (hq : (if vs.length < 2 * supN vs j then 2 ^ j else 0) = q) (h : openB zs ((c + 2 ^ j : Nat) : Int) ((b + q : Nat) : Int) = true) : stpT zs vs (c, b) j = (c + 2 ^ j, b + q) := by
  subst hq
  unfold stpT
  rw [if_pos h]
theorem stpT_shut {zs vs : List Int} {c b j q : Nat} (hq : (if vs.length < 2 * supN vs j then 2 ^ j else 0) = q) (h : openB zs ((c + 2 ^ j : Nat) : Int) ((b + q : Nat) : Int) = false) : stpT zs vs (c, b) j = (c + 2 ^ j, (b + q) ^^^ 2 ^ j) := by
  subst hq
  unfold stpT
  rw [if_neg (by rw [h]; decide)]
end Go.Proofs.YtgebplpbnaeckaaGreatDoor

/- TurnM: What the promises on issues settled in turn need. -/
namespace Go.Proofs.YtgebplpbnaeckaaGreatDoor
open Go.RowKit Go.Joins

theorem tm1 : ∀ c b : Fin 16, ∀ i j : Fin 4, bitN c.val j.val = 0 → b.val &&& c.val = b.val → bitN (b.val + 2 ^ j.val) i.val = (if i.val = j.val then 1 else bitN b.val i.val) ∧ bitN b.val j.val = 0 := by decide +kernel
theorem tm2 : ∀ y c b : Fin 16, b.val &&& c.val = b.val → ((y.val &&& c.val = b.val) ↔ ∀ i : Fin 4, bitN c.val i.val = 1 → bitN y.val i.val = bitN b.val i.val) := by decide +kernel
/-- a judgment gives the answers that are settled -/
def Fits (s : Nat × Nat) (y : Nat) : Prop := ∀ i, i < 4 → bitN s.1 i = 1 → bitN y i = bitN s.2 i
theorem fits_iff {c b y : Nat} (hc : c < 16) (hb : b < 16) (hy : y < 16) (h : b &&& c = b) : y &&& c = b ↔ Fits (c, b) y := by
  have := tm2 ⟨y, hy⟩ ⟨c, hc⟩ ⟨b, hb⟩ h
  simp only at this
  rw [this]
  exact ⟨fun h i hi => h ⟨i, hi⟩, fun h i => h i.val i.isLt⟩
/-- the answer of more than half -/
def mj (vs : List Int) (j : Nat) : Nat := if vs.length < 2 * supN vs j then 1 else 0
theorem open_fits {n : Int} {zs : List Int} (hV : Valid n zs) {c b : Nat} (hc : c < 16) (hb : b < 16) (h : b &&& c = b) : openB zs (c : Int) (b : Int) = true ↔ ∃ y : Nat, (y : Int) ∈ zs ∧ Fits (c, b) y := by
  unfold openB
  rw [List.any_eq_true]
  constructor
  · rintro ⟨x, hx, e⟩
    obtain ⟨z, rfl, _, hz⟩ := zs_nat hV hx
    refine ⟨z, hx, (fits_iff hc hb hz h).1 ?_⟩
    unfold hpB at e
    simpa using e
  · rintro ⟨y, hy, e⟩
    have hz := valid_range hV _ hy
    refine ⟨_, hy, ?_⟩
    unfold hpB
    simpa using (fits_iff hc hb (by omega) h).2 e
/-- one step: the answer t of issue j -/
theorem turn_step {n : Int} {zs vs ls : List Int} (hV : Valid n zs) (h : OrdOk n ls) {k : Nat} (hk : k < ls.length) :
    ∃ j t : Nat, ls.getD k 0 = (j : Int) ∧ j < 4 ∧ (j : Int) < n ∧ t ≤ 1 ∧ bitN (turnK zs vs ls k).1 j = 0 ∧ (∀ i, i < 4 → bitN (turnK zs vs ls (k + 1)).1 i = if i = j then 1 else bitN (turnK zs vs ls k).1 i) ∧
      (∀ i, i < 4 → bitN (turnK zs vs ls (k + 1)).2 i = if i = j then t else bitN (turnK zs vs ls k).2 i) ∧
      ((t = mj vs j ∧ ∃ y : Nat, (y : Int) ∈ zs ∧ Fits (turnK zs vs ls (k + 1)) y) ∨ (t ≠ mj vs j ∧ ∀ y : Nat, (y : Int) ∈ zs → Fits (turnK zs vs ls k) y → bitN y j ≠ mj vs j)) := by
  have h4 : n ≤ 4 := hV.1.2
  obtain ⟨j, hj, hj4, hjn, hjt⟩ := ord_at h h4 hk
  obtain ⟨hc, hb, hbc, hbits⟩ := tinv (zs := zs) (vs := vs) h h4 k (by omega)
  have h0 : bitN (turnK zs vs ls k).1 j = 0 := by
    have hle := bitN_le (turnK zs vs ls k).1 j
    rcases (show bitN (turnK zs vs ls k).1 j = 0 ∨ bitN (turnK zs vs ls k).1 j = 1 by omega) with h1 | h1
    · exact h1
    · obtain ⟨t, ht, e⟩ := (hbits j hj4).1 h1
      have := h.2.2 k (by omega) t ht
      rw [getD_lt hk, hj] at this
      exact absurd e this
  have e : turnK zs vs ls (k + 1) = stpT zs vs (turnK zs vs ls k) j := by rw [turnK, hjt]
  obtain ⟨s, hs⟩ : ∃ s, turnK zs vs ls k = s := ⟨_, rfl⟩
  obtain ⟨C, B⟩ := s
  rw [e]
  rw [hs] at hc hb hbc h0 ⊢
  simp only at hc hb hbc h0
  have f1 := tf1 ⟨C, hc⟩ ⟨j, hj4⟩ h0
  have f2 := tf2 ⟨C, hc⟩ ⟨B, hb⟩ ⟨j, hj4⟩ h0 hbc
  have f3 : ∀ i, i < 4 → bitN (C + 2 ^ j) i = if i = j then 1 else bitN C i := fun i hi => tf3 ⟨C, hc⟩ ⟨i, hi⟩ ⟨j, hj4⟩ h0
  have f4 : ∀ i, i < 4 → bitN (B + 2 ^ j) i = if i = j then 1 else bitN B i := fun i hi => (tm1 ⟨C, hc⟩ ⟨B, hb⟩ ⟨i, hi⟩ ⟨j, hj4⟩ h0 hbc).1
  have f5 : bitN B j = 0 := (tm1 ⟨C, hc⟩ ⟨B, hb⟩ 0 ⟨j, hj4⟩ h0 hbc).2
  simp only at f1 f2
  have f6 : ∀ i, i < 4 → bitN B i = if i = j then 0 else bitN B i := fun i _ => by
    split
    · rename_i hij; rw [hij, f5]
    · rfl
  have o1 := open_fits hV (c := C + 2 ^ j) (b := B + 2 ^ j) f1.2 f2.2.1 f2.2.2.1
  have o0 := open_fits hV (c := C + 2 ^ j) (b := B) f1.2 hb f2.2.2.2.1
  have fit1 : ∀ y, Fits (C, B) y → bitN y j = 1 → Fits (C + 2 ^ j, B + 2 ^ j) y := fun y hf hy i hi hci => by
    simp only at hci ⊢
    rw [f4 i hi]
    rw [f3 i hi] at hci
    split
    · rename_i hij; rw [hij, hy]
    · rename_i hij; rw [if_neg hij] at hci; exact hf i hi hci
  have fit0 : ∀ y, Fits (C, B) y → bitN y j = 0 → Fits (C + 2 ^ j, B) y := fun y hf hy i hi hci => by
    simp only at hci ⊢
    rw [f3 i hi] at hci
    by_cases hij : i = j
    · rw [hij, hy, f5]
    · rw [if_neg hij] at hci; exact hf i hi hci
  by_cases hm : vs.length < 2 * supN vs j
  · have em : mj vs j = 1 := if_pos hm
    have e1 : stpT zs vs (C, B) j = (C + 2 ^ j, if openB zs ((C + 2 ^ j : Nat) : Int) ((B + 2 ^ j : Nat) : Int) = true then B + 2 ^ j else B) := by
      unfold stpT
      simp only [if_pos hm, f2.2.2.2.2.1]
    by_cases ho : openB zs ((C + 2 ^ j : Nat) : Int) ((B + 2 ^ j : Nat) : Int) = true
    · rw [if_pos ho] at e1
      refine ⟨j, 1, by rw [getD_lt hk]; exact hj, hj4, hjn, Nat.le_refl _, h0, ?_, ?_, .inl ⟨em.symm, ?_⟩⟩
      · rw [e1]; exact f3
      · rw [e1]; exact f4
      · rw [e1]; exact o1.1 ho
    · rw [if_neg ho] at e1
      refine ⟨j, 0, by rw [getD_lt hk]; exact hj, hj4, hjn, by omega, h0, ?_, ?_, .inr ⟨by omega, fun y hy hf hyj => ho (o1.2 ⟨y, hy, fit1 y hf (by omega)⟩)⟩⟩
      · rw [e1]; exact f3
      · rw [e1]; exact f6
  · have em : mj vs j = 0 := if_neg hm
    have e1 : stpT zs vs (C, B) j = (C + 2 ^ j, if openB zs ((C + 2 ^ j : Nat) : Int) (B : Int) = true then B else B + 2 ^ j) := by
      unfold stpT
      simp only [if_neg hm, Nat.add_zero, f2.2.2.2.2.2]
    by_cases ho : openB zs ((C + 2 ^ j : Nat) : Int) (B : Int) = true
    · rw [if_pos ho] at e1
      refine ⟨j, 0, by rw [getD_lt hk]; exact hj, hj4, hjn, by omega, h0, ?_, ?_, .inl ⟨em.symm, ?_⟩⟩
      · rw [e1]; exact f3
      · rw [e1]; exact f6
      · rw [e1]; exact o0.1 ho
    · rw [if_neg ho] at e1
      refine ⟨j, 1, by rw [getD_lt hk]; exact hj, hj4, hjn, Nat.le_refl _, h0, ?_, ?_, .inr ⟨by omega, fun y hy hf hyj => ho (o0.2 ⟨y, hy, fit0 y hf (by omega)⟩)⟩⟩
      · rw [e1]; exact f3
      · rw [e1]; exact f4
end Go.Proofs.YtgebplpbnaeckaaGreatDoor

/- TurnN: What is settled in turn is a judgment; where undecided issues come last it keeps what can be kept; where the space is settled it is what is wanted. -/
namespace Go.Proofs.YtgebplpbnaeckaaGreatDoor
open Go.RowKit Go.Joins

theorem turn_fits {n : Int} {zs vs ls : List Int} (hV : Valid n zs) (h : OrdOk n ls) : ∀ k, k ≤ ls.length → ∃ y : Nat, (y : Int) ∈ zs ∧ Fits (turnK zs vs ls k) y
  | 0, _ => by
    have hp := hV.2.1
    obtain ⟨z, hz, _, _⟩ := zs_nat hV (List.getElem_mem hp)
    exact ⟨z, by rw [← hz]; exact List.getElem_mem hp, fun i _ hc => by simp [turnK, bitN] at hc⟩
  | k + 1, hk => by
    obtain ⟨y, hy, hf⟩ := turn_fits (vs := vs) hV h k (by omega)
    obtain ⟨j, t, hj, hj4, hjn, ht, h0, hC, hB, hh⟩ := turn_step (vs := vs) hV h (k := k) (by omega)
    rcases hh with ⟨_, hh⟩ | ⟨hne, hh⟩
    · exact hh
    · refine ⟨y, hy, fun i hi hc => ?_⟩
      have h1 := hh y hy hf
      have h2 := bitN_le y j
      have h3 : mj vs j ≤ 1 := by unfold mj; split <;> omega
      rw [hB i hi]
      rw [hC i hi] at hc
      split
      · rename_i hij; rw [hij]; omega
      · rename_i hij; rw [if_neg hij] at hc; exact hf i hi hc
theorem turn_sum {n : Int} {zs vs ls : List Int} (hV : Valid n zs) (h : OrdOk n ls) : ∀ k, k ≤ ls.length → bitN (turnK zs vs ls k).1 0 + bitN (turnK zs vs ls k).1 1 + bitN (turnK zs vs ls k).1 2 + bitN (turnK zs vs ls k).1 3 = k
  | 0, _ => by simp [turnK, bitN]
  | k + 1, hk => by
    have ih := turn_sum (vs := vs) hV h k (by omega)
    obtain ⟨j, t, hj, hj4, hjn, ht, h0, hC, hB, hh⟩ := turn_step (vs := vs) hV h (k := k) (by omega)
    rw [hC 0 (by omega), hC 1 (by omega), hC 2 (by omega), hC 3 (by omega)]
    rcases (show j = 0 ∨ j = 1 ∨ j = 2 ∨ j = 3 by omega) with rfl | rfl | rfl | rfl <;> simp <;> omega
theorem turn_high {n : Int} {zs vs ls : List Int} (hV : Valid n zs) (h : OrdOk n ls) (k : Nat) (hk : k ≤ ls.length) (i : Nat) (hi : i < 4) (hin : n ≤ (i : Int)) : bitN (turnK zs vs ls k).1 i = 0 := by
  have hb := (tinv (zs := zs) (vs := vs) h hV.1.2 k hk).2.2.2 i hi
  have hle := bitN_le (turnK zs vs ls k).1 i
  by_cases h1 : bitN (turnK zs vs ls k).1 i = 1
  · obtain ⟨t, ht, e⟩ := hb.1 h1
    have := (h.2.1 t (by omega)).2
    omega
  · omega
theorem turn_full {n : Int} {zs vs ls : List Int} (hV : Valid n zs) (h : OrdOk n ls) (i : Nat) (hin : (i : Int) < n) : bitN (turnK zs vs ls ls.length).1 i = 1 := by
  have hs := turn_sum (vs := vs) hV h ls.length (Nat.le_refl _)
  have hl := h.1
  have h1 := hV.1
  have hh := fun i hi hin => turn_high (vs := vs) hV h ls.length (Nat.le_refl _) i hi hin
  have b0 := bitN_le (turnK zs vs ls ls.length).1 0
  have b1 := bitN_le (turnK zs vs ls ls.length).1 1
  have b2 := bitN_le (turnK zs vs ls ls.length).1 2
  have b3 := bitN_le (turnK zs vs ls ls.length).1 3
  rcases (show n = 1 ∨ n = 2 ∨ n = 3 ∨ n = 4 by omega) with rfl | rfl | rfl | rfl
  · have := hh 1 (by omega) (by omega); have := hh 2 (by omega) (by omega); have := hh 3 (by omega) (by omega)
    obtain rfl : i = 0 := by omega
    omega
  · have := hh 2 (by omega) (by omega); have := hh 3 (by omega) (by omega)
    rcases (show i = 0 ∨ i = 1 by omega) with rfl | rfl <;> omega
  · have := hh 3 (by omega) (by omega)
    rcases (show i = 0 ∨ i = 1 ∨ i = 2 by omega) with rfl | rfl | rfl <;> omega
  · rcases (show i = 0 ∨ i = 1 ∨ i = 2 ∨ i = 3 by omega) with rfl | rfl | rfl | rfl <;> omega
theorem bits_eq : ∀ y b : Fin 16, (∀ i : Fin 4, bitN y.val i.val = bitN b.val i.val) → y.val = b.val := by decide +kernel
theorem sub_zero : ∀ b c : Fin 16, b.val &&& c.val = b.val → ∀ i : Fin 4, bitN c.val i.val = 0 → bitN b.val i.val = 0 := by decide +kernel
/-- who gives all the answers of the end is the end -/
theorem turn_end {n : Int} {zs vs ls : List Int} (hV : Valid n zs) (h : OrdOk n ls) {y : Nat} (hy : (y : Int) ∈ zs) (hf : Fits (turnK zs vs ls ls.length) y) : y = (turnK zs vs ls ls.length).2 := by
  obtain ⟨hc, hb, hbc, _⟩ := tinv (zs := zs) (vs := vs) h hV.1.2 ls.length (Nat.le_refl _)
  obtain ⟨z, hz, hz1, hz2⟩ := zs_nat hV hy
  obtain rfl : y = z := by omega
  refine bits_eq ⟨y, hz2⟩ ⟨_, hb⟩ fun i => ?_
  by_cases hi : ((i.val : Nat) : Int) < n
  · exact hf i.val i.isLt (turn_full hV h i.val hi)
  · have h1 := bit_high ⟨n.toNat, by have := hV.1; omega⟩ ⟨y, hz2⟩ i hz1 (by simp only; omega)
    have h2 := sub_zero ⟨_, hb⟩ ⟨_, hc⟩ hbc i (turn_high hV h _ (Nat.le_refl _) i.val i.isLt (by omega))
    simp only at h1 h2 ⊢
    rw [h1, h2]
theorem turn_in {n : Int} {zs vs ls : List Int} (hV : Valid n zs) (h : OrdOk n ls) : (((turnK zs vs ls ls.length).2 : Nat) : Int) ∈ zs := by
  obtain ⟨y, hy, hf⟩ := turn_fits (vs := vs) hV h ls.length (Nat.le_refl _)
  rw [← turn_end hV h hy hf]
  exact hy
theorem turn_later {n : Int} {zs vs ls : List Int} (hV : Valid n zs) (h : OrdOk n ls) (k i : Nat) (hi : i < 4) (hc : bitN (turnK zs vs ls k).1 i = 1) : ∀ d, k + d ≤ ls.length → bitN (turnK zs vs ls (k + d)).1 i = 1 ∧ bitN (turnK zs vs ls (k + d)).2 i = bitN (turnK zs vs ls k).2 i
  | 0, _ => ⟨hc, rfl⟩
  | d + 1, hd => by
    have ih := turn_later hV h k i hi hc d (by omega)
    obtain ⟨j, t, hj, hj4, hjn, ht, h0, hC, hB, hh⟩ := turn_step (vs := vs) hV h (k := k + d) (by omega)
    have hij : i ≠ j := fun e => by rw [e] at ih; omega
    rw [← Nat.add_assoc, hC i hi, hB i hi, if_neg hij, if_neg hij]
    exact ih
/-- undecided -/
def Tie (vs : List Int) (j : Nat) : Prop := 2 * supN vs j = vs.length
instance (vs : List Int) (j : Nat) : Decidable (Tie vs j) := by unfold Tie; infer_instance
/-- the undecided issues come last -/
def TiesLast (vs ls : List Int) : Prop := ∀ p q, p < q → q < ls.length → Tie vs (ls.getD p 0).toNat → Tie vs (ls.getD q 0).toNat
theorem lost_at {vs : List Int} {m y i : Nat} (hm : m ≤ 4) (hy : y < 16) (hi : i < 4) : bitN (lostN (wantC vs m) (wantB vs m) (y : Int)) i = if (i < m ∧ ¬ Tie vs i) ∧ bitN y i ≠ mj vs i then 1 else 0 := by
  have hc := pow_16 hm (wantC_lt vs m)
  have hb := pow_16 hm (wantB_lt vs m)
  have hl := lost_bit ⟨y, hy⟩ ⟨_, hb⟩ ⟨_, hc⟩ ⟨i, hi⟩
  simp only at hl
  unfold lostN
  rw [Int.toNat_natCast, hl, bitC vs i hi m hm, bitB vs i hi m hm]
  unfold mj Tie
  by_cases h1 : i < m
  · by_cases h2 : 2 * supN vs i = vs.length
    · simp [h1, h2]
    · by_cases h3 : vs.length < 2 * supN vs i
      · simp [h1, h2, h3]
      · simp [h1, h2, h3]
  · simp [h1]
theorem turn_kept {n : Int} {zs vs ls : List Int} (hV : Valid n zs) (h : OrdOk n ls) (hT : TiesLast vs ls) {y : Nat} (hy : (y : Int) ∈ zs) : ∀ k, k ≤ ls.length → Fits (turnK zs vs ls k) y ∨
    (∃ i, i < 4 ∧ bitN (lostN (wantC vs n.toNat) (wantB vs n.toNat) (y : Int)) i = 1 ∧ bitN (lostN (wantC vs n.toNat) (wantB vs n.toNat) ((turnK zs vs ls ls.length).2 : Nat)) i = 0) ∨
    (∀ i, i < 4 → bitN (lostN (wantC vs n.toNat) (wantB vs n.toNat) (y : Int)) i = bitN (lostN (wantC vs n.toNat) (wantB vs n.toNat) ((turnK zs vs ls ls.length).2 : Nat)) i)
  | 0, _ => .inl fun i _ hc => by simp [turnK, bitN] at hc
  | k + 1, hk => by
    rcases turn_kept hV h hT hy k (by omega) with hf | hx
    · have h4 : n.toNat ≤ 4 := by have := hV.1; omega
      obtain ⟨z, hz, hz1, hz2⟩ := zs_nat hV hy
      obtain rfl : y = z := by omega
      have hb := (tinv (zs := zs) (vs := vs) h hV.1.2 ls.length (Nat.le_refl _)).2.1
      obtain ⟨j, t, hj, hj4, hjn, ht, h0, hC, hB, hh⟩ := turn_step (vs := vs) hV h (k := k) (by omega)
      have hyj := bitN_le y j
      have hmj : mj vs j ≤ 1 := by unfold mj; split <;> omega
      by_cases he : bitN y j = t
      · refine .inl fun i hi hc => ?_
        rw [hB i hi]
        rw [hC i hi] at hc
        split
        · rename_i hij; rw [hij]; exact he
        · rename_i hij; rw [if_neg hij] at hc; exact hf i hi hc
      · rcases hh with ⟨htm, _⟩ | ⟨hne, hh⟩
        · have hcj : bitN (turnK zs vs ls (k + 1)).1 j = 1 := by rw [hC j hj4, if_pos rfl]
          have hlast := (turn_later hV h (k + 1) j hj4 hcj (ls.length - (k + 1)) (by omega)).2
          rw [show k + 1 + (ls.length - (k + 1)) = ls.length by omega, hB j hj4, if_pos rfl] at hlast
          by_cases htie : Tie vs j
          · refine .inr (.inr fun i hi => ?_)
            rw [lost_at h4 hz2 hi, lost_at h4 hb hi]
            by_cases hci : bitN (turnK zs vs ls k).1 i = 1
            · have hl2 := (turn_later hV h k i hi hci (ls.length - k) (by omega)).2
              rw [show k + (ls.length - k) = ls.length by omega] at hl2
              rw [hl2, hf i hi hci]
            · by_cases him : i < n.toNat
              · have hfull := turn_full (vs := vs) hV h i (by omega)
                obtain ⟨q, hq, eq⟩ := ((tinv (zs := zs) (vs := vs) h hV.1.2 ls.length (Nat.le_refl _)).2.2.2 i hi).1 hfull
                have hkq : k ≤ q := by
                  rcases Nat.lt_or_ge q k with h1 | h1
                  · exact absurd (((tinv (zs := zs) (vs := vs) h hV.1.2 k (by omega)).2.2.2 i hi).2 ⟨q, h1, eq⟩) hci
                  · exact h1
                have hti : Tie vs i := by
                  rcases Nat.lt_or_ge k q with h1 | h1
                  · have := hT k q h1 hq (by rw [hj, Int.toNat_natCast]; exact htie)
                    rwa [eq, Int.toNat_natCast] at this
                  · obtain rfl : k = q := by omega
                    rw [hj] at eq
                    obtain rfl : j = i := by omega
                    exact htie
                rw [if_neg (fun hh => hh.1.2 hti), if_neg (fun hh => hh.1.2 hti)]
              · rw [if_neg (fun hh => him hh.1.1), if_neg (fun hh => him hh.1.1)]
          · refine .inr (.inl ⟨j, hj4, ?_, ?_⟩)
            · rw [lost_at h4 hz2 hj4, if_pos ⟨⟨by omega, htie⟩, by omega⟩]
            · rw [lost_at h4 hb hj4, if_neg (fun hh => hh.2 (by omega))]
        · have := hh y hy hf
          omega
    · exact .inr hx
theorem and_bits : ∀ p q : Fin 16, p.val &&& q.val = p.val → ∀ i : Fin 4, bitN p.val i.val = 1 → bitN q.val i.val = 1 := by decide +kernel
/-- What the promise of RankedRule needs. -/
theorem turn_best {n : Int} {zs vs ls : List Int} (hv : vvB n zs vs = true) (h : OrdOk n ls) (hT : TiesLast vs ls) : (((turnK zs vs ls ls.length).2 : Nat) : Int) ∈ bestK n zs vs := by
  obtain ⟨hV, hO⟩ := vv_of hv
  have h4 : n.toNat ≤ 4 := by have := hV.1; omega
  have hC := pow_16 h4 (wantC_lt vs n.toNat)
  rw [bestK_yes hv, mem_unb]
  refine ⟨turn_in hV h, fun x hx => ?_⟩
  obtain ⟨y, rfl, hy1, hy2⟩ := zs_nat hV hx
  have hp := lostN_lt (b := wantB vs n.toNat) (y : Int) hC
  have hq := lostN_lt (b := wantB vs n.toNat) (((turnK zs vs ls ls.length).2 : Nat) : Int) hC
  have key : (∃ i, i < 4 ∧ bitN (lostN (wantC vs n.toNat) (wantB vs n.toNat) (y : Int)) i = 1 ∧ bitN (lostN (wantC vs n.toNat) (wantB vs n.toNat) ((turnK zs vs ls ls.length).2 : Nat)) i = 0) ∨
      (∀ i, i < 4 → bitN (lostN (wantC vs n.toNat) (wantB vs n.toNat) (y : Int)) i = bitN (lostN (wantC vs n.toNat) (wantB vs n.toNat) ((turnK zs vs ls ls.length).2 : Nat)) i) := by
    rcases turn_kept hV h hT hx ls.length (Nat.le_refl _) with hf | hh
    · rw [← turn_end hV h hx hf]; exact .inr fun i _ => rfl
    · exact hh
  obtain ⟨P, hP⟩ : ∃ P, lostN (wantC vs n.toNat) (wantB vs n.toNat) (y : Int) = P := ⟨_, rfl⟩
  obtain ⟨Q, hQ⟩ : ∃ Q, lostN (wantC vs n.toNat) (wantB vs n.toNat) (((turnK zs vs ls ls.length).2 : Nat) : Int) = Q := ⟨_, rfl⟩
  unfold keptB
  rw [hP] at hp
  rw [hQ] at hq
  rw [hP, hQ] at key ⊢
  rcases key with ⟨i, hi, h1, h0⟩ | key
  · rw [Bool.and_eq_false_iff]
    refine .inl (beq_eq_false_iff_ne.2 fun e => ?_)
    have := and_bits ⟨P, hp⟩ ⟨Q, hq⟩ e ⟨i, hi⟩ h1
    simp only at this
    omega
  · have := bits_eq ⟨P, hp⟩ ⟨Q, hq⟩ fun i => key i.val i.isLt
    simp only at this
    rw [this]
    simp
end Go.Proofs.YtgebplpbnaeckaaGreatDoor

/- Rank: The clearest issues first: insertion by a test, in the library's sort of few numbers and in the program. -/
namespace Go.Proofs.YtgebplpbnaeckaaGreatDoor
open Go.RowKit Go.Joins

theorem quiet_add {P : Program} {f : FuncId} {args : Array Value} {w : World} {n : Nat} {v : Value}
    (h : Calls P f args (w.drewN n) fun e w'' => e = .returned v ∧ ∃ m, w'' = (w.drewN n).drewN m) : Calls P f args (w.drewN n) fun e w'' => e = .returned v ∧ ∃ m, w'' = w.drewN m :=
  h.mono fun _ _ ⟨he, m, hm⟩ => ⟨he, n + m, by rw [hm, World.drewN_drewN]⟩

theorem rset (w : World) (R i : Nat) (v : Value) : w.grownBy (w.setCell ⟨R, i, none⟩ v) (some R) :=
  ⟨rfl, rfl, rfl, by show w.heap.size ≤ (w.heap.modify _ _).size; rw [Array.size_modify]; exact Nat.le_refl _, fun _ _ hk => Below.heap_setCell _ _ _ _ (fun e => hk (by rw [e]))⟩
theorem rdrewN {w w' : World} {row : Option Nat} (h : w.grownBy w' row) (n : Nat) : w.grownBy (w'.drewN n) row := ⟨h.os, h.tape, h.output, h.size, h.block⟩
theorem rdrew {w w' : World} {row : Option Nat} (h : w.grownBy w' row) : w.grownBy w'.drew row := ⟨h.os, h.tape, h.output, h.size, h.block⟩
theorem rrefl (w : World) (R : Nat) : w.grownBy w (some R) := ⟨rfl, rfl, rfl, Nat.le_refl _, fun _ _ _ => rfl⟩
theorem mem_swap {l u : List Int} {i j : Nat} (h : ∀ z ∈ u, z ∈ l) (hi : i < u.length) (hj : j < u.length) : ∀ z ∈ (u.set i (u.getD j 0)).set j (u.getD i 0), z ∈ l := by
  intro z hz
  rw [getD_lt hi, getD_lt hj] at hz
  rcases List.mem_or_eq_of_mem_set hz with h1 | h1
  · rcases List.mem_or_eq_of_mem_set h1 with h2 | h2
    · exact h z h2
    · rw [h2]; exact h _ (List.getElem_mem hj)
  · rw [h1]; exact h _ (List.getElem_mem hi)

/-- one number goes to its place, from place j down -/
def insIn (f : Int → Int) (l : List Int) : Nat → List Int
  | 0 => l
  | j + 1 => if f (l.getD j 0) < f (l.getD (j + 1) 0) then insIn f ((l.set (j + 1) (l.getD j 0)).set j (l.getD (j + 1) 0)) j else l
def insK (f : Int → Int) (l : List Int) : Nat → List Int
  | 0 => l
  | i + 1 => insIn f (insK f l i) (i + 1)
theorem insIn_len (f : Int → Int) : ∀ (j : Nat) (l : List Int), (insIn f l j).length = l.length
  | 0, l => rfl
  | j + 1, l => by
    unfold insIn
    split
    · rw [insIn_len f j]; simp
    · rfl
theorem insK_len (f : Int → Int) (l : List Int) : ∀ i, (insK f l i).length = l.length
  | 0 => rfl
  | i + 1 => by rw [insK, insIn_len, insK_len f l i]

theorem cells_set (l : List Int) (k : Nat) (v : Int) : (l.map (Value.int .i64)).toArray.setIfInBounds k (.int .i64 v) = ((l.set k v).map (Value.int .i64)).toArray := by
  simp [List.setIfInBounds_toArray, List.map_set]
theorem cells_at (l : List Int) {j : Nat} (h : j < l.length) : (l.map (Value.int .i64)).toArray[j]? = some (.int .i64 (l.getD j 0)) := by
  simp [h, List.getD_eq_getElem?_getD]

set_option maxHeartbeats 8000000 in
set_option maxRecDepth 100000 in
theorem insertion_any (f : Int → Int) (g cap B : Nat) (l : List Int) (w : World) (hb : w.heap[g]? = some (.cells (l.map (Value.int .i64)).toArray 3 (0, 0))) (hl : l.length ≤ 4) (hpos : 0 < l.length)
    (hf : ∀ (x y : Int) (w' : World), x ∈ l → y ∈ l → w.grownBy w' (some g) → Calls Tryz.prog 144 #[.int .i64 x, .int .i64 y, .pointer (some ⟨B, 0, none⟩)] w' fun e w'' => e = .returned (.int .i64 (f y - f x)) ∧ ∃ m, w'' = w'.drewN m)
    (hbd : ∀ x ∈ l, 0 ≤ f x ∧ f x ≤ 16) :
    Calls Tryz.prog 181 #[.slice (some ⟨g, 0, none⟩) l.length cap, .int .i64 0, .int .i64 (l.length : Nat), .func (.func 144) #[] #[.pointer (some ⟨B, 0, none⟩)]] w
      fun e w' => e = .returned (.tuple #[]) ∧ w'.heap[g]? = some (.cells ((insK f l (l.length - 1)).map (Value.int .i64)).toArray 3 (0, 0)) ∧ w.grownBy w' (some g) := by
  have HF := hide hf
  have HBD := hide hbd
  clear hf hbd
  go_enter Tryz.func181, Tryz.ntmps181
  go_wp2_with fail
  go_loopw [8] (fun x wr => ∃ i : Nat, i + 1 ≤ l.length ∧ x = .int .i64 ((i + 1 : Nat) : Int) ∧ ∃ t : List Int, t = insK f l i ∧ t.length = l.length ∧ (∀ z ∈ t, z ∈ l) ∧ wr.heap[g]? = some (.cells (t.map (Value.int .i64)).toArray 3 (0, 0)) ∧ w.grownBy wr (some g)) (fun x _ => l.length + 1 - (intOf x).toNat)
  case atStart => exact ⟨0, by omega, rfl, l, rfl, rfl, fun z hz => hz, hb, rrefl _ _⟩
  case round =>
    obtain ⟨i, hi, rfl, t, ht, htl, hts, hblk, hg⟩ := hrel
    by_cases hlt : i + 1 < l.length
    · have HT : Hid (insIn f t (i + 1) = insK f l (i + 1)) := by rw [ht]; rfl
      clear ht
      go_wp2
      go_loopw [9] (fun y wq => ∃ (j : Nat) (u : List Int), j ≤ i + 1 ∧ y = .int .i64 (j : Int) ∧ insIn f u j = insK f l (i + 1) ∧ u.length = l.length ∧ (∀ z ∈ u, z ∈ l) ∧ wq.heap[g]? = some (.cells (u.map (Value.int .i64)).toArray 3 (0, 0)) ∧ w.grownBy wq (some g)) (fun y _ => (intOf y).toNat)
      case atStart => exact ⟨i + 1, t, Nat.le_refl _, rfl, HT.out, htl, hts, hblk, hg⟩
      case round =>
        clear hts hblk hg
        obtain ⟨j, u, hj, rfl, hu, hul, hus, hblk, hg⟩ := hrel
        have HU := hide hu
        have HG := hide hg
        have HB := hide hblk
        have HUS := hide hus
        clear hu hg
        cases j with
        | zero =>
          go_wp2
          go_quiet (fail)
          go_wp2
          go_roundw
          case rel => exact ⟨i + 1, by omega, by go_num, u, HU.out, hul, hus, HB.out, rdrewN HG.out _⟩
          case measure => simp only [intOf]; omega
        | succ j =>
          have ca := (cell_of_block hblk (j + 1)).trans (cells_at u (by omega))
          have cb := (cell_of_block hblk j).trans (cells_at u (by omega))
          have fa := unfrozen_of_block hblk (j + 1)
          have fb := unfrozen_of_block hblk j
          have hXm : u.getD (j + 1) 0 ∈ l := by rw [getD_lt (by omega)]; exact hus _ (List.getElem_mem _)
          have hYm : u.getD j 0 ∈ l := by rw [getD_lt (by omega)]; exact hus _ (List.getElem_mem _)
          have bX := HBD.out _ hXm
          have bY := HBD.out _ hYm
          have HCMP := hide (fun (w' : World) (hgw : w.grownBy w' (some g)) => HF.out (u.getD (j + 1) 0) (u.getD j 0) w' hXm hYm hgw)
          have HSW := hide (mem_swap (i := j + 1) (j := j) hus (by omega) (by omega))
          have hcl1 := cells_set u (j + 1) (u.getD j 0)
          have hcl2 := cells_set (u.set (j + 1) (u.getD j 0)) j (u.getD (j + 1) 0)
          have hin : insIn f u (j + 1) = if f (u.getD j 0) < f (u.getD (j + 1) 0) then insIn f ((u.set (j + 1) (u.getD j 0)).set j (u.getD (j + 1) 0)) j else u := rfl
          have hsl : ((u.set (j + 1) (u.getD j 0)).set j (u.getD (j + 1) 0)).length = l.length := by simp [hul]
          have hwj : IntKind.i64.wrap ((j : Nat) : Int) = (j : Int) := IntWalk.i64_in _ (by omega)
          obtain ⟨X, hX⟩ : ∃ X, u.getD (j + 1) 0 = X := ⟨_, rfl⟩
          obtain ⟨Y, hY⟩ : ∃ Y, u.getD j 0 = Y := ⟨_, rfl⟩
          rw [hX] at ca bX HCMP HSW hcl2 hin hsl
          rw [hY] at cb bY HCMP HSW hcl1 hcl2 hin hsl
          have HC1 := hide hcl1
          have HC2 := hide hcl2
          have HIN := hide hin
          have HSL := hide hsl
          clear hcl1 hcl2 hin hX hY hXm hYm hus hblk hsl
          obtain ⟨D, hD⟩ : ∃ D, f Y - f X = D := ⟨_, rfl⟩
          rw [hD] at HCMP
          by_cases hc : f Y < f X
          · have hDn : D < 0 := by omega
            have HU2 : Hid (insIn f ((u.set (j + 1) Y).set j X) j = insK f l (i + 1)) := by
              have h := HU.out
              rw [HIN.out, if_pos hc] at h
              exact h
            clear hc hD bX bY
            go_wp2
            go_quiet ((go_at_call 144; exact quiet_add (HCMP.out _ (rdrewN HG.out _))))
            go_wp2
            go_region
            all_goals go_wp2
            all_goals
              go_roundw
              case rel => exact ⟨j, (u.set (j + 1) Y).set j X, by omega, by go_num, HU2.out, HSL.out, HSW.out, by
                rw [← HC2.out, ← HC1.out]
                exact block_setCell (i := j) (block_setCell (i := j + 1) HB.out _) _, gtrans (gtrans (rdrewN HG.out _) (rset _ g (j + 1) _)) (rset _ g j _)⟩
              case measure => simp only [intOf]; omega
          · have hDn : ¬ D < 0 := by omega
            have HU2 : Hid (u = insK f l (i + 1)) := by
              have h := HU.out
              rw [HIN.out, if_neg hc] at h
              exact h
            clear hc hD bX bY
            go_wp2
            go_quiet ((go_at_call 144; exact quiet_add (HCMP.out _ (rdrewN HG.out _))))
            go_wp2
            go_roundw
            case rel => exact ⟨i + 1, by omega, by go_num, insK f l (i + 1), rfl, by rw [insK_len], by
              rw [← HU2.out]
              exact HUS.out, by rw [← HU2.out]; exact HB.out, rdrewN HG.out _⟩
            case measure => simp only [intOf]; omega
    · have e : l.length - 1 = i := by omega
      have hg' := hide hg
      rw [ht] at hblk
      have HB := hide hblk
      clear hblk ht hts htl hg
      go_wp2
      go_end0
      exact ⟨rfl, by rw [e]; exact HB.out, hg'.out⟩

/-- how far a support is from half of the votes -/
def leadV (n : Int) (ss : List Int) (j : Int) : Int := max (2 * ss.getD j.toNat 0 - n) (n - 2 * ss.getD j.toNat 0)
set_option maxHeartbeats 2000000 in
theorem lead_any (n : Int) (ss : List Int) (a : Option Addr) (cap B2 B3 j : Nat) (w : World) (hj : j < ss.length) (hn : 0 ≤ n ∧ n ≤ 5) (hs : ∀ x ∈ ss, 0 ≤ x ∧ x ≤ 5) (hi : Ints w a ss) (h2 : w.cell? ⟨B2, 0, none⟩ = some (.slice a ss.length cap)) (h3 : w.cell? ⟨B3, 0, none⟩ = some (.int .i64 n)) :
    Calls Tryz.prog 142 #[.int .i64 (j : Int), .pointer (some ⟨B2, 0, none⟩), .pointer (some ⟨B3, 0, none⟩)] w fun e w' => e = .returned (.int .i64 (leadV n ss (j : Int))) ∧ ∃ m, w' = w.drewN m := by
  obtain ⟨b, off, rfl, hb, hc⟩ := hi (by omega)
  have hck := hc j hj
  have hs1 := hs _ (mem_of_at hj)
  rw [getD_lt hj] at hck
  have HL : Hid (leadV n ss (j : Int) = max (2 * ss[j] - n) (n - 2 * ss[j])) := by unfold Hid leadV; rw [Int.toNat_natCast, getD_lt hj]
  obtain ⟨s, hs'⟩ : ∃ s, ss[j] = s := ⟨_, rfl⟩
  rw [hs'] at hck hs1 HL
  have w1 : IntKind.i64.wrap (2 * s) = 2 * s := IntWalk.i64_in _ (by omega)
  have w2 : IntKind.i64.wrap (2 * s - n) = 2 * s - n := IntWalk.i64_in _ (by omega)
  have w3 : IntKind.i64.wrap (n - 2 * s) = n - 2 * s := IntWalk.i64_in _ (by omega)
  clear hc hs hs' hi
  by_cases hm : 2 * s - n < n - 2 * s
  · go_enter Tryz.func142, Tryz.ntmps142
    go_wp2
    go_quiet (fail)
    go_wp2
    go_ret
    exact ⟨ret_int (by rw [HL.out]), ⟨_, rfl⟩⟩
  · go_enter Tryz.func142, Tryz.ntmps142
    go_wp2
    go_quiet (fail)
    go_wp2
    go_ret
    exact ⟨ret_int (by rw [HL.out]), ⟨_, rfl⟩⟩
end Go.Proofs.YtgebplpbnaeckaaGreatDoor
