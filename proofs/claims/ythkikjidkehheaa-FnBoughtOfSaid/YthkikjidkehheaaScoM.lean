/- Scores: the plain mathematics. -/
import Derived.Test.YthkikjidkehheaaCom
namespace Go.Proofs.Ythkikjidkehheaa
open Go.RowKit Go.Joins

/-- a list whose first k numbers have been turned -/
def preM (f : Int → Int) (zs : List Int) (k : Nat) : List Int := (zs.take k).map f ++ zs.drop k
theorem preM_zero (f : Int → Int) (zs : List Int) : preM f zs 0 = zs := by simp [preM]
theorem preM_all (f : Int → Int) (zs : List Int) : preM f zs zs.length = zs.map f := by simp [preM]
theorem preM_length (f : Int → Int) (zs : List Int) (k : Nat) : (preM f zs k).length = zs.length := by simp [preM]; omega
theorem preM_getD (f : Int → Int) (zs : List Int) (k j : Nat) (h : j < zs.length) : (preM f zs k).getD j 0 = if j < k then f zs[j] else zs[j] := by
  unfold preM
  rw [List.getD_eq_getElem?_getD]
  by_cases hk : j < k
  · rw [if_pos hk, List.getElem?_append_left (by simp; omega)]
    simp [hk, h]
  · rw [if_neg hk, List.getElem?_append_right (by simp; omega)]
    have e : k + (j - min k zs.length) = j := by omega
    simp [e, h]
theorem preM_at (f : Int → Int) (zs : List Int) (k : Nat) (h : k < zs.length) : (preM f zs k)[k]'(by rw [preM_length]; exact h) = zs[k] := by
  have := preM_getD f zs k k h
  rwa [getD_lt (by rw [preM_length]; exact h), if_neg (by omega)] at this
theorem preM_set (f : Int → Int) (zs : List Int) (k : Nat) (h : k < zs.length) : (preM f zs k).set k (f zs[k]) = preM f zs (k + 1) := by
  refine ints_ext (by rw [List.length_set, preM_length, preM_length]) fun j hj => ?_
  have hj' : j < zs.length := by rw [List.length_set, preM_length] at hj; exact hj
  rw [preM_getD f zs (k + 1) j hj', List.getD_eq_getElem?_getD]
  by_cases e : k = j
  · subst e
    rw [List.getElem?_set_self (by rw [preM_length]; exact h), if_pos (by omega)]
    rfl
  · rw [List.getElem?_set_ne e, ← List.getD_eq_getElem?_getD, preM_getD f zs k j hj']
    by_cases h1 : j < k
    · rw [if_pos h1, if_pos (by omega)]
    · rw [if_neg h1, if_neg (by omega)]

/-- the sum of 60 over each number up to one -/
def harm : Nat → Nat
  | 0 => 0
  | n + 1 => harm n + 60 / (n + 1)
theorem harm_le : ∀ n, n ≤ 6 → harm n ≤ 147 := by decide
theorem harm_one (n : Nat) (h : 1 ≤ n) : 60 ≤ harm n := by
  obtain ⟨m, rfl⟩ : ∃ m, n = m + 1 := ⟨n - 1, by omega⟩
  clear h
  induction m with
  | zero => decide
  | succ m ih => exact Nat.le_trans ih (Nat.le_add_right _ _)
/-- what so many names are worth by the score q: 0 approval, 1 harmonic, 2 cover, 3 least -/
def worth (q n : Nat) : Nat := if q = 1 then harm n else if q = 2 then min n 1 else n
theorem worth_le (q n : Nat) (h : n ≤ 6) : worth q n ≤ 147 := by
  have := harm_le n h
  unfold worth
  split
  · exact this
  · split <;> omega
/-- the least of the first k ballots' names -/
def minK (bs : List Int) (w : Nat) : Nat → Nat
  | 0 => 5
  | k + 1 => min (minK bs w k) (pc ((bs.getD k 0).toNat &&& w))
theorem minK_le (bs : List Int) (w : Nat) : ∀ k, minK bs w k ≤ 5
  | 0 => Nat.le_refl _
  | k + 1 => by have := minK_le bs w k; unfold minK; omega
/-- the score of the first k ballots -/
def scoreK (q : Nat) (bs : List Int) (w : Nat) : Nat → Nat
  | 0 => 0
  | k + 1 => if q = 3 then minK bs w (k + 1) else scoreK q bs w k + worth q (pc ((bs.getD k 0).toNat &&& w))
theorem scoreK_le (q : Nat) (bs : List Int) (w : Nat) : ∀ k, scoreK q bs w k ≤ 147 * k
  | 0 => Nat.le_refl _
  | k + 1 => by
    have h1 := scoreK_le q bs w k
    have h2 := worth_le q _ (pc_le ((bs.getD k 0).toNat &&& w))
    have h3 := minK_le bs w (k + 1)
    unfold scoreK
    split <;> omega
def scoreV (q : Nat) (bs : List Int) (w : Nat) : Nat := scoreK q bs w bs.length
theorem scoreK_sum {q : Nat} (bs : List Int) (w k : Nat) (h : q ≠ 3) : scoreK q bs w (k + 1) = scoreK q bs w k + worth q (pc ((bs.getD k 0).toNat &&& w)) := by
  show (if q = 3 then _ else _) = _
  rw [if_neg h]
theorem scoreK_min (bs : List Int) (w k : Nat) : scoreK 3 bs w (k + 1) = minK bs w (k + 1) := by
  show (if 3 = 3 then _ else _) = _
  rw [if_pos rfl]

/-- which score has a name; 4 for none -/
def kindN (s : ByteArray) : Nat :=
  if (s.toList == [97, 112, 112, 114, 111, 118, 97, 108]) = true then 0
  else if (s.toList == [104, 97, 114, 109, 111, 110, 105, 99]) = true then 1
  else if (s.toList == [99, 111, 118, 101, 114]) = true then 2
  else if (s.toList == [108, 101, 97, 115, 116]) = true then 3 else 4
theorem kind_cases (s : ByteArray) :
    (kindN s = 0 ∧ (s.toList == [97, 112, 112, 114, 111, 118, 97, 108]) = true) ∨
    (kindN s = 1 ∧ (s.toList == [97, 112, 112, 114, 111, 118, 97, 108]) = false ∧ (s.toList == [104, 97, 114, 109, 111, 110, 105, 99]) = true) ∨
    (kindN s = 2 ∧ (s.toList == [97, 112, 112, 114, 111, 118, 97, 108]) = false ∧ (s.toList == [104, 97, 114, 109, 111, 110, 105, 99]) = false ∧ (s.toList == [99, 111, 118, 101, 114]) = true) ∨
    (kindN s = 3 ∧ (s.toList == [97, 112, 112, 114, 111, 118, 97, 108]) = false ∧ (s.toList == [104, 97, 114, 109, 111, 110, 105, 99]) = false ∧ (s.toList == [99, 111, 118, 101, 114]) = false ∧ (s.toList == [108, 101, 97, 115, 116]) = true) ∨
    (kindN s = 4 ∧ (s.toList == [97, 112, 112, 114, 111, 118, 97, 108]) = false ∧ (s.toList == [104, 97, 114, 109, 111, 110, 105, 99]) = false ∧ (s.toList == [99, 111, 118, 101, 114]) = false ∧ (s.toList == [108, 101, 97, 115, 116]) = false) := by
  unfold kindN
  cases h0 : s.toList == [97, 112, 112, 114, 111, 118, 97, 108]
  · cases h1 : s.toList == [104, 97, 114, 109, 111, 110, 105, 99]
    · cases h2 : s.toList == [99, 111, 118, 101, 114]
      · cases h3 : s.toList == [108, 101, 97, 115, 116] <;> simp
      · simp
    · simp
  · simp
theorem kindN_le (s : ByteArray) : kindN s ≤ 4 := by
  rcases kind_cases s with ⟨h, _⟩ | ⟨h, _⟩ | ⟨h, _⟩ | ⟨h, _⟩ | ⟨h, _⟩ <;> omega
theorem and_lt (b : Int) (w : Nat) (hw : w < 32) : b.toNat &&& w < 32 := Nat.and_lt_two_pow (n := 5) _ hw
theorem and_bal {b : Int} {w : Nat} (hb : 0 ≤ b ∧ b ≤ 31) (hw : w < 32) : bits .and .i64 b (w : Int) = ((b.toNat &&& w : Nat) : Int) := by
  obtain ⟨y, rfl⟩ := Int.eq_ofNat_of_zero_le hb.1
  rw [and_big y w (by omega) (by omega), Int.toNat_natCast]
theorem own_block {w : World} {base g n : Nat} {zs : List Int} (h : Owns w base (.slice (some ⟨g, 0, none⟩) n n) zs) (hl : zs.length = n) : w.heap[g]? = some (.cells (zs.map (Value.int .i64)).toArray 3 (0, 0)) := by
  have h' : w.ownsRow base 3 1 (.slice (some ⟨g, 0, none⟩) n n) zs.length (zs.map (Value.int .i64)) := h
  rcases h'.2 with ⟨e, _⟩ | ⟨g', cap, cur, e, _, hg, _, _, hs, ht⟩
  · simp at e
  · simp only [Value.slice.injEq, Option.some.injEq, Addr.mk.injEq, and_true] at e
    obtain ⟨rfl, _, rfl⟩ := e
    rw [hg]
    have : cur.toList = zs.map (Value.int .i64) := by rw [← ht, List.take_of_length_le (by rw [Array.length_toList, hs]; omega)]
    rw [← this]
theorem own_of_block {w : World} {base g n : Nat} {zs : List Int} (hg : w.heap[g]? = some (.cells (zs.map (Value.int .i64)).toArray 3 (0, 0))) (hl : zs.length = n) (hb : base ≤ g) (hm : n ≤ maxLen) : Owns w base (.slice (some ⟨g, 0, none⟩) n n) zs := by
  refine ⟨by simp, .inr ⟨g, n, _, by rw [hl], hb, hg, by omega, hm, by simp [hl], by rw [List.take_of_length_le (by simp)]⟩⟩
theorem ints_add {w : World} {b off : Nat} {zs : List Int} (hc : ∀ k, k < zs.length → w.cell? ⟨b, off + k, none⟩ = some (.int .i64 (zs.getD k 0))) : ∀ j v, (zs.map (Value.int .i64))[j]? = some v → w.cell? ((⟨b, off, none⟩ : Addr).add j) = some v := by
  intro j v hj
  rw [List.getElem?_map] at hj
  by_cases hl : j < zs.length
  · rw [List.getElem?_eq_getElem hl] at hj
    have e1 : (⟨b, off, none⟩ : Addr).add j = ⟨b, off + j, none⟩ := by
      unfold Addr.add
      by_cases h : j = 0 <;> simp [h]
    rw [e1, hc j hl, getD_lt hl]
    simpa using hj
  · rw [List.getElem?_eq_none (by omega)] at hj
    cases hj
/-- names of a committee alone -/
def bandI (w : Nat) (b : Int) : Int := ((b.toNat &&& w : Nat) : Int)
end Go.Proofs.Ythkikjidkehheaa
