/- Greedy committees: the plain mathematics. -/
import Derived.Test.YtgkaghappogglaaScoreOf
namespace Go.Proofs.Ytgkaghappogglaa
open Go.RowKit Go.Joins

/-- the greatest score with one of the first t names that are not there yet, and the name -/
def nextS (q : Nat) (bs : List Int) (w : Nat) : Nat → Int × Nat
  | 0 => (-1, 0)
  | t + 1 => if bitN w t = 0 ∧ (nextS q bs w t).1 < (scoreV q bs (w ||| 2 ^ t) : Int) then ((scoreV q bs (w ||| 2 ^ t) : Int), t) else nextS q bs w t
theorem nextS_yes {q : Nat} {bs : List Int} {w t : Nat} (h : bitN w t = 0) (h2 : (nextS q bs w t).1 < (scoreV q bs (w ||| 2 ^ t) : Int)) : nextS q bs w (t + 1) = ((scoreV q bs (w ||| 2 ^ t) : Int), t) := if_pos ⟨h, h2⟩
theorem nextS_no {q : Nat} {bs : List Int} {w t : Nat} (h : ¬ (bitN w t = 0 ∧ (nextS q bs w t).1 < (scoreV q bs (w ||| 2 ^ t) : Int))) : nextS q bs w (t + 1) = nextS q bs w t := if_neg h
theorem nextS_inv (q : Nat) (bs : List Int) (w : Nat) : ∀ t, ((nextS q bs w t).1 = -1 ∧ (nextS q bs w t).2 = 0 ∧ ∀ x, x < t → bitN w x ≠ 0) ∨ (0 ≤ (nextS q bs w t).1 ∧ (nextS q bs w t).2 < t ∧ bitN w (nextS q bs w t).2 = 0)
  | 0 => .inl ⟨rfl, rfl, fun x h => by omega⟩
  | t + 1 => by
    have ih := nextS_inv q bs w t
    by_cases h : bitN w t = 0 ∧ (nextS q bs w t).1 < (scoreV q bs (w ||| 2 ^ t) : Int)
    · rw [nextS_yes h.1 h.2]
      exact .inr ⟨by show (0 : Int) ≤ (scoreV q bs (w ||| 2 ^ t) : Int); omega, by show t < t + 1; omega, h.1⟩
    · rw [nextS_no h]
      rcases ih with ⟨h1, h2, h3⟩ | ⟨h1, h2, h3⟩
      · refine .inl ⟨h1, h2, fun x hx => ?_⟩
        rcases Nat.lt_or_ge x t with hxt | hxt
        · exact h3 x hxt
        · obtain rfl : x = t := by omega
          intro hb
          exact h ⟨hb, by rw [h1]; omega⟩
      · exact .inr ⟨h1, by omega, h3⟩
theorem nextS_lo (q : Nat) (bs : List Int) (w t : Nat) : -1 ≤ (nextS q bs w t).1 := by
  rcases nextS_inv q bs w t with ⟨h, _⟩ | ⟨h, _⟩ <;> omega
theorem nextS_hi (q : Nat) (bs : List Int) (w : Nat) : ∀ t, (nextS q bs w t).1 ≤ 147 * bs.length
  | 0 => by show (-1 : Int) ≤ _; omega
  | t + 1 => by
    have ih := nextS_hi q bs w t
    by_cases h : bitN w t = 0 ∧ (nextS q bs w t).1 < (scoreV q bs (w ||| 2 ^ t) : Int)
    · rw [nextS_yes h.1 h.2]
      have := scoreK_le q bs (w ||| 2 ^ t) bs.length
      show ((scoreV q bs (w ||| 2 ^ t) : Nat) : Int) ≤ _
      unfold scoreV
      omega
    · rw [nextS_no h]; exact ih
theorem nextS_at (q : Nat) (bs : List Int) (w t : Nat) : (nextS q bs w t).2 ≤ t := by
  rcases nextS_inv q bs w t with ⟨_, h, _⟩ | ⟨_, h, _⟩ <;> omega
theorem free_name (m w : Nat) (hm : m ≤ 5) (hw : w < 2 ^ m) (hp : pc w < m) : ∃ x, x < m ∧ bitN w x = 0 := by
  have h : ∀ m : Fin 6, ∀ w : Fin 32, w.val < 2 ^ m.val → pc w.val < m.val → ∃ x : Fin 6, x.val < m.val ∧ bitN w.val x.val = 0 := by decide +kernel
  have h32 : 2 ^ m ≤ 2 ^ 5 := Nat.pow_le_pow_right (by omega) hm
  obtain ⟨x, h1, h2⟩ := h ⟨m, by omega⟩ ⟨w, by omega⟩ hw hp
  exact ⟨x.val, h1, h2⟩
theorem or_new (w x : Nat) (hw : w < 32) (hx : x < 5) (hb : bitN w x = 0) : w ||| 2 ^ x = w + 2 ^ x ∧ pc (w ||| 2 ^ x) = pc w + 1 := by
  have h : ∀ w : Fin 32, ∀ x : Fin 5, bitN w.val x.val = 0 → w.val ||| 2 ^ x.val = w.val + 2 ^ x.val ∧ pc (w.val ||| 2 ^ x.val) = pc w.val + 1 := by decide +kernel
  exact h ⟨w, hw⟩ ⟨x, hx⟩ hb
/-- the committee of the first j greedy names of m -/
def gw (q : Nat) (bs : List Int) (m : Nat) : Nat → Nat
  | 0 => 0
  | j + 1 => gw q bs m j ||| 2 ^ (nextS q bs (gw q bs m j) m).2
/-- the first j greedy names -/
def gl (q : Nat) (bs : List Int) (m : Nat) : Nat → List Int
  | 0 => []
  | j + 1 => gl q bs m j ++ [(((nextS q bs (gw q bs m j) m).2 : Nat) : Int)]
theorem gl_length (q : Nat) (bs : List Int) (m : Nat) : ∀ j, (gl q bs m j).length = j
  | 0 => rfl
  | j + 1 => by unfold gl; rw [List.length_append, gl_length q bs m j]; rfl
theorem gw_inv (q : Nat) (bs : List Int) (m : Nat) (hm : m ≤ 5) : ∀ j, j ≤ m → gw q bs m j < 2 ^ m ∧ pc (gw q bs m j) = j
  | 0, _ => ⟨Nat.two_pow_pos m, pc_zero⟩
  | j + 1, h => by
    obtain ⟨h1, h2⟩ := gw_inv q bs m hm j (by omega)
    have h32 : 2 ^ m ≤ 2 ^ 5 := Nat.pow_le_pow_right (by omega) hm
    obtain ⟨x, hx, hb⟩ := free_name m _ hm h1 (by omega)
    rcases nextS_inv q bs (gw q bs m j) m with ⟨_, _, h3⟩ | ⟨_, h3, h4⟩
    · exact absurd hb (h3 x hx)
    · have ho := or_new (gw q bs m j) _ (by omega) (by omega) h4
      show gw q bs m j ||| 2 ^ (nextS q bs (gw q bs m j) m).2 < 2 ^ m ∧ pc (gw q bs m j ||| 2 ^ (nextS q bs (gw q bs m j) m).2) = j + 1
      refine ⟨Nat.or_lt_two_pow h1 (Nat.pow_lt_pow_right (by omega) h3), by rw [ho.2, h2]⟩
theorem gw_next (q : Nat) (bs : List Int) (m : Nat) (hm : m ≤ 5) (j : Nat) (h : j < m) : (nextS q bs (gw q bs m j) m).2 < m ∧ gw q bs m (j + 1) = gw q bs m j + 2 ^ (nextS q bs (gw q bs m j) m).2 := by
  obtain ⟨h1, h2⟩ := gw_inv q bs m hm j (by omega)
  have h32 : 2 ^ m ≤ 2 ^ 5 := Nat.pow_le_pow_right (by omega) hm
  obtain ⟨x, hx, hb⟩ := free_name m _ hm h1 (by omega)
  rcases nextS_inv q bs (gw q bs m j) m with ⟨_, _, h3⟩ | ⟨_, h3, h4⟩
  · exact absurd hb (h3 x hx)
  · exact ⟨h3, (or_new (gw q bs m j) _ (by omega) (by omega) h4).1⟩
/-- what GreedyOf answers -/
def greedA (s : ByteArray) (c : Int) (bs : List Int) (k : Int) : List Int := if seatsB c bs k = true ∧ kindN s < 4 then gl (kindN s) bs c.toNat k.toNat else []
theorem greedA_yes {s : ByteArray} {c : Int} {bs : List Int} {k : Int} (h : seatsB c bs k = true) (h2 : kindN s < 4) : greedA s c bs k = gl (kindN s) bs c.toNat k.toNat := if_pos ⟨h, h2⟩
theorem greedA_seats {s : ByteArray} {c : Int} {bs : List Int} {k : Int} (h : seatsB c bs k = false) : greedA s c bs k = [] := if_neg (fun hh => by rw [h] at hh; cases hh.1)
theorem greedA_name {s : ByteArray} {c : Int} {bs : List Int} {k : Int} (h : ¬ kindN s < 4) : greedA s c bs k = [] := if_neg (fun hh => h hh.2)
theorem greedA_len (s : ByteArray) (c : Int) (bs : List Int) (k : Int) : (greedA s c bs k).length ≤ 32 := by
  unfold greedA
  split
  · rename_i h
    have h1 := seats_of h.1
    have h2 := h1.1.1
    rw [gl_length]; omega
  · simp
def lenV : Value → Nat
  | .slice _ n _ => n
  | _ => 0
theorem or_pw (w x u : Nat) (hw : w < 32) (hx : x < 6) (hu : u = w ||| 2 ^ x) : bits .or .i64 (w : Int) (pw x) = (u : Int) := by
  have h2 : 2 ^ x < 2 ^ 6 := Nat.pow_lt_pow_right (by omega) hx
  rw [pw_nat, or_big _ _ (by omega) (by omega), hu]
theorem or_pow (w x u : Nat) (hw : w < 32) (hx : x < 6) (hu : u = w ||| 2 ^ x) : bits .or .i64 (w : Int) (2 ^ x) = (u : Int) := by
  have e : (2 : Int) ^ x = ((2 ^ x : Nat) : Int) := by rw [Int.natCast_pow]; rfl
  have h2 : 2 ^ x < 2 ^ 6 := Nat.pow_lt_pow_right (by omega) hx
  rw [e, or_big _ _ (by omega) (by omega), hu]
theorem wrap_pow2 (k : Nat) (h : k < 6) : wrap64 (2 ^ k) = 2 ^ k := IntWalk.wrap64_in _ (by
  rcases (show k = 0 ∨ k = 1 ∨ k = 2 ∨ k = 3 ∨ k = 4 ∨ k = 5 from by omega) with rfl | rfl | rfl | rfl | rfl | rfl <;> decide)
end Go.Proofs.Ytgkaghappogglaa
