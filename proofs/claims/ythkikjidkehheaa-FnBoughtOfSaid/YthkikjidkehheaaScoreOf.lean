/- ScoreOf in the model and in the program. -/
import Derived.Test.YthkikjidkehheaaScored
namespace Go.Proofs.Ythkikjidkehheaa
open Go.RowKit Go.Joins

theorem ret_two {x y : Int} {a b : Bool} (h : x = y) (h2 : a = b) : Ending.returned (.tuple #[.int .i64 x, .bool a]) = .returned (.tuple #[.int .i64 y, .bool b]) := by rw [h, h2]

/-- whether a name is of a score -/
def isScore (s : ByteArray) : Bool := decide (kindN s < 4)
/-- what the model's scoreOf answers, of at least one ballot -/
def scoreR (s : ByteArray) (bs : List Int) (x : Nat) : Int := if kindN s < 4 then (scoreV (kindN s) bs x : Int) else 0
theorem scoreR_yes {s : ByteArray} (bs : List Int) (x : Nat) (h : kindN s < 4) : scoreR s bs x = (scoreV (kindN s) bs x : Int) := if_pos h
theorem scoreR_no {s : ByteArray} (bs : List Int) (x : Nat) (h : ¬ kindN s < 4) : scoreR s bs x = 0 := if_neg h


/-- what ScoreOf answers -/
def scB (s : ByteArray) (c : Int) (bs : List Int) (x : Int) : Bool := balB c bs && (decide (0 ≤ x ∧ x ≤ pw c - 1) && isScore s)
def scV (s : ByteArray) (c : Int) (bs : List Int) (x : Int) : Int := if scB s c bs x = true then scoreR s bs x.toNat else 0
theorem scB_bal {s : ByteArray} {c : Int} {bs : List Int} {x : Int} (h : balB c bs = false) : scB s c bs x = false := by unfold scB; rw [h]; rfl
theorem scB_out {s : ByteArray} {c : Int} {bs : List Int} {x : Int} (h : ¬ (0 ≤ x ∧ x ≤ pw c - 1)) : scB s c bs x = false := by unfold scB; rw [decide_eq_false h]; simp
theorem scB_name {s : ByteArray} {c : Int} {bs : List Int} {x : Int} (h : ¬ kindN s < 4) : scB s c bs x = false := by unfold scB isScore; rw [decide_eq_false h]; simp
theorem scB_in {s : ByteArray} {c : Int} {bs : List Int} {x : Int} (h : balB c bs = true) (h2 : 0 ≤ x ∧ x ≤ pw c - 1) : scB s c bs x = isScore s := by unfold scB; rw [h, decide_eq_true h2]; rfl
theorem scV_no {s : ByteArray} {c : Int} {bs : List Int} {x : Int} (h : scB s c bs x = false) : scV s c bs x = 0 := if_neg (by rw [h]; decide)
theorem scV_in {s : ByteArray} {c : Int} {bs : List Int} {x : Int} (h : balB c bs = true) (h2 : 0 ≤ x ∧ x ≤ pw c - 1) : scV s c bs x = scoreR s bs x.toNat := by
  unfold scV
  rw [scB_in h h2]
  unfold isScore
  by_cases hk : kindN s < 4
  · rw [decide_eq_true hk, if_pos rfl]
  · rw [decide_eq_false hk, if_neg (by decide), scoreR_no _ _ hk]

end Go.Proofs.Ythkikjidkehheaa
