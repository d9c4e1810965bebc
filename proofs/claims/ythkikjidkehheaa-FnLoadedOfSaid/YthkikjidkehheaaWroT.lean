/- The model's search for a group that is wronged, at each claim; WrongedBy and IsJust of the model. -/
import Derived.Test.YthkikjidkehheaaWroS
namespace Go.Proofs.Ythkikjidkehheaa
open Go.RowKit Go.Joins

def WroE (o : Option (Nat × Nat)) (e : Ending) : Prop := e = .returned (.tuple #[.int .i64 (scR o : Nat), .int .i64 (scL o : Nat)])
theorem wro_none {o : Option (Nat × Nat)} (h : o = none) : WroE o (.returned (.tuple #[.int .i64 0, .int .i64 0])) := by subst h; rfl
theorem wro_some {o : Option (Nat × Nat)} {l g : Nat} (h : o = some (l, g)) : WroE o (.returned (.tuple #[.int .i64 g, .int .i64 l])) := by subst h; rfl
theorem due_no1 {ms : List Int} {m n k l : Nat} (h : ms.length * k < l * n) : dueB ms m n k l = false := by unfold dueB; exact decide_eq_false (fun hh => by omega)
theorem due_no2 {ms : List Int} {m n k l : Nat} (h : pc (andL ms (2 ^ m - 1)) < l) : dueB ms m n k l = false := by unfold dueB; exact decide_eq_false (fun hh => by omega)
theorem due_yes {ms : List Int} {m n k l : Nat} (h : ¬ ms.length * k < l * n) (h2 : ¬ pc (andL ms (2 ^ m - 1)) < l) : dueB ms m n k l = true := by unfold dueB; exact decide_eq_true ⟨by omega, by omega⟩
theorem mul30 {a b : Nat} (ha : a ≤ 6) (hb : b ≤ 6) : a * b ≤ 36 := Nat.mul_le_mul ha hb
end Go.Proofs.Ythkikjidkehheaa
