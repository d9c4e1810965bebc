/- WrongedBy and IsJust of the model. -/
import Derived.Test.YthkikjidkehheaaWroT
namespace Go.Proofs.Ythkikjidkehheaa
open Go.RowKit Go.Joins

theorem ret_two2 {x y a b : Int} (h : x = y) (h2 : a = b) : Ending.returned (.tuple #[.int .i64 x, .int .i64 a]) = .returned (.tuple #[.int .i64 y, .int .i64 b]) := by rw [h, h2]
/-- the group that is found and what is due to it -/
def wroG (s : ByteArray) (c : Int) (bs : List Int) (k x : Int) : Int := ((scR (wroA s c bs k x) : Nat) : Int)
def wroL (s : ByteArray) (c : Int) (bs : List Int) (k x : Int) : Int := ((scL (wroA s c bs k x) : Nat) : Int)
theorem scan_pos {p : Nat → Nat → Bool} {M : Nat} (h0 : ∀ l, 1 ≤ l → p l 0 = false) : ∀ f l, 1 ≤ l → (scR (scan p M f l) = 0 ↔ scan p M f l = none)
  | 0, _, _ => by simp [scan, scR]
  | f + 1, l, hl => by
    have ih := scan_pos (M := M) h0 f (l + 1) (by omega)
    unfold scan
    cases hf : (List.range M).find? (p l) with
    | none => exact ih
    | some g =>
      have hg := List.find?_some hf
      simp only [scR, reduceCtorEq, iff_false]
      intro e
      rw [e, h0 l hl] at hg
      cases hg
theorem just_eq {s : ByteArray} {c : Int} {bs : List Int} {k x : Int} (h1 : claimN s ≠ 0) (h2 : seatedB c bs k x = true) : justB s c bs k x = (wroG s c bs k x == 0) := by
  have hS := seats_of (seated_of h2).1
  have hb : 1 ≤ bs.length := by have := hS.1.2.1; omega
  unfold justB wroG
  rw [decide_eq_true h1, h2, wroA_yes h1 h2]
  have hp := scan_pos (M := 2 ^ bs.length) (fun l hl => bad_zero (q := claimN s) (bs := bs) (m := c.toNat) (k := k.toNat) (w := x.toNat) hb hl) k.toNat 1 (Nat.le_refl _)
  cases hsc : scan (badB (claimN s) bs c.toNat k.toNat x.toNat) (2 ^ bs.length) k.toNat 1 with
  | none => rfl
  | some g =>
    rw [hsc] at hp
    have hne : scR (some g) ≠ 0 := fun e => by have := hp.1 e; cases this
    show (true && true && false) = _
    symm
    simp
    omega
theorem just_claim {s : ByteArray} {c : Int} {bs : List Int} {k x : Int} (h1 : claimN s = 0) : justB s c bs k x = false := by unfold justB; rw [decide_eq_false (by omega)]; rfl
theorem just_seat {s : ByteArray} {c : Int} {bs : List Int} {k x : Int} (h2 : seatedB c bs k x = false) : justB s c bs k x = false := by unfold justB; rw [h2]; simp
theorem wroG_none {s : ByteArray} {c : Int} {bs : List Int} {k x : Int} (h : wroA s c bs k x = none) : wroG s c bs k x = 0 ∧ wroL s c bs k x = 0 := by unfold wroG wroL; rw [h]; exact ⟨rfl, rfl⟩

end Go.Proofs.Ythkikjidkehheaa
