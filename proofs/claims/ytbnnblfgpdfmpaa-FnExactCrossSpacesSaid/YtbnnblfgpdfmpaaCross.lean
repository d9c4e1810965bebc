/- Spaces crossed: the plain list, its length, its numbers. -/
import Derived.Test.YtbnnblfgpdfmpaaSV
import Derived.Test.YtbnnblfgpdfmpaaBits
import Derived.Test.YtbnnblfgpdfmpaaListLaw
import Derived.Test.YtbnnblfgpdfmpaaHas
namespace Go.Proofs.Ytbnnblfgpdfmpaa
open Go.RowKit Go.Joins

theorem valid_at {n : Int} {zs : List Int} (h : Valid n zs) : ∀ i, i < zs.length → (i : Int) ≤ zs.getD i 0
  | 0, hi => (h.2.2 0 hi).1.1
  | i + 1, hi => by
    have h1 := valid_at h i (by omega)
    have h2 := (h.2.2 (i + 1) hi).2 (by omega)
    simp only [Nat.add_sub_cancel] at h2
    omega
theorem valid_len {n : Int} {zs : List Int} (h : Valid n zs) : zs.length ≤ 16 := by
  have hp := h.2.1
  have h1 := valid_at h (zs.length - 1) (by omega)
  have h2 := (h.2.2 (zs.length - 1) (by omega)).1.2
  have h3 := pw_le n h.1.2
  omega

/-- a row of the crossed space -/
def rowL (m : Int) (xs : List Int) (y : Int) : List Int := xs.map fun x => x + m * y
/-- all of the crossed space -/
def crossL (m : Int) (xs ys : List Int) : List Int := ys.flatMap (rowL m xs)
theorem row_len (m : Int) (xs : List Int) (y : Int) : (rowL m xs y).length = xs.length := by simp [rowL]
theorem row_take (m : Int) (xs : List Int) (y : Int) (j : Nat) (hj : j < xs.length) : rowL m (xs.take (j + 1)) y = rowL m (xs.take j) y ++ [xs[j] + m * y] := by
  unfold rowL
  rw [List.take_add_one, List.getElem?_eq_getElem hj, List.map_append]
  rfl
theorem cross_take (m : Int) (xs ys : List Int) (k : Nat) (hk : k < ys.length) : crossL m xs (ys.take (k + 1)) = crossL m xs (ys.take k) ++ rowL m xs ys[k] := by
  unfold crossL
  rw [List.take_add_one, List.getElem?_eq_getElem hk, List.flatMap_append]
  simp
theorem cross_len (m : Int) (xs : List Int) : ∀ ys : List Int, (crossL m xs ys).length = ys.length * xs.length
  | [] => by simp [crossL]
  | y :: ys => by
    have h := cross_len m xs ys
    unfold crossL at h ⊢
    rw [List.flatMap_cons, List.length_append, row_len, h, List.length_cons, Nat.succ_mul, Nat.add_comm]
theorem cross_small {m : Int} {xs ys : List Int} (hx : xs.length ≤ 16) (hy : ys.length ≤ 16) : (crossL m xs ys).length ≤ 256 := by
  rw [cross_len]
  exact Nat.mul_le_mul hy hx

def CrossOk (na : Int) (xs : List Int) (nb : Int) (ys : List Int) : Prop := Valid na xs ∧ Valid nb ys ∧ na + nb ≤ 4
instance (na : Int) (xs : List Int) (nb : Int) (ys : List Int) : Decidable (CrossOk na xs nb ys) := by unfold CrossOk; infer_instance
def crsB (na : Int) (xs : List Int) (nb : Int) (ys : List Int) : Bool := decide (CrossOk na xs nb ys)
def crsN (na : Int) (xs : List Int) (nb : Int) (ys : List Int) : Int := if CrossOk na xs nb ys then na + nb else 0
def crsL (na : Int) (xs : List Int) (nb : Int) (ys : List Int) : List Int := if CrossOk na xs nb ys then crossL (pw na) xs ys else []
theorem crL_len (na : Int) (xs : List Int) (nb : Int) (ys : List Int) : (crsL na xs nb ys).length ≤ 256 := by
  unfold crsL
  split
  · rename_i h
    exact cross_small (valid_len h.1) (valid_len h.2.1)
  · simp

theorem pw_add (a b : Int) (ha : 0 ≤ a) (hb : 0 ≤ b) : pw (a + b) = pw a * pw b := by
  unfold pw
  rw [Int.toNat_add ha hb, Nat.pow_add, Int.natCast_mul]
/-- the product is small -/
theorem mul_small {a b y : Int} (ha : 0 ≤ a) (hb : 0 ≤ b) (h4 : a + b ≤ 4) (hy : 0 ≤ y ∧ y ≤ pw b - 1) : 0 ≤ pw a * y ∧ pw a * y ≤ 16 - pw a := by
  have p1 := pw_pos a
  have h1 := pw_le (a + b) h4
  rw [pw_add a b ha hb] at h1
  have h2 : pw a * y ≤ pw a * (pw b - 1) := Int.mul_le_mul_of_nonneg_left hy.2 (by omega)
  rw [Int.mul_sub, Int.mul_one] at h2
  exact ⟨Int.mul_nonneg (by omega) hy.1, by omega⟩
theorem or_add {a x y : Int} (hx : 0 ≤ x ∧ x ≤ pw a - 1) (hy : 0 ≤ y) (hs : pw a * y ≤ 16 - pw a) : bits .or .i64 x (pw a * y) = x + pw a * y := by
  obtain ⟨X, rfl⟩ := Int.eq_ofNat_of_zero_le hx.1
  obtain ⟨Y, rfl⟩ := Int.eq_ofNat_of_zero_le hy
  have p1 := pw_pos a
  unfold pw at *
  rw [← Int.natCast_mul] at hs ⊢
  have e : X ||| (2 ^ a.toNat * Y) = X + 2 ^ a.toNat * Y := by
    have := Nat.two_pow_add_eq_or_of_lt (i := a.toNat) (b := X) (by omega) Y
    rw [Nat.or_comm, ← this, Nat.add_comm]
  rw [or_small _ _ (by omega) (by omega), e]
  omega
end Go.Proofs.Ytbnnblfgpdfmpaa
