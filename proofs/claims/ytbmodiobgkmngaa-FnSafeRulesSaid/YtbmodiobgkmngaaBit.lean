/- An answer of a judgment to an issue, in the model. -/
import Derived.Test.YtbmodiobgkmngaaBase
import Derived.Test.YtbmodiobgkmngaaBits
namespace Go.Proofs.Ytbmodiobgkmngaa
open Go.RowKit Go.Joins

/-- the answer of a judgment to an issue -/
def bitN (x j : Nat) : Nat := x / 2 ^ j % 2
theorem bitN_le (x j : Nat) : bitN x j ≤ 1 := by unfold bitN; omega
theorem bit_any (x j : Nat) (w : World) (hx : x < 16) (hj : j ≤ 4) : Calls Try.prog 83 #[.int .i64 x, .int .i64 j] w fun e w' => e = .returned (.int .i64 (bitN x j : Nat)) ∧ w = w' := by
  have h0 : pw 0 = 1 := rfl
  have h1 : pw 1 = 2 := rfl
  have h2 : pw 2 = 4 := rfl
  have h3 : pw 3 = 8 := rfl
  have h4 : pw 4 = 16 := rfl
  rcases (show j = 0 ∨ j = 1 ∨ j = 2 ∨ j = 3 ∨ j = 4 from by omega) with rfl | rfl | rfl | rfl | rfl
  all_goals
    go_enter Try.func83, Try.ntmps83
    go_wp2_with (go_at_call 60; refine (power_any _ _ (by omega) (by omega)).mono ?_; rintro e w' ⟨rfl, rfl⟩)
    go_ret
    exact ⟨ret_int (by unfold bitN; omega), rfl⟩
theorem bitI_any (x : Int) (j : Nat) (w : World) (hx : 0 ≤ x ∧ x ≤ 15) (hj : j ≤ 4) : Calls Try.prog 83 #[.int .i64 x, .int .i64 j] w fun e w' => e = .returned (.int .i64 (bitN x.toNat j : Nat)) ∧ w = w' := by
  obtain ⟨y, rfl⟩ := Int.eq_ofNat_of_zero_le hx.1
  exact bit_any y j w (by omega) hj
/-- the same, of any issue in range -/
theorem bit01_any (x : Nat) (j : Int) (w : World) (hx : x < 16) (hj : 0 ≤ j ∧ j ≤ 4) : Calls Try.prog 83 #[.int .i64 x, .int .i64 j] w fun e w' => ∃ b : Nat, b ≤ 1 ∧ e = .returned (.int .i64 b) ∧ w = w' := by
  obtain ⟨j, rfl⟩ := Int.eq_ofNat_of_zero_le hj.1
  exact (bit_any x j w hx (by omega)).mono fun _ _ ⟨he, hw⟩ => ⟨_, bitN_le x j, he, hw⟩
end Go.Proofs.Ytbmodiobgkmngaa
