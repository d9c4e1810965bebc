/- How many answers differ: the model's loop, and bits.OnesCount of a number below 16; GapOf. -/
import Derived.Test.YtbmodiobgkmngaaValid
import Derived.Test.YtbmodiobgkmngaaBits
namespace Go.Proofs.Ytbmodiobgkmngaa
open Go.RowKit Go.Joins

theorem weight_any (x : Nat) (w : World) (hx : x < 16) : Calls Try.prog 88 #[.int .i64 x] w fun e w' => e = .returned (.int .i64 (wt x)) ∧ w = w' := by
  go_enter Try.func88, Try.ntmps88
  go_wp2_with fail
  go_loop [0, 3] (fun i o => ∃ m s : Nat, m < 16 ∧ s + wt m = wt x ∧ i = .int .i64 m ∧ o = .int .i64 s) (fun i _ => (intOf i).toNat)
  case atStart => exact ⟨x, 0, hx, by omega, rfl, rfl⟩
  case round =>
    obtain ⟨m, s, hm, he, rfl, rfl⟩ := hrel
    have hst := hide (wt_step m hm)
    have hle := wt_le x
    have hs : s ≤ 4 := by omega
    have HE := hide he
    clear he
    by_cases hlt : 0 < m
    · go_wp2
      go_round
      case rel => exact ⟨m / 2, s + m % 2, by omega, by have := HE.out; rw [hst.out] at this; omega, by go_num, by go_num⟩
      case measure => simp only [intOf]; omega
    · obtain rfl : m = 0 := by omega
      go_wp2
      go_ret
      exact ⟨ret_int (by have := HE.out; rw [wt_zero] at this; omega), rfl⟩

/-- what GapOf answers -/
def gapV (x y : Int) : Int := if (0 ≤ x ∧ x ≤ 15) ∧ (0 ≤ y ∧ y ≤ 15) then (wt (x.toNat ^^^ y.toNat) : Int) else -1

theorem pw_four : pw 4 = 16 := rfl

theorem onesCount64_any (x : Nat) (w : World) (hx : x < 16) : Calls Try.prog 110 #[.int .u64 x] w fun e w' => e = .returned (.int .i64 (wt x)) ∧ w = w' := by
  go_enter Try.func110, Try.ntmps110
  go_wp2_with fail
  go_ret
  refine ⟨ret_int ?_, rfl⟩
  rcases (show x = 0 ∨ x = 1 ∨ x = 2 ∨ x = 3 ∨ x = 4 ∨ x = 5 ∨ x = 6 ∨ x = 7 ∨ x = 8 ∨ x = 9 ∨ x = 10 ∨ x = 11 ∨ x = 12 ∨ x = 13 ∨ x = 14 ∨ x = 15 from by omega) with
    rfl | rfl | rfl | rfl | rfl | rfl | rfl | rfl | rfl | rfl | rfl | rfl | rfl | rfl | rfl | rfl
  all_goals decide +kernel

theorem onesCount_any (x : Nat) (w : World) (hx : x < 16) : Calls Try.prog 93 #[.int .u64 x] w fun e w' => e = .returned (.int .i64 (wt x)) ∧ w = w' := by
  go_enter Try.func93, Try.ntmps93
  go_wp2_with fail
  refine (onesCount64_any _ _ hx).mono ?_
  rintro e w' ⟨rfl, rfl⟩
  go_wp2
  go_ret
  exact ⟨rfl, rfl⟩

end Go.Proofs.Ytbmodiobgkmngaa
