/- How many answers differ: the model's loop, and bits.OnesCount of a number below 16; GapOf. -/
import Derived.Test.YtccemllgglfgkaaValid
import Derived.Test.YtccemllgglfgkaaBits
namespace Go.Proofs.Ytccemllgglfgkaa
open Go.RowKit Go.Joins

theorem weight_any (x : Nat) (w : World) (hx : x < 16) : Calls Try.prog 154 #[.int .i64 x] w fun e w' => e = .returned (.int .i64 (wt x)) ∧ w = w' := by
  go_enter Try.func154, Try.ntmps154
  go_wp2_with fail
  go_loop [0, 3] (fun i o => ∃ m s : Nat, m < 16 ∧ s + wt m = wt x ∧ i = .int .i64 m ∧ o = .int .i64 s) (fun i _ => (intOf i).toNat)
  case atStart => exact ⟨x, 0, hx, by omega, rfl, rfl⟩
  case round =>
    obtain ⟨m, s, hm, he, rfl, rfl⟩ := hrel
    have hst := hide (wt_step m hm)
    have hle := wt_le x
    have hs : s ≤ 4 := by omega
    have HE := hide he
    clear he
    by_cases hlt : 0 < m
    · go_wp2
      go_round
      case rel => exact ⟨m / 2, s + m % 2, by omega, by have := HE.out; rw [hst.out] at this; omega, by go_num, by go_num⟩
      case measure => simp only [intOf]; omega
    · obtain rfl : m = 0 := by omega
      go_wp2
      go_ret
      exact ⟨ret_int (by have := HE.out; rw [wt_zero] at this; omega), rfl⟩

/-- what GapOf answers -/
def gapV (x y : Int) : Int := if (0 ≤ x ∧ x ≤ 15) ∧ (0 ≤ y ∧ y ≤ 15) then (wt (x.toNat ^^^ y.toNat) : Int) else -1

theorem pw_four : pw 4 = 16 := rfl

theorem onesCount64_any (x : Nat) (w : World) (hx : x < 16) : Calls Try.prog 160 #[.int .u64 x] w fun e w' => e = .returned (.int .i64 (wt x)) ∧ w = w' := by
  go_enter Try.func160, Try.ntmps160
  go_wp2_with fail
  go_ret
  refine ⟨ret_int ?_, rfl⟩
  rcases (show x = 0 ∨ x = 1 ∨ x = 2 ∨ x = 3 ∨ x = 4 ∨ x = 5 ∨ x = 6 ∨ x = 7 ∨ x = 8 ∨ x = 9 ∨ x = 10 ∨ x = 11 ∨ x = 12 ∨ x = 13 ∨ x = 14 ∨ x = 15 from by omega) with
    rfl | rfl | rfl | rfl | rfl | rfl | rfl | rfl | rfl | rfl | rfl | rfl | rfl | rfl | rfl | rfl
  all_goals decide +kernel

theorem onesCount_any (x : Nat) (w : World) (hx : x < 16) : Calls Try.prog 149 #[.int .u64 x] w fun e w' => e = .returned (.int .i64 (wt x)) ∧ w = w' := by
  go_enter Try.func149, Try.ntmps149
  go_wp2_with fail
  refine (onesCount64_any _ _ hx).mono ?_
  rintro e w' ⟨rfl, rfl⟩
  go_wp2
  go_ret
  exact ⟨rfl, rfl⟩

theorem implGapOf_any (x y : Int) (w : World) : Calls Try.prog 146 #[.int .i64 x, .int .i64 y] w fun e w' => e = .returned (.int .i64 (gapV x y)) ∧ w = w' := by
  have h4 := pw_four
  by_cases hx : 0 ≤ x ∧ x ≤ 15
  · have dx : decide (0 ≤ x ∧ x ≤ 15) = true := by simpa using hx
    by_cases hy : 0 ≤ y ∧ y ≤ 15
    · have dy : decide (0 ≤ y ∧ y ≤ 15) = true := by simpa using hy
      obtain ⟨a, rfl⟩ := Int.eq_ofNat_of_zero_le hx.1
      obtain ⟨b, rfl⟩ := Int.eq_ofNat_of_zero_le hy.1
      have HG : Hid (gapV a b = wt (a ^^^ b)) := by unfold Hid gapV; rw [if_pos ⟨hx, hy⟩]; rfl
      have ha : a < 16 := by omega
      have hb : b < 16 := by omega
      have hab : a ^^^ b < 16 := Nat.xor_lt_two_pow (n := 4) ha hb
      have hxor := xor_small a b ha hb
      have da : decide ((a : Int) ≤ 15) = true := by simp; omega
      have db : decide ((b : Int) ≤ 15) = true := by simp; omega
      clear hx hy dx dy
      have dx : decide (0 ≤ (a : Int) ∧ (a : Int) ≤ 15) = true := by simp; omega
      have dy : decide (0 ≤ (b : Int) ∧ (b : Int) ≤ 15) = true := by simp; omega
      go_enter Try.func146, Try.ntmps146
      go_wp2_with (first
        | (go_at_call 68; refine (isJudgment_any _ _ _ (by omega) (by omega)).mono ?_; rintro e w' ⟨rfl, rfl⟩)
        | (go_at_call 149; refine (onesCount_any _ _ hab).mono ?_; rintro e w' ⟨rfl, rfl⟩))
      go_ret
      exact ⟨ret_int HG.out.symm, rfl⟩
    · have dy : decide (0 ≤ y ∧ y ≤ 15) = false := by simpa using hy
      have HG : Hid (gapV x y = -1) := by unfold Hid gapV; rw [if_neg (fun h => hy h.2)]
      clear hx hy
      go_enter Try.func146, Try.ntmps146
      go_wp2_with (first
        | (go_at_call 68; refine (isJudgment_any _ _ _ (by omega) (by omega)).mono ?_; rintro e w' ⟨rfl, rfl⟩))
      go_ret
      exact ⟨ret_int HG.out.symm, rfl⟩
  · have dx : decide (0 ≤ x ∧ x ≤ 15) = false := by simpa using hx
    have HG : Hid (gapV x y = -1) := by unfold Hid gapV; rw [if_neg (fun h => hx h.1)]
    clear hx
    go_enter Try.func146, Try.ntmps146
    go_wp2_with (first
      | (go_at_call 68; refine (isJudgment_any _ _ _ (by omega) (by omega)).mono ?_; rintro e w' ⟨rfl, rfl⟩))
    go_ret
    exact ⟨ret_int HG.out.symm, rfl⟩


end Go.Proofs.Ytccemllgglfgkaa
