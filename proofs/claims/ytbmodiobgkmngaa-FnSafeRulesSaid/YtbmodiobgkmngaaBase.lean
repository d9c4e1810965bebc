/- Contracts of the small functions of the model and of the laws' helpers that every statement of this seat goes through. -/
import Derived.Test.YtbmodiobgkmngaaChecked
import Derived.Test.YtbmodiobgkmngaaInts
import Derived.Test.YtbmodiobgkmngaaMath
import Derived.WalkKit
import Derived.WalkSpells
import Derived.WalkLawsBesides
import Derived.RegionTactic
import Derived.Deep.QuietTactic
import Derived.BigQuiet
namespace Go.Proofs.Ytbmodiobgkmngaa
open Go.RowKit

/-- 2 to a number. -/
def pw (n : Int) : Int := ((2 ^ n.toNat : Nat) : Int)
theorem pw_pos (n : Int) : 1 ≤ pw n := by
  unfold pw
  have : 0 < 2 ^ n.toNat := Nat.two_pow_pos _
  omega
theorem pw_le (n : Int) (h : n ≤ 4) : pw n ≤ 16 := by
  unfold pw
  have h1 : n.toNat ≤ 4 := by omega
  have : 2 ^ n.toNat ≤ 2 ^ 4 := Nat.pow_le_pow_right (by omega) h1
  omega
theorem pw_le6 (n : Int) (h : n ≤ 6) : pw n ≤ 64 := by
  unfold pw
  have h1 : n.toNat ≤ 6 := by omega
  have : 2 ^ n.toNat ≤ 2 ^ 6 := Nat.pow_le_pow_right (by omega) h1
  omega
theorem pw_succ (n : Int) (h : 0 ≤ n) : pw (n + 1) = 2 * pw n := by
  unfold pw
  have : (n + 1).toNat = n.toNat + 1 := by omega
  rw [this, Nat.pow_succ]; omega
theorem pw_zero : pw 0 = 1 := rfl

/-- A valid space: its issues, and its judgments, ascending. -/
def Valid (n : Int) (zs : List Int) : Prop :=
  (1 ≤ n ∧ n ≤ 4) ∧ 0 < zs.length ∧ ∀ i, i < zs.length → (0 ≤ zs.getD i 0 ∧ zs.getD i 0 ≤ pw n - 1) ∧ (0 < i → zs.getD (i - 1) 0 < zs.getD i 0)
instance (n : Int) (zs : List Int) : Decidable (Valid n zs) := by unfold Valid; infer_instance
def vsB (n : Int) (zs : List Int) : Bool := decide (Valid n zs)
theorem vsB_true {n : Int} {zs : List Int} (h : Valid n zs) : vsB n zs = true := by simpa [vsB] using h
theorem vsB_false {n : Int} {zs : List Int} (h : ¬ Valid n zs) : vsB n zs = false := by simpa [vsB] using h

theorem inRange_any (n l h : Int) (w : World) : Calls Try.prog 31 #[.int .i64 n, .int .i64 l, .int .i64 h] w fun e w' => e = .returned (.bool (decide (l ≤ n ∧ n ≤ h))) ∧ w = w' := by
  by_cases h1 : l ≤ n <;> by_cases h2 : n ≤ h
  all_goals
    go_enter Try.func31, Try.ntmps31
    go_wp2
    go_ret
    exact ⟨ret_bool (by simp [h1, h2]), rfl⟩

theorem power_any (n : Int) (w : World) (h0 : 0 ≤ n) (h4 : n ≤ 6) : Calls Try.prog 60 #[.int .i64 n] w fun e w' => e = .returned (.int .i64 (pw n)) ∧ w = w' := by
  go_enter Try.func60, Try.ntmps60
  go_wp2
  go_loop [0, 3] (fun i o => ∃ k : Int, 0 ≤ k ∧ k ≤ n ∧ i = .int .i64 k ∧ o = .int .i64 (pw (n - k))) (fun i _ => (intOf i).toNat)
  case atStart => exact ⟨n, h0, Int.le_refl _, rfl, by rw [Int.sub_self]; rfl⟩
  case round =>
    obtain ⟨k, hk0, hkn, rfl, rfl⟩ := hrel
    have b1 := pw_pos (n - k)
    have b2 := pw_le6 (n - k) (by omega)
    by_cases hlt : 0 < k
    · go_wp2
      go_round
      case rel => exact ⟨k - 1, by omega, by omega, by go_num, by rw [show n - (k - 1) = (n - k) + 1 from by omega, pw_succ _ (by omega)]⟩
      case measure => simp [intOf]; omega
    · obtain rfl : k = 0 := by omega
      go_wp2
      go_ret
      exact ⟨rfl, rfl⟩
end Go.Proofs.Ytbmodiobgkmngaa
