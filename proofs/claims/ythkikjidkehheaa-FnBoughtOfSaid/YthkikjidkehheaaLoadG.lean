/- The group of ballots that approve of a name, in the model. -/
import Derived.Test.YthkikjidkehheaaLoadM
import Derived.BigQuiet
namespace Go.Proofs.Ythkikjidkehheaa
open Go.RowKit Go.Joins

set_option maxHeartbeats 2000000 in
theorem groupOf_any (a : Option Addr) (cap : Nat) (bs : List Int) (x : Nat) (w : World) (hi : Ints w a bs) (h6 : bs.length ≤ 6) (hr : ∀ y ∈ bs, 0 ≤ y ∧ y ≤ 31) (hx : x ≤ 5) :
    Calls Try.prog 67 #[.slice a bs.length cap, .int .i64 x] w fun e w' => e = .returned (.int .i64 (grpN bs x : Nat)) ∧ ∃ n, w' = w.drewN n := by
  have HR := hide hr
  clear hr
  go_enter Try.func67, Try.ntmps67
  go_wp2_with fail
  go_loopw [5, 6] (fun g i wr => ∃ k : Nat, k ≤ bs.length ∧ i = .int .i64 k ∧ g = .int .i64 (grpK bs x k : Nat) ∧ ∃ n, wr = w.drewN n) (fun _ i _ => bs.length - (intOf i).toNat)
  case atStart => exact ⟨0, Nat.zero_le _, rfl, rfl, 0, rfl⟩
  case round =>
    obtain ⟨k, hk, rfl, rfl, q, hq⟩ := hrel
    have HQ := hide hq
    clear hq
    by_cases hlt : k < bs.length
    · have hir : Ints wr a bs := by rw [HQ.out]; exact hi.below (belN _ _)
      obtain ⟨b, off, rfl, hbl, hc⟩ := hir (by omega)
      have hck := hc k hlt
      rw [getD_lt hlt] at hck
      have hb1 := bitN_le bs[k].toNat x
      have hp := pw_le6 (k : Int) (by omega)
      have hp0 := pw_pos (k : Int)
      have hg := (grp_ok bs x k (by omega)).1
      have hg2 : 2 ^ k ≤ 2 ^ 5 := Nat.pow_le_pow_right (by omega) (by omega)
      have hmul : pw (k : Int) * (bitN bs[k].toNat x : Int) = ((2 ^ k * bitN bs[k].toNat x : Nat) : Int) := by rw [pw_nat, Int.natCast_mul]
      have hm1 : 2 ^ k * bitN bs[k].toNat x ≤ 32 := by
        have := Nat.mul_le_mul hg2 hb1
        omega
      have hst := hide (show grpK bs x (k + 1) = grpK bs x k + 2 ^ k * bitN bs[k].toNat x from by rw [grpK, getD_lt hlt])
      have hg32 : grpK bs x k < 32 := by omega
      clear hg
      obtain ⟨mm, hmm⟩ : ∃ mm, 2 ^ k * bitN bs[k].toNat x = mm := ⟨_, rfl⟩
      rw [hmm] at hmul hm1 hst
      clear hc hi hir hmm hg2
      go_wp2
      go_quiet ((first | (go_at_call 46; exact quiet_left (bitI_any _ _ _ (by have := HR.out _ (mem_of_at hlt); omega) (by omega))) | (go_at_call 48; exact quiet_left (power_any _ _ (by omega) (by omega)))))
      go_wp2
      go_roundw
      case rel => exact ⟨k + 1, by omega, by go_num, by rw [hst.out]; go_num, q + nq, by rw [HQ.out, World.drewN_drewN]⟩
      case measure => simp only [intOf]; omega
    · obtain rfl : k = bs.length := by omega
      go_wp2
      go_ret
      exact ⟨rfl, q, HQ.out⟩
theorem supporters_any (a : Option Addr) (cap : Nat) (bs : List Int) (x : Nat) (w : World) (hi : Ints w a bs) (h6 : bs.length ≤ 6) (hr : ∀ y ∈ bs, 0 ≤ y ∧ y ≤ 31) (hx : x ≤ 5) :
    Calls Try.prog 45 #[.slice a bs.length cap, .int .i64 x] w fun e w' => e = .returned (.int .i64 (grpN bs x : Nat)) ∧ ∃ n, w' = w.drewN n := by
  go_enter Try.func45, Try.ntmps45
  go_wp2_with (go_at_call 67; refine (groupOf_any _ _ _ _ _ hi h6 hr hx).mono ?_; rintro e w' ⟨rfl, n, rfl⟩)
  go_ret
  exact ⟨rfl, _, rfl⟩
end Go.Proofs.Ythkikjidkehheaa
