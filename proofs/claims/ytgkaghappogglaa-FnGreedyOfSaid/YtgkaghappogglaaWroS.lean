/- Groups that are wronged, in the model: WrongedBy and IsJust. -/
import Derived.Test.YtgkaghappogglaaWroM
namespace Go.Proofs.Ytgkaghappogglaa
open Go.RowKit Go.Joins

set_option maxHeartbeats 1000000 in
theorem agreed_any (m : Nat) (a : Option Addr) (cap : Nat) (bs : List Int) (g : Nat) (w : World) (hi : Ints w a bs) (hl6 : bs.length ≤ 6) (hr : ∀ b ∈ bs, 0 ≤ b ∧ b ≤ 31) (hm : m ≤ 5) (hg : g < 64) :
    Calls Try.prog 109 #[.int .i64 m, .slice a bs.length cap, .int .i64 g] w fun e w' => e = .returned (.int .i64 (andL (memL bs g) (2 ^ m - 1))) ∧ w = w' := by
  have HR := hide hr
  have h32 : 2 ^ m ≤ 2 ^ 5 := Nat.pow_le_pow_right (by omega) hm
  have h1 := Nat.two_pow_pos m
  obtain ⟨F, hF⟩ : ∃ F, F = 2 ^ m - 1 := ⟨_, rfl⟩
  have hF31 : F ≤ 31 := by omega
  have hpm : pw (m : Int) - 1 = (F : Int) := by rw [pw_nat, hF]; omega
  have hpw1 : pw (m : Int) = (F : Int) + 1 := by omega
  rw [← hF]
  have HPM := hide hpw1
  clear hr hpm hpw1 hF h32 h1
  go_enter Try.func109, Try.ntmps109
  go_wp2_with (go_at_call 77; refine (power_any _ _ (by omega) (by omega)).mono ?_; rintro e w' ⟨rfl, rfl⟩; rw [HPM.out])
  go_loop [7, 8] (fun o i => ∃ k : Nat, k ≤ bs.length ∧ i = .int .i64 k ∧ o = .int .i64 (andL (memK bs g k) F)) (fun _ i => bs.length - (intOf i).toNat)
  case atStart => exact ⟨0, Nat.zero_le _, rfl, by first | rfl | (show Value.int _ _ = Value.int _ _; congr 1; show _ = ((F : Nat) : Int); omega)⟩
  case round =>
    obtain ⟨k, hk, rfl, rfl⟩ := hrel
    have hal := andL_le (memK bs g k) F
    by_cases hlt : k < bs.length
    · obtain ⟨b, off, rfl, hbl, hc⟩ := hi (by omega)
      have hck := hc k hlt
      have hrk := HR.out _ (mem_of_at hlt)
      rw [getD_lt hlt] at hck
      obtain ⟨y, hy⟩ := Int.eq_ofNat_of_zero_le hrk.1
      rw [hy] at hck
      have HAN : Hid (andL (memK bs g k ++ [bs.getD k 0]) F = andL (memK bs g k) F &&& y) := by unfold Hid; rw [andL_snoc, getD_lt hlt, hy, Int.toNat_natCast]
      have HY := hide (fun h => memK_yes (bs := bs) (g := g) (k := k) h)
      have HNN := hide (fun h => memK_no (bs := bs) (g := g) (k := k) h)
      obtain ⟨u, hu⟩ : ∃ u, u = andL (memK bs g k) F := ⟨_, rfl⟩
      have hand := and_big u y (by omega) (by omega)
      rw [← hu] at hal HAN ⊢
      have HU := hide hu
      obtain ⟨v, hv⟩ : ∃ v, v = u &&& y := ⟨_, rfl⟩
      rw [← hv] at hand HAN
      have hbl2 := bitN_le g k
      clear hc hi hrk hy hu hv
      by_cases h1 : bitN g k = 1
      · have H1 := hide h1
        have HYY := hide (HY.out h1)
        clear h1 hbl2
        go_wp2_with (go_at_call 86; refine (bit_any g k _ hg (by omega)).mono ?_; rintro e w' ⟨rfl, rfl⟩; rw [H1.out])
        go_round
        case rel => exact ⟨k + 1, by omega, by go_num, by rw [HYY.out, HAN.out]⟩
        case measure => simp only [intOf]; omega
      · have HNO := hide (HNN.out h1)
        have h0 : bitN g k = 0 := by omega
        have H1 := hide h0
        clear h1 h0 hbl2
        go_wp2_with (go_at_call 86; refine (bit_any g k _ hg (by omega)).mono ?_; rintro e w' ⟨rfl, rfl⟩; rw [H1.out])
        go_round
        case rel => exact ⟨k + 1, by omega, by go_num, by rw [HNO.out, HU.out]⟩
        case measure => simp only [intOf]; omega
    · obtain rfl : k = bs.length := by omega
      go_wp2
      go_ret
      exact ⟨rfl, rfl⟩
set_option maxHeartbeats 1000000 in
theorem covered_any (a : Option Addr) (cap : Nat) (bs : List Int) (g : Nat) (w : World) (hi : Ints w a bs) (hl6 : bs.length ≤ 6) (hr : ∀ b ∈ bs, 0 ≤ b ∧ b ≤ 31) (hg : g < 64) :
    Calls Try.prog 111 #[.slice a bs.length cap, .int .i64 g] w fun e w' => e = .returned (.int .i64 (orL (memL bs g) 0)) ∧ w = w' := by
  have HR := hide hr
  clear hr
  go_enter Try.func111, Try.ntmps111
  go_wp2
  go_loop [5, 6] (fun o i => ∃ k : Nat, k ≤ bs.length ∧ i = .int .i64 k ∧ o = .int .i64 (orL (memK bs g k) 0)) (fun _ i => bs.length - (intOf i).toNat)
  case atStart => exact ⟨0, Nat.zero_le _, rfl, rfl⟩
  case round =>
    obtain ⟨k, hk, rfl, rfl⟩ := hrel
    have hal := orL_lt (memK bs g k) (fun b hb => HR.out b (memK_mem bs g k hk b hb)) 0 (by omega)
    by_cases hlt : k < bs.length
    · obtain ⟨b, off, rfl, hbl, hc⟩ := hi (by omega)
      have hck := hc k hlt
      have hrk := HR.out _ (mem_of_at hlt)
      rw [getD_lt hlt] at hck
      obtain ⟨y, hy⟩ := Int.eq_ofNat_of_zero_le hrk.1
      rw [hy] at hck
      have HAN : Hid (orL (memK bs g k ++ [bs.getD k 0]) 0 = orL (memK bs g k) 0 ||| y) := by unfold Hid; rw [orL_snoc, getD_lt hlt, hy, Int.toNat_natCast]
      have HY := hide (fun h => memK_yes (bs := bs) (g := g) (k := k) h)
      have HNN := hide (fun h => memK_no (bs := bs) (g := g) (k := k) h)
      obtain ⟨u, hu⟩ : ∃ u, u = orL (memK bs g k) 0 := ⟨_, rfl⟩
      have hand := or_big u y (by omega) (by omega)
      rw [← hu] at hal HAN ⊢
      have HU := hide hu
      obtain ⟨v, hv⟩ : ∃ v, v = u ||| y := ⟨_, rfl⟩
      rw [← hv] at hand HAN
      have hbl2 := bitN_le g k
      clear hc hi hrk hy hu hv
      by_cases h1 : bitN g k = 1
      · have H1 := hide h1
        have HYY := hide (HY.out h1)
        clear h1 hbl2
        go_wp2_with (go_at_call 86; refine (bit_any g k _ hg (by omega)).mono ?_; rintro e w' ⟨rfl, rfl⟩; rw [H1.out])
        go_round
        case rel => exact ⟨k + 1, by omega, by go_num, by rw [HYY.out, HAN.out]⟩
        case measure => simp only [intOf]; omega
      · have HNO := hide (HNN.out h1)
        have h0 : bitN g k = 0 := by omega
        have H1 := hide h0
        clear h1 h0 hbl2
        go_wp2_with (go_at_call 86; refine (bit_any g k _ hg (by omega)).mono ?_; rintro e w' ⟨rfl, rfl⟩; rw [H1.out])
        go_round
        case rel => exact ⟨k + 1, by omega, by go_num, by rw [HNO.out, HU.out]⟩
        case measure => simp only [intOf]; omega
    · obtain rfl : k = bs.length := by omega
      go_wp2
      go_ret
      exact ⟨rfl, rfl⟩
set_option maxHeartbeats 1000000 in
theorem most_any (a : Option Addr) (cap : Nat) (bs : List Int) (g x : Nat) (w : World) (hi : Ints w a bs) (hl6 : bs.length ≤ 6) (hr : ∀ b ∈ bs, 0 ≤ b ∧ b ≤ 31) (hg : g < 64) (hx : x < 32) :
    Calls Try.prog 110 #[.slice a bs.length cap, .int .i64 g, .int .i64 x] w fun e w' => e = .returned (.int .i64 (mostL (memL bs g) x 0)) ∧ w = w' := by
  have HR := hide hr
  have HX := hide hx
  clear hr
  go_enter Try.func110, Try.ntmps110
  go_wp2
  go_loop [7, 8] (fun o i => ∃ k : Nat, k ≤ bs.length ∧ i = .int .i64 k ∧ o = .int .i64 (mostL (memK bs g k) x 0)) (fun _ i => bs.length - (intOf i).toNat)
  case atStart => exact ⟨0, Nat.zero_le _, rfl, rfl⟩
  case round =>
    obtain ⟨k, hk, rfl, rfl⟩ := hrel
    have hal := mostL_le (memK bs g k) x 0 (by omega)
    by_cases hlt : k < bs.length
    · obtain ⟨b, off, rfl, hbl, hc⟩ := hi (by omega)
      have hck := hc k hlt
      have hrk := HR.out _ (mem_of_at hlt)
      rw [getD_lt hlt] at hck
      have hand := and_bal (w := x) hrk HX.out
      have hy32 := and_lt bs[k] x HX.out
      have HAN : Hid (mostL (memK bs g k ++ [bs.getD k 0]) x 0 = max (mostL (memK bs g k) x 0) (pc (bs[k].toNat &&& x))) := by unfold Hid; rw [mostL_snoc, getD_lt hlt]
      have HY := hide (fun h => memK_yes (bs := bs) (g := g) (k := k) h)
      have HNN := hide (fun h => memK_no (bs := bs) (g := g) (k := k) h)
      obtain ⟨u, hu⟩ : ∃ u, u = mostL (memK bs g k) x 0 := ⟨_, rfl⟩
      obtain ⟨y, hy⟩ : ∃ y, y = bs[k].toNat &&& x := ⟨_, rfl⟩
      rw [← hu] at hal HAN ⊢
      rw [← hy] at hand hy32 HAN
      have HU := hide hu
      have hbl2 := bitN_le g k
      clear hc hi hrk hy hu
      by_cases h1 : bitN g k = 1
      · have H1 := hide h1
        have HYY := hide (HY.out h1)
        clear h1 hbl2
        go_wp2_with (first
          | (go_at_call 86; refine (bit_any g k _ hg (by omega)).mono ?_; rintro e w' ⟨rfl, rfl⟩; rw [H1.out])
          | (go_at_call 89; refine (weight_any y _ (by omega)).mono ?_; rintro e w' ⟨rfl, rfl⟩))
        all_goals
          go_round
          case rel => exact ⟨k + 1, by omega, by go_num, by rw [HYY.out, HAN.out]; (congr 1; omega)⟩
          case measure => simp only [intOf]; omega
      · have HNO := hide (HNN.out h1)
        have h0 : bitN g k = 0 := by omega
        have H1 := hide h0
        clear h1 h0 hbl2
        go_wp2_with (go_at_call 86; refine (bit_any g k _ hg (by omega)).mono ?_; rintro e w' ⟨rfl, rfl⟩; rw [H1.out])
        go_round
        case rel => exact ⟨k + 1, by omega, by go_num, by rw [HNO.out, HU.out]⟩
        case measure => simp only [intOf]; omega
    · obtain rfl : k = bs.length := by omega
      go_wp2
      go_ret
      exact ⟨rfl, rfl⟩
theorem isClaim_any (s : ByteArray) (w : World) : Calls Try.prog 88 #[.string s] w fun e w' => e = .returned (.bool (decide (claimN s ≠ 0))) ∧ w = w' := by
  rcases claim_cases s with ⟨hq, h0⟩ | ⟨hq, h0, h1⟩ | ⟨hq, h0, h1, h2⟩ | ⟨hq, h0, h1, h2⟩
  all_goals
    have HQ := hide hq
    clear hq
    go_enter Try.func88, Try.ntmps88
    go_wp2
    go_ret
    exact ⟨ret_bool (by rw [HQ.out]; rfl), rfl⟩
theorem isClaim_yes (s : ByteArray) (w : World) (h : claimN s ≠ 0) : Calls Try.prog 88 #[.string s] w fun e w' => e = .returned (.bool true) ∧ w = w' :=
  (isClaim_any s w).mono fun _ _ ⟨he, hw⟩ => ⟨by rw [he, decide_eq_true h], hw⟩
theorem isClaim_no (s : ByteArray) (w : World) (h : claimN s = 0) : Calls Try.prog 88 #[.string s] w fun e w' => e = .returned (.bool false) ∧ w = w' :=
  (isClaim_any s w).mono fun _ _ ⟨he, hw⟩ => ⟨by rw [he, decide_eq_false (by omega)], hw⟩
end Go.Proofs.Ytgkaghappogglaa
