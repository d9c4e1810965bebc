/- IsBlocked of the model. -/
import Derived.Test.YtklgganapphioaaLdP
import Derived.Test.YtklgganapphioaaBkM
namespace Go.Proofs.Ytklgganapphioaa
open Go.RowKit Go.Joins

set_option maxHeartbeats 4000000 in
set_option maxRecDepth 100000 in
theorem blocked_any (N : Nat) (a : Option Addr) (cap : Nat) (zs : List Int) (w : World) (hi : Ints w a zs) (hn : zs.length ≤ 1048576) (hv : vsB (N : Int) zs = true) (hN : 1 ≤ N ∧ N ≤ 4) :
    Calls Try.prog 77 #[.agg #[.int .i64 (N : Int), .slice a zs.length cap]] w fun e w' => e = .returned (.bool (blkB (N : Int) zs)) ∧ Below w.heap.size w w' := by
  have S0 := SV.new w (N : Int) a zs cap none [] 28 hi (Ints.nil _ _)
  clear hi
  obtain ⟨⟨_, c0, c1⟩, _⟩ := S0.pair
  have HR := hide (valid_range (valid_of hv))
  have HRB := hide (rb_leads hN.2 (critL N zs))
  have HLD := hide (ldR_yes hv)
  have HV := hide hv
  have HRC := hide (ldR_rc hv)
  clear hv
  go_enter Try.func77, Try.ntmps77
  go_wp2_with fail
  refine (leads_any N _ _ _ _ S0.2.1 hn hN HR.out).mono ?_
  rintro e w2 ⟨v, rfl, own, hb⟩
  obtain ⟨va, vc, rfl, pin, _⟩ := own.form
  have S2 := hide (S0.below hb)
  have hl : (ci (stI N (critL N zs) (critL N zs).length)).length = 2 * N := by rw [ci_len]; exact HRB.out.1
  have HL := hide hl
  clear own S0 hb hl c0 c1
  go_wp2_with fail
  rw [HL.out]
  refine (closure_any (2 * N) _ _ _ _ pin HRB.out (by omega)).mono ?_
  rintro e w3 ⟨v3, rfl, own3, hb3⟩
  have B3 := hide (bnext S2.out.2.2.2 hb3)
  obtain ⟨va3, vc3, rfl, pin3, _⟩ := own3.form
  rw [← HLD.out] at pin3
  obtain ⟨R, hR⟩ : ∃ R, R = ldR (N : Int) zs := ⟨_, rfl⟩
  have hlen : (ci (clK (2 * N) (2 * N) (stI N (critL N zs) (critL N zs).length))).length = 2 * N := by rw [ci_len, ← HLD.out]; exact HRC.out.1
  have hrl : R.length = 2 * N := by rw [hR]; exact HRC.out.1
  rw [← hR] at pin3
  obtain ⟨b, off, rfl, _, hc⟩ := pin3 (by rw [ci_len, hrl]; omega)
  have hr8 : ∀ i, R.getD i 0 < 256 := fun i => by
    rw [hR]
    have h1 := HRC.out.at i
    have h2 : 2 ^ (2 * N) ≤ 2 ^ 8 := Nat.pow_le_pow_right (by omega) (by omega)
    omega
  have HC : Hid (∀ i, i < 2 * N → w3.cell? ⟨b, off + i, none⟩ = some (.int .i64 (R.getD i 0 : Nat))) := fun i hi => by
    have h1 := hc i (by rw [ci_len, hrl]; exact hi)
    rw [ci_at (by rw [hrl]; exact hi)] at h1
    exact h1
  have HR8 := hide hr8
  have HRR := hide hR
  have HLEN := hide hlen
  have NO : Hid (∀ i k : Nat, i < 2 * N → k < 2 * N → i ≠ k → bitN (R.getD i 0) k = 0 → blkB (N : Int) zs = false) := fun i k hi hk hne hb => blk_no HV.out (by simpa using hi) (by simpa using hk) hne (by rw [← HRR.out]; exact hb)
  have YES : Hid ((∀ i, i < 2 * N → ∀ k, k < 2 * N → i ≠ k → bitN (R.getD i 0) k = 1) → blkB (N : Int) zs = true) := fun h => by
    rw [blkB_yes HV.out, allB_iff, ← HRR.out]
    simpa using h
  clear own3 hb3 pin3 pin hR hlen hrl hr8 hc
  go_wp2_with fail
  rw [HLEN.out]
  go_wp2_with fail
  go_loop [4] (fun i => ∃ ii : Nat, ii ≤ 2 * N ∧ i = .int .i64 ii ∧ Hid (∀ i', i' < ii → ∀ k, k < 2 * N → i' ≠ k → bitN (R.getD i' 0) k = 1)) (fun i => 2 * N - (intOf i).toNat)
  case atStart => exact ⟨0, Nat.zero_le _, rfl, fun i' h => by omega⟩
  case round =>
    obtain ⟨ii, hii, rfl, hall⟩ := hrel
    by_cases hlt : ii < 2 * N
    · go_wp2_with fail
      go_loop [5] (fun i => ∃ kk : Nat, kk ≤ 2 * N ∧ i = .int .i64 kk ∧ Hid (∀ k, k < kk → ii ≠ k → bitN (R.getD ii 0) k = 1)) (fun i => 2 * N - (intOf i).toNat)
      case atStart => exact ⟨0, Nat.zero_le _, rfl, fun i' h => by omega⟩
      case round =>
        obtain ⟨kk, hkk, rfl, hk⟩ := hrel
        by_cases hkt : kk < 2 * N
        · have x1 := HC.out ii hlt
          have l1 := HR8.out ii
          have NO' : Hid (ii ≠ kk → bitN (R.getD ii 0) kk = 0 → blkB (N : Int) zs = false) := NO.out ii kk hlt hkt
          obtain ⟨bv, hbv⟩ : ∃ bv, bitN (R.getD ii 0) kk = bv := ⟨_, rfl⟩
          have l2 := bitN_le (R.getD ii 0) kk
          rw [hbv] at l2 NO'
          have HNX : Hid (bv = 1 → ∀ k, k < kk + 1 → ii ≠ k → bitN (R.getD ii 0) k = 1) := fun e k hk1 hne => by
            rcases Nat.lt_or_ge k kk with h | h
            · exact hk.out k h hne
            · obtain rfl : k = kk := by omega
              rw [hbv, e]
          have HNS : Hid (ii = kk → ∀ k, k < kk + 1 → ii ≠ k → bitN (R.getD ii 0) k = 1) := fun e k hk1 hne => hk.out k (by omega) hne
          obtain ⟨ri, hri⟩ : ∃ ri, R.getD ii 0 = ri := ⟨_, rfl⟩
          rw [hri] at hbv x1 l1
          have HBV := hide hbv
          clear hbv hri hk
          by_cases hik : ii = kk
          · have hne : ((ii : Int) != (kk : Int)) = false := by rw [hik]; simp
            have HIK := hide hik
            clear hik
            go_wp2_with fail
            go_round
            case rel => exact ⟨kk + 1, by omega, by go_num, HNS.out HIK.out⟩
            case measure => simp only [intOf]; omega
          · have hne : ((ii : Int) != (kk : Int)) = true := by simp; omega
            have HIK := hide hik
            clear hik
            rcases (show bv = 0 ∨ bv = 1 from by omega) with rfl | rfl
            · go_wp2_with (go_at_call 80; refine (bit8_was ri kk 0 _ (by omega) (by omega) HBV.out).mono ?_; rintro e w' ⟨rfl, rfl⟩)
              go_ret
              exact ⟨ret_bool (NO'.out HIK.out trivial).symm, B3.out⟩
            · go_wp2_with (go_at_call 80; refine (bit8_was ri kk 1 _ (by omega) (by omega) HBV.out).mono ?_; rintro e w' ⟨rfl, rfl⟩)
              go_round
              case rel => exact ⟨kk + 1, by omega, by go_num, HNX.out trivial⟩
              case measure => simp only [intOf]; omega
        · obtain rfl : kk = 2 * N := by omega
          go_wp2_with fail
          go_round
          case rel => exact ⟨ii + 1, by omega, by go_num, fun i' h k hk1 hne => by
            rcases Nat.lt_or_ge i' ii with h1 | h1
            · exact hall.out i' h1 k hk1 hne
            · obtain rfl : i' = ii := by omega
              exact hk.out k hk1 hne⟩
          case measure => simp only [intOf]; omega
    · obtain rfl : ii = 2 * N := by omega
      go_wp2_with fail
      go_ret
      exact ⟨ret_bool (YES.out hall.out).symm, B3.out⟩

set_option maxHeartbeats 2000000 in
theorem specIsBlocked_any (n : Int) (a : Option Addr) (cap : Nat) (zs : List Int) (w : World) (hi : Ints w a zs) (hn : zs.length ≤ 1048576) :
    Calls Try.prog 29 #[.agg #[.int .i64 n, .slice a zs.length cap]] w fun e w' => e = .returned (.bool (blkB n zs)) ∧ Below w.heap.size w w' := by
  have S0 := SV.new w n a zs cap none [] 28 hi (Ints.nil _ _)
  clear hi
  obtain ⟨⟨_, c0, c1⟩, _⟩ := S0.pair
  by_cases hv : vsB n zs = false
  · have HV := hide (blkB_no hv)
    have HVV := hide hv
    go_enter Try.func29, Try.ntmps29
    go_wp2_with fail
    refine (validSpace_any _ _ _ _ _ S0.2.1 hn).mono ?_
    rintro e w1 ⟨rfl, hb⟩
    go_wp2
    go_ret
    exact ⟨ret_bool HV.out.symm, (S0.below hb).2.2.2⟩
  · have hv : vsB n zs = true := by simpa using hv
    have hN4 := (valid_of hv).1
    obtain ⟨N, hN⟩ : ∃ N : Nat, n = (N : Int) := ⟨n.toNat, by omega⟩
    subst hN
    have HV := hide hv
    have hN : 1 ≤ N ∧ N ≤ 4 := by omega
    clear hN4
    go_enter Try.func29, Try.ntmps29
    go_wp2_with fail
    refine (validSpace_any _ _ _ _ _ S0.2.1 hn).mono ?_
    rintro e w1 ⟨rfl, hb⟩
    have S1 := S0.below hb
    clear S0 hb c0 c1
    obtain ⟨⟨_, c0, c1⟩, _⟩ := S1.pair
    go_wp2_with fail
    refine (blocked_any N _ _ _ _ S1.2.1 hn HV.out hN).mono ?_
    rintro e w2 ⟨rfl, hb⟩
    go_wp2
    go_ret
    exact ⟨rfl, bnext S1.2.2.2 hb⟩
end Go.Proofs.Ytklgganapphioaa
