/- IsBlocked of the program. -/
import Derived.Test.YtgebplpbnaeckaaGreatDoorMg24
import Derived.Test.YtgebplpbnaeckaaGreatDoorMg15
import Derived.BigQuiet
namespace Go.Proofs.YtgebplpbnaeckaaGreatDoor
open Go.RowKit Go.Joins

theorem ldR_len8 {N : Nat} {zs : List Int} (h : vsB (N : Int) zs = true) : (ci (ldR (N : Int) zs)).length = 2 * N := by
  rw [ci_len]; exact (ldR_rc h).1
set_option maxHeartbeats 4000000 in
set_option maxRecDepth 100000 in
theorem implIsBlocked_any (n : Int) (a : Option Addr) (cap : Nat) (zs : List Int) (w : World) (hi : Ints w a zs) (hn : zs.length ≤ 1048576) :
    Calls Tryz.prog 79 #[.agg #[.int .i64 n, .slice a zs.length cap]] w fun e w' => e = .returned (.bool (blkB n zs)) ∧ Below w.heap.size w w' := by
  have S0 := SV.new w n a zs cap none [] 37 hi (Ints.nil _ _)
  clear hi
  obtain ⟨⟨_, c0, c1⟩, _⟩ := S0.pair
  by_cases hv : vsB n zs = false
  · have HV := hide (blkB_no hv)
    have HVV := hide hv
    clear hv
    go_enter Tryz.func79, Tryz.ntmps79
    go_wp2_with fail
    refine (implVS_was _ _ _ _ _ _ S0.2.1 hn HVV.out).mono ?_
    rintro e w1 ⟨rfl, hb⟩
    go_wp2
    go_ret
    exact ⟨ret_bool HV.out.symm, (S0.below hb).2.2.2⟩
  · have hv : vsB n zs = true := by simpa using hv
    have hN4 := (valid_of hv).1
    obtain ⟨N, hN⟩ : ∃ N : Nat, n = (N : Int) := ⟨n.toNat, by omega⟩
    subst hN
    have HV := hide hv
    have hN : 1 ≤ N ∧ N ≤ 4 := by omega
    have HRC := hide (ldR_rc hv)
    have HLEN := hide (ldR_len8 hv)
    clear hN4 hv
    go_enter Tryz.func79, Tryz.ntmps79
    go_wp2_with fail
    refine (implVS_was _ _ _ _ _ _ S0.2.1 hn HV.out).mono ?_
    rintro e w1 ⟨rfl, hb⟩
    have S1 := S0.below hb
    clear S0 hb c0 c1
    obtain ⟨⟨_, c0, c1⟩, _⟩ := S1.pair
    go_wp2_with fail
    refine (implLeadsOf_any _ _ _ _ _ S1.2.1 hn).mono ?_
    rintro e w3 ⟨v, rfl, own, hb⟩
    obtain ⟨va, vc, rfl, pin, _⟩ := own.form
    have B3 := hide (bnext S1.2.2.2 hb)
    obtain ⟨R, hR⟩ : ∃ R, R = ldR (N : Int) zs := ⟨_, rfl⟩
    have hrl : R.length = 2 * N := by rw [hR]; exact HRC.out.1
    rw [← hR] at pin
    obtain ⟨b, off, rfl, _, hc⟩ := pin (by rw [ci_len, hrl]; omega)
    have HC : Hid (∀ i, i < 2 * N → w3.cell? ⟨b, off + i, none⟩ = some (.int .i64 (R.getD i 0 : Nat))) := fun i hi => by
      have h1 := hc i (by rw [ci_len, hrl]; exact hi)
      rw [ci_at (by rw [hrl]; exact hi)] at h1
      exact h1
    have HRK : Hid (∀ i, R.getD i 0 < 2 ^ (2 * N)) := fun i => by rw [hR]; exact HRC.out.at i
    have HRR := hide hR
    have NO : Hid (∀ i : Nat, i < 2 * N → ¬ (R.getD i 0 ||| 2 ^ i = 2 ^ (2 * N) - 1) → blkB (N : Int) zs = false) := fun i hi hne => by
      rw [blkB_yes HV.out]
      cases ha : allB (2 * (N : Int).toNat) (ldR (N : Int) zs) with
      | false => rfl
      | true =>
        rw [allB_iff, ← HRR.out] at ha
        exact absurd ((full_iff (HRK.out i) hi).2 fun k hk hik => ha i (by simpa using hi) k (by simpa using hk) hik) hne
    have YES : Hid ((∀ i, i < 2 * N → R.getD i 0 ||| 2 ^ i = 2 ^ (2 * N) - 1) → blkB (N : Int) zs = true) := fun h => by
      rw [blkB_yes HV.out, allB_iff, ← HRR.out]
      intro i hi k hk hik
      have hi' : i < 2 * N := by simpa using hi
      exact (full_iff (HRK.out i) hi').1 (h i hi') k (by simpa using hk) hik
    clear own hb pin hR hrl hc S1 c0 c1
    go_wp2_with fail
    rw [HLEN.out]
    have hK8 : 2 ^ (2 * N) ≤ 256 := by
      have : 2 ^ (2 * N) ≤ 2 ^ 8 := Nat.pow_le_pow_right (by omega) (by omega)
      omega
    have hK1 : 1 ≤ 2 ^ (2 * N) := Nat.two_pow_pos _
    obtain ⟨Q, hQ⟩ : ∃ Q, Q = 2 ^ (2 * N) := ⟨_, rfl⟩
    rw [← hQ] at hK8 hK1 HRK NO YES
    have hshN : wrap64 ((2 : Int) ^ (2 * N)) = (Q : Int) := by
      have e : ((2 : Int) ^ (2 * N)) = (Q : Int) := by rw [hQ]; simp
      rw [e]
      unfold wrap64
      omega
    have HSN := hide hshN
    clear hQ hshN
    go_wp2_with fail
    go_loopw [13] (fun i wr => ∃ ii : Nat, ii ≤ 2 * N ∧ i = .int .i64 ii ∧ Hid (∀ i', i' < ii → R.getD i' 0 ||| 2 ^ i' = Q - 1) ∧ Below w3.heap.size w3 wr) (fun i _ => 2 * N - (intOf i).toNat)
    case atStart => exact ⟨0, Nat.zero_le _, rfl, fun i' h => by omega, Below.refl _ _⟩
    case round =>
      obtain ⟨ii, hii, rfl, hall, hbw⟩ := hrel
      have HBW := hide hbw
      by_cases hlt : ii < 2 * N
      · have x0 := HC.out ii hlt
        have x1 := (hbw.cell (p := ⟨b, off + ii, none⟩) (World.block_lt_of_cell? _ _ x0)).trans x0
        clear x0 hbw
        have l1 := HRK.out ii
        have NO' := hide (NO.out ii hlt)
        have hsh := shl_small ii (by omega)
        have hp := pow_256 (t := ii) (by omega)
        have HNX : Hid (R.getD ii 0 ||| 2 ^ ii = Q - 1 → ∀ i', i' < ii + 1 → R.getD i' 0 ||| 2 ^ i' = Q - 1) := fun e i' h => by
          rcases Nat.lt_or_ge i' ii with h1 | h1
          · exact hall.out i' h1
          · obtain rfl : i' = ii := by omega
            exact e
        clear hall
        obtain ⟨ri, hri⟩ : ∃ ri, R.getD ii 0 = ri := ⟨_, rfl⟩
        obtain ⟨pt, hpt⟩ : ∃ pt, 2 ^ ii = pt := ⟨_, rfl⟩
        rw [hri] at x1 l1 NO' HNX
        rw [hpt] at hsh hp NO' HNX
        have hri8 : ri < 256 := Nat.lt_of_lt_of_le l1 hK8
        have hor := orL ri pt (Nat.lt_trans hri8 (by decide)) (Nat.lt_trans hp (by decide))
        have hshN := HSN.out
        have HE : Hid (bits .or .i64 (ri : Int) (wrap64 ((2 : Int) ^ ii)) = ((ri ||| pt : Nat) : Int)) := by unfold Hid; rw [hsh]; exact hor
        have HO := hide (or_256 hri8 hp)
        clear hri hpt hor hsh hshN
        go_wp2_with fail
        go_quiet (fail)
        by_cases hq : ri ||| pt = Q - 1
        · have HB : Hid ((bits .or .i64 (ri : Int) (wrap64 ((2 : Int) ^ ii)) != wrap64 (wrap64 ((2 : Int) ^ (2 * N)) - 1)) = false) := by
            unfold Hid
            rw [HE.out, HSN.out, IntWalk.wrap64_in _ (by omega), hq]
            simp
            omega
          have HQ := hide hq
          clear hq
          rw [HB.out]
          go_wp2_with fail
          go_roundw
          case rel => exact ⟨ii + 1, by omega, by go_num, HNX.out HQ.out, bnext HBW.out (belN _ _)⟩
          case measure => simp only [intOf]; omega
        · have HB : Hid ((bits .or .i64 (ri : Int) (wrap64 ((2 : Int) ^ ii)) != wrap64 (wrap64 ((2 : Int) ^ (2 * N)) - 1)) = true) := by
            unfold Hid
            rw [HE.out, HSN.out, IntWalk.wrap64_in _ (by omega), bne_iff_ne]
            omega
          have HQ := hide hq
          clear hq
          rw [HB.out]
          go_wp2_with fail
          go_ret
          exact ⟨ret_bool (NO'.out HQ.out).symm, bnext B3.out (bnext HBW.out (belN _ _))⟩
      · obtain rfl : ii = 2 * N := by omega
        go_wp2_with fail
        go_ret
        exact ⟨ret_bool (YES.out hall.out).symm, bnext B3.out HBW.out⟩
end Go.Proofs.YtgebplpbnaeckaaGreatDoor
