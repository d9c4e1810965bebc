/- The law of LeadsOf answers true at every code: what is led to, is led to from the other side; its walk. -/
import Derived.Test.YtklgganapphioaaLawH
import Derived.Test.YtklgganapphioaaDrawC
import Derived.Test.YtklgganapphioaaLdT
import Derived.Test.YtklgganapphioaaLdP
import Derived.Test.YtklgganapphioaaLdI
import Derived.BigQuiet
namespace Go.Proofs.Ytklgganapphioaa
open Go.RowKit Go.Joins

theorem lawPowerL_any (n : Int) (w : World) (h0 : 0 ≤ n) (h4 : n ≤ 8) : Calls Try.prog 106 #[.int .i64 n] w fun e w' => e = .returned (.int .i64 (pw n)) ∧ w = w' := by
  go_enter Try.func106, Try.ntmps106
  go_wp2
  go_loop [0, 3] (fun i o => ∃ k : Int, 0 ≤ k ∧ k ≤ n ∧ i = .int .i64 k ∧ o = .int .i64 (pw (n - k))) (fun i _ => (intOf i).toNat)
  case atStart => exact ⟨n, h0, Int.le_refl _, rfl, by rw [Int.sub_self]; rfl⟩
  case round =>
    obtain ⟨k, hk0, hkn, rfl, rfl⟩ := hrel
    have b1 := pw_pos (n - k)
    have b2 := power_le8 (n - k) (by omega)
    by_cases hlt : 0 < k
    · go_wp2
      go_round
      case rel => exact ⟨k - 1, by omega, by omega, by go_num, by rw [show n - (k - 1) = (n - k) + 1 from by omega, pw_succ _ (by omega)]⟩
      case measure => simp [intOf]; omega
    · obtain rfl : k = 0 := by omega
      go_wp2
      go_ret
      exact ⟨rfl, rfl⟩
theorem lawBitL_any (a j : Nat) (w : World) (ha : a < 65536) (hj : j ≤ 8) : Calls Try.prog 54 #[.int .i64 a, .int .i64 j] w fun e w' => e = .returned (.int .i64 (bitN a j : Nat)) ∧ w = w' := by
  have h0 : pw 0 = 1 := rfl
  have h1 : pw 1 = 2 := rfl
  have h2 : pw 2 = 4 := rfl
  have h3 : pw 3 = 8 := rfl
  have h4 : pw 4 = 16 := rfl
  have h5 : pw 5 = 32 := rfl
  have h6 : pw 6 = 64 := rfl
  have h7 : pw 7 = 128 := rfl
  have h8 : pw 8 = 256 := rfl
  rcases (show j = 0 ∨ j = 1 ∨ j = 2 ∨ j = 3 ∨ j = 4 ∨ j = 5 ∨ j = 6 ∨ j = 7 ∨ j = 8 from by omega) with rfl | rfl | rfl | rfl | rfl | rfl | rfl | rfl | rfl
  all_goals
    go_enter Try.func54, Try.ntmps54
    go_wp2_with (go_at_call 106; refine (lawPowerL_any _ _ (by omega) (by omega)).mono ?_; rintro e w' ⟨rfl, rfl⟩)
    go_ret
    exact ⟨ret_int (by unfold bitN; simp; try omega), rfl⟩
theorem lawBitL_was (a j r : Nat) (w : World) (ha : a < 65536) (hj : j ≤ 8) (h : bitN a j = r) : Calls Try.prog 54 #[.int .i64 a, .int .i64 j] w fun e w' => e = .returned (.int .i64 (r : Nat)) ∧ w = w' := by
  subst h
  exact lawBitL_any a j w ha hj
theorem specLeads_was (n : Int) (a : Option Addr) (cap : Nat) (zs : List Int) (l : List Int) (w : World) (hi : Ints w a zs) (hn : zs.length ≤ 1048576) (h : ci (ldR n zs) = l) :
    Calls Try.prog 24 #[.agg #[.int .i64 n, .slice a zs.length cap]] w (Gives l w) := by
  subst h
  exact specLeadsOf_any n a cap zs w hi hn
theorem implLeads_was (n : Int) (a : Option Addr) (cap : Nat) (zs : List Int) (l : List Int) (w : World) (hi : Ints w a zs) (hn : zs.length ≤ 1048576) (h : ci (ldR n zs) = l) :
    Calls Try.prog 25 #[.agg #[.int .i64 n, .slice a zs.length cap]] w (Gives l w) := by
  subst h
  exact implLeadsOf_any n a cap zs w hi hn
set_option maxHeartbeats 4000000 in
set_option maxRecDepth 100000 in
theorem walk_FnLeadsOf (a : Option Addr) (zs : List Nat) (cap : Nat) (w : World) (hi : Byts w a zs) (hl : zs.length ≤ maxLen) (hc : zs.length ≤ cap) :
    Calls Try.prog 11 #[.slice a zs.length cap] w fun e w' => e = .returned (.bool true) ∧ Below w.heap.size w w' := by
  by_cases h : 1048576 < zs.length
  · unfold maxLen at hl
    go_enter Try.func11, Try.ntmps11
    go_wp2
    go_ret
    exact ⟨rfl, Below.refl _ _⟩
  · have hl' : zs.length ≤ 1048576 := by omega
    clear h hl
    go_enter Try.func11, Try.ntmps11
    go_wp2_with fail
    refine (drawLeadsOf_any _ _ _ _ hi hl' hc).mono ?_
    rintro e w1 ⟨m, av, ss, cv, rfl, iv, hsl, hcv, hb⟩
    have S0 := SV.new w1 m av ss cv none [] 28 iv (Ints.nil _ _)
    have HB := hide hb
    have hn : ss.length ≤ 1048576 := by omega
    have HLM := hide (ldR_len m ss)
    obtain ⟨l, hL⟩ : ∃ l, ci (ldR m ss) = l := ⟨_, rfl⟩
    have HL := hide hL
    rw [hL] at HLM
    clear hb hi iv hl' hsl hcv hL
    obtain ⟨⟨_, c0, c1⟩, _⟩ := S0.pair
    go_wp2_with fail
    refine (implLeads_was _ _ _ _ l _ S0.2.1 hn HL.out).mono ?_
    rintro e w2 ⟨vg, rfl, own2, b2⟩
    have S2 := S0.below b2
    obtain ⟨ag, cg, rfl, ig, _⟩ := own2.form
    have IG2 := hide ig
    clear c0 c1 S0 b2 own2 ig
    obtain ⟨⟨_, c0, c1⟩, _⟩ := S2.pair
    go_wp2_with fail
    refine (specLeads_was _ _ _ _ l _ S2.2.1 hn HL.out).mono ?_
    rintro e w3 ⟨vs, rfl, own3, b3⟩
    have S3 := S2.below b3
    have IG3 := hide (IG2.out.below b3)
    obtain ⟨asl, csl, rfl, isl, _⟩ := own3.form
    clear c0 c1 S2 b3 own3 IG2
    go_wp2_with fail
    refine (equalInts_yes _ _ _ _ _ _ IG3.out isl HLM.out).mono ?_
    rintro e w4 ⟨rfl, b4⟩
    have S4 := S3.below b4
    have IG4 := hide (IG3.out.below b4)
    clear S3 b4 isl IG3
    obtain ⟨⟨_, c0, c1⟩, _⟩ := S4.pair
    by_cases hv : vsB m ss = false
    · have HV := hide hv
      clear hv
      go_wp2_with fail
      refine (implVS_was _ _ _ _ _ _ S4.2.1 hn HV.out).mono ?_
      rintro e w5 ⟨rfl, b5⟩
      have S5 := S4.below b5
      have IG5 := hide (IG4.out.below b5)
      clear S4 b5 IG4 c0 c1
      obtain ⟨⟨_, c0, c1⟩, _⟩ := S5.pair
      go_wp2_with fail
      refine (specLeads_was _ _ _ _ l _ S5.2.1 hn HL.out).mono ?_
      rintro e w6 ⟨vs, rfl, own6, b6⟩
      have S6 := S5.below b6
      have IG6 := hide (IG5.out.below b6)
      obtain ⟨asl, csl, rfl, isl, _⟩ := own6.form
      clear S5 b6 own6 IG5 c0 c1
      go_wp2_with fail
      refine (equalInts_yes _ _ _ _ _ _ IG6.out isl HLM.out).mono ?_
      rintro e w7 ⟨rfl, b7⟩
      go_wp2
      go_ret
      exact ⟨rfl, bnext HB.out (S6.below b7).2.2.2⟩
    · have hv : vsB m ss = true := by simpa using hv
      have HV := hide hv
      have hN4 := (valid_of hv).1
      obtain ⟨N, rfl⟩ : ∃ N : Nat, m = (N : Int) := ⟨m.toNat, by omega⟩
      have hN : 1 ≤ N ∧ N ≤ 4 := by omega
      clear hv hN4
      go_wp2_with fail
      refine (implVS_was _ _ _ _ _ _ S4.2.1 hn HV.out).mono ?_
      rintro e w5 ⟨rfl, b5⟩
      have S5 := S4.below b5
      have ig5 := IG4.out.below b5
      obtain ⟨⟨_, d0, _⟩, _⟩ := S5.pair
      have D0 := hide d0
      have B5 := hide (bnext HB.out S5.2.2.2)
      obtain ⟨R, hR⟩ : ∃ R, R = ldR (N : Int) ss := ⟨_, rfl⟩
      have hlen : l.length = 2 * N := by rw [← HL.out, ci_len]; exact (ldR_rc HV.out).1
      have hrl : R.length = 2 * N := by rw [hR]; exact (ldR_rc HV.out).1
      rw [← HL.out, ← hR] at ig5
      obtain ⟨b, off, rfl, _, hc⟩ := ig5 (by rw [ci_len, hrl]; omega)
      have HC : Hid (∀ i, i < 2 * N → w5.cell? ⟨b, off + i, none⟩ = some (.int .i64 (R.getD i 0 : Nat))) := fun i hi => by
        have h1 := hc i (by rw [ci_len, hrl]; exact hi)
        rw [ci_at (by rw [hrl]; exact hi)] at h1
        exact h1
      have HR8 : Hid (∀ i, R.getD i 0 < 256) := fun i => by
        rw [hR]
        have h1 := (ldR_rc HV.out).at i
        have h2 : 2 ^ (2 * N) ≤ 2 ^ 8 := Nat.pow_le_pow_right (by omega) (by omega)
        omega
      have HS : Hid (∀ i k : Nat, i < 2 * N → k < 2 * N → bitN (R.getD i 0) k = bitN (R.getD (k ^^^ 1) 0) (i ^^^ 1)) := fun i k h1 h2 => by rw [hR]; exact ldR_bits HV.out h1 h2
      have HLEN := hide hlen
      clear hR hrl ig5 hc hlen S4 S5 b5 c0 c1 IG4 d0
      go_wp2_with fail
      rw [HLEN.out]
      go_wp2_with fail
      go_loopw [5] (fun i wr => ∃ ii : Nat, ii ≤ 2 * N ∧ i = .int .i64 ii ∧ Below w5.heap.size w5 wr) (fun i _ => 2 * N - (intOf i).toNat)
      case atStart => exact ⟨0, Nat.zero_le _, rfl, Below.refl _ _⟩
      case round =>
        obtain ⟨ii, hii, rfl, hbw⟩ := hrel
        have HBW := hide hbw
        by_cases hlt : ii < 2 * N
        · clear hbw
          go_wp2_with fail
          go_loopw [6] (fun i wr => ∃ kk : Nat, kk ≤ 2 * N ∧ i = .int .i64 kk ∧ Below w5.heap.size w5 wr) (fun i _ => 2 * N - (intOf i).toNat)
          case atStart => exact ⟨0, Nat.zero_le _, rfl, HBW.out⟩
          case round =>
            clear HBW
            obtain ⟨kk, hkk, rfl, hbw⟩ := hrel
            have HBW := hide hbw
            by_cases hkt : kk < 2 * N
            · obtain ⟨kf, hkf⟩ : ∃ kf, kk ^^^ 1 = kf := ⟨_, rfl⟩
              obtain ⟨jf, hjf⟩ : ∃ jf, ii ^^^ 1 = jf := ⟨_, rfl⟩
              have hkl : kf < 2 * N := by rw [← hkf]; exact flip_lt ⟨N, by omega⟩ ⟨kk, by omega⟩ hkt
              have hjl : jf < 2 * N := by rw [← hjf]; exact flip_lt ⟨N, by omega⟩ ⟨ii, by omega⟩ hlt
              have hx1 : bits .xor .i64 (kk : Int) 1 = (kf : Int) := by
                have h1 := xor_small kk 1 (by omega) (by omega)
                rw [hkf] at h1
                exact h1
              have hx2 : bits .xor .i64 (ii : Int) 1 = (jf : Int) := by
                have h1 := xor_small ii 1 (by omega) (by omega)
                rw [hjf] at h1
                exact h1
              have x0 := HC.out ii hlt
              have x1 := (hbw.cell (p := ⟨b, off + ii, none⟩) (World.block_lt_of_cell? _ _ x0)).trans x0
              have y0 := HC.out kf hkl
              have y1 := (hbw.cell (p := ⟨b, off + kf, none⟩) (World.block_lt_of_cell? _ _ y0)).trans y0
              have hs := HS.out ii kk hlt hkt
              rw [hkf, hjf] at hs
              have l1 := HR8.out ii
              have l2 := HR8.out kf
              obtain ⟨ri, hri⟩ : ∃ ri, R.getD ii 0 = ri := ⟨_, rfl⟩
              obtain ⟨rk, hrk⟩ : ∃ rk, R.getD kf 0 = rk := ⟨_, rfl⟩
              obtain ⟨bv, hbv⟩ : ∃ bv, bitN ri kk = bv := ⟨_, rfl⟩
              rw [hri] at x1 hs l1
              rw [hrk] at y1 hs l2
              rw [hbv] at hs
              have HB1 := hide hbv
              have HB2 := hide hs.symm
              have hne : ((bv : Int) != (bv : Int)) = false := by simp
              have k8 : kk ≤ 8 := by omega
              have j8 : jf ≤ 8 := by omega
              have r1 : ri < 65536 := by omega
              have r2 : rk < 65536 := by omega
              clear x0 y0 hbw hkf hjf hri hrk hbv hs
              go_wp2_with fail
              go_quiet ((first
                | (go_at_call 54; exact quiet_left (lawBitL_was ri kk bv _ r1 k8 HB1.out))
                | (go_at_call 54; exact quiet_left (lawBitL_was rk jf bv _ r2 j8 HB2.out))))
              go_wp2_with fail
              go_roundw
              case rel => exact ⟨kk + 1, by omega, by go_num, bnext HBW.out (belN _ _)⟩
              case measure => simp only [intOf]; omega
            · obtain rfl : kk = 2 * N := by omega
              go_wp2_with fail
              go_roundw
              case rel => exact ⟨ii + 1, by omega, by go_num, HBW.out⟩
              case measure => simp only [intOf]; omega
        · obtain rfl : ii = 2 * N := by omega
          have d0 := (hbw.cell (p := ⟨w1.heap.size, 0, none⟩) (World.block_lt_of_cell? _ _ D0.out)).trans D0.out
          clear hbw
          go_wp2_with fail
          go_ret
          exact ⟨ret_bool (by simp), bnext B5.out HBW.out⟩
end Go.Proofs.Ytklgganapphioaa
