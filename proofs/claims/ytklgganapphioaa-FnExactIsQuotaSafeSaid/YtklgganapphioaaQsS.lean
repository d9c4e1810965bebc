/- IsQuotaSafe of the model. -/
import Derived.Test.YtklgganapphioaaQsM
namespace Go.Proofs.Ytklgganapphioaa
open Go.RowKit Go.Joins

theorem specVSq_was (n : Int) (a : Option Addr) (cap : Nat) (zs : List Int) (r : Bool) (w : World) (hi : Ints w a zs) (hn : zs.length ≤ 1048576) (h : vsB n zs = r) :
    Calls Try.prog 66 #[.agg #[.int .i64 n, .slice a zs.length cap]] w fun e w' => e = .returned (.bool r) ∧ Below w.heap.size w w' := by
  subst h
  exact validSpace_any n a cap zs w hi hn
theorem weightQ_was (x : Nat) (s : Nat) (w : World) (hx : x < 16) (h : wt x = s) : Calls Try.prog 81 #[.int .i64 x] w fun e w' => e = .returned (.int .i64 (s : Nat)) ∧ w = w' := by
  subst h
  exact weight_any x w hx
set_option maxHeartbeats 8000000 in
set_option maxRecDepth 100000 in
theorem specIsQuotaSafe_any (n : Int) (a : Option Addr) (cap : Nat) (zs : List Int) (k : Int) (l : Option Addr) (qs : List Int) (capl : Nat) (w : World) (hi : Ints w a zs) (hj : Ints w l qs) (hn : zs.length ≤ 1048576) (hm : qs.length ≤ 1048576) :
    Calls Try.prog 31 #[.agg #[.int .i64 n, .slice a zs.length cap], .int .i64 k, .slice l qs.length capl] w fun e w' => e = .returned (.bool (qsB n zs k qs)) ∧ Below w.heap.size w w' := by
  have S0 := SV.new w n a zs cap l qs 28 hi hj
  clear hi hj
  obtain ⟨⟨_, c0, c1⟩, _⟩ := S0.pair
  by_cases hok : QsOk n zs k qs
  · have HOK := hide hok
    obtain ⟨hv, hk, hq⟩ := hok
    have hn4 := (valid_of hv).1
    have HR := hide (valid_range (valid_of hv))
    obtain ⟨N, rfl⟩ : ∃ N : Nat, n = (N : Int) := ⟨n.toNat, by omega⟩
    have hN : 1 ≤ N ∧ N ≤ 4 := by omega
    have hqi := quotas_in hq
    have hql : qs.length = N := by omega
    have HV := hide hv
    have HQ := hide hq
    have HQI := hide hqi.1
    have HQL := hide hql
    have HQR : Hid (∀ (m : Nat × Nat) j, j ≤ N → 0 ≤ qsK k qs m j ∧ qsK k qs m j ≤ 5 * j) := fun m j hj => qsK_range hk hqi.1 m j (by omega)
    have HK := hide (show decide (1 ≤ k ∧ k ≤ 5) = true from decide_eq_true hk)
    obtain ⟨L, hL⟩ : ∃ L, L = critL N zs := ⟨_, rfl⟩
    have HL := hide hL
    have hl81 : L.length ≤ 81 := by
      rw [hL]
      have h1 : (ordL N).length ≤ 81 := by simpa using range5_of ord_len hN.2
      exact Nat.le_trans (List.length_filter_le _ _) h1
    have H16 : Hid (∀ p ∈ L, p.1 < 16 ∧ p.2 < 16) := fun p hp => by
      rw [hL] at hp
      exact ord_16 hN.2 (List.mem_filter.1 hp).1
    have HLL := hide (ofP_len L)
    have FND : Hid (∀ i (hi : i < L.length), qfew k qs N L[i] = true → qsB (N : Int) zs k qs = false) := fun i hi h => by subst hL; exact qs_found HOK.out hi h
    have ALL : Hid ((∀ i (hi : i < L.length), qfew k qs N L[i] = false) → qsB (N : Int) zs k qs = true) := fun h => by subst hL; exact qs_all HOK.out h
    clear hv hq hqi hql hn4 hL
    go_enter Try.func31, Try.ntmps31
    go_wp2_with fail
    refine (specVSq_was _ _ _ _ true _ S0.2.1 hn HV.out).mono ?_
    rintro e w1 ⟨rfl, hb⟩
    have S1 := S0.below hb
    clear S0 hb c0 c1
    obtain ⟨⟨_, c0, c1⟩, _⟩ := S1.pair
    go_wp2_with (go_at_call 78; refine (inR_was _ _ _ true _ HK.out).mono ?_; rintro e w' ⟨rfl, rfl⟩)
    refine (specVQ_was _ _ _ _ _ _ _ _ true _ S1.2.2.1 hm HQ.out).mono ?_
    rintro e w2 ⟨rfl, hb⟩
    have S2 := S1.below hb
    clear S1 hb c0 c1
    obtain ⟨⟨_, c0, c1⟩, _⟩ := S2.pair
    go_wp2_with fail
    refine (critical_any N _ _ _ _ S2.2.1 hn hN HR.out).mono ?_
    rintro e w3 ⟨v, rfl, own, hb3⟩
    rw [← HL.out] at own
    obtain ⟨va, vc, hve, pin⟩ := own.form
    rw [HLL.out] at hve
    subst hve
    have PIN := hide pin
    have S3 := S2.below hb3
    obtain ⟨⟨_, c0', _⟩, _⟩ := S3.pair
    have B3 := hide S3.2.2.2
    have IQ := hide S3.2.2.1
    clear c0 c1 S2 own hb3 pin S3
    go_wp2_with fail
    rw [HQL.out]
    go_loop [8] (fun i => ∃ ii : Nat, ii ≤ L.length ∧ i = .int .i64 ii ∧ Hid (∀ i' (hi : i' < L.length), i' < ii → qfew k qs N L[i'] = false)) (fun i => L.length - (intOf i).toNat)
    case atStart => exact ⟨0, Nat.zero_le _, rfl, fun i' hi h => by omega⟩
    case round =>
      obtain ⟨ii, hii, rfl, hall⟩ := hrel
      by_cases hlt : ii < L.length
      · obtain ⟨pc, hpc⟩ : ∃ pc, pc = L[ii].1 := ⟨_, rfl⟩
        obtain ⟨pb, hpb⟩ : ∃ pb, pb = L[ii].2 := ⟨_, rfl⟩
        have hm' : L[ii] = (pc, pb) := by rw [hpc, hpb]
        have h16 := H16.out L[ii] (List.getElem_mem hlt)
        rw [hm'] at h16
        obtain ⟨b1, o1, rfl, hb1, hc1⟩ := PIN.out (by rw [HLL.out]; omega)
        obtain ⟨z1, z2⟩ := hc1 ii (by rw [HLL.out]; omega)
        rw [ofP_at hlt, hm'] at z1 z2
        have FND' : Hid (qfew k qs N (pc, pb) = true → qsB (N : Int) zs k qs = false) := fun h => FND.out ii hlt (by rw [hm']; exact h)
        have NXT : Hid (qfew k qs N (pc, pb) = false → ∀ i' (hi : i' < L.length), i' < ii + 1 → qfew k qs N L[i'] = false) := fun h i' hi h1 => by
          rcases Nat.lt_or_ge i' ii with h2 | h2
          · exact hall.out i' hi h2
          · obtain rfl : i' = ii := by omega
            rw [hm']
            exact h
        obtain ⟨wc, hwc⟩ : ∃ wc, wt pc = wc := ⟨_, rfl⟩
        have hw4 : wc ≤ 4 := by rw [← hwc]; exact wt_le pc
        have hfw : qfew k qs N (pc, pb) = decide (qsK k qs (pc, pb) N ≤ k * ((wc : Nat) - 1 : Int)) := by unfold qfew; simp only [hwc]
        rw [hfw] at FND' NXT
        have HWC := hide hwc
        clear hc1 hb1 hpc hpb hm' hall hwc hfw
        go_wp2_with fail
        go_loop [9, 10] (fun s i => ∃ j : Nat, j ≤ N ∧ i = .int .i64 j ∧ s = .int .i64 (qsK k qs (pc, pb) j)) (fun _ i => N - (intOf i).toNat)
        case atStart => exact ⟨0, Nat.zero_le _, rfl, rfl⟩
        case round =>
          obtain ⟨j, hj, rfl, rfl⟩ := hrel
          by_cases hjt : j < N
          · obtain ⟨bq, oq, rfl, _, hcell⟩ := IQ.out (by rw [HQL.out]; omega)
            have x1 := hcell j (by rw [HQL.out]; exact hjt)
            have hqj := HQI.out j (by rw [HQL.out]; exact hjt)
            have hr := HQR.out (pc, pb) j hj
            obtain ⟨q, hqq⟩ : ∃ q, qs.getD j 0 = q := ⟨_, rfl⟩
            obtain ⟨ec, hec⟩ : ∃ ec, bitN pc j = ec := ⟨_, rfl⟩
            obtain ⟨eb, heb⟩ : ∃ eb, bitN pb j = eb := ⟨_, rfl⟩
            have l1 := bitN_le pc j
            have l2 := bitN_le pb j
            rw [hec] at l1
            rw [heb] at l2
            have e1 := fun (h : eb = 1) => qsK_bit (k := k) (qs := qs) (m := (pc, pb)) (j := j) (heb.trans h)
            have e2 := fun (h : eb = 0) (h' : ec = 1) => qsK_care (k := k) (qs := qs) (m := (pc, pb)) (j := j) (heb.trans h) (hec.trans h')
            have e3 := fun (h : eb = 0) (h' : ec = 0) => qsK_none (k := k) (qs := qs) (m := (pc, pb)) (j := j) (heb.trans h) (hec.trans h')
            rw [hqq] at x1 hqj e1 e2
            obtain ⟨sv, hsv⟩ : ∃ sv, qsK k qs (pc, pb) j = sv := ⟨_, rfl⟩
            rw [hsv] at hr e1 e2 e3 ⊢
            have E1 := hide e1
            have E2 := hide e2
            have E3 := hide e3
            have HEC := hide hec
            have HEB := hide heb
            clear hcell hqq hec heb hsv e1 e2 e3
            rcases (show eb = 0 ∨ eb = 1 from by omega) with rfl | rfl
            · rcases (show ec = 0 ∨ ec = 1 from by omega) with rfl | rfl
              · go_wp2_with (go_at_call 80; (first | refine (bit8_was pb j 0 _ (by omega) (by omega) HEB.out).mono ?_ | refine (bit8_was pc j 0 _ (by omega) (by omega) HEC.out).mono ?_); rintro e w' ⟨rfl, rfl⟩)
                go_round
                case rel => exact ⟨j + 1, by omega, by go_num, by rw [E3.out trivial trivial]⟩
                case measure => simp only [intOf]; omega
              · go_wp2_with (go_at_call 80; (first | refine (bit8_was pb j 0 _ (by omega) (by omega) HEB.out).mono ?_ | refine (bit8_was pc j 1 _ (by omega) (by omega) HEC.out).mono ?_); rintro e w' ⟨rfl, rfl⟩)
                go_round
                case rel => exact ⟨j + 1, by omega, by go_num, by rw [E2.out trivial trivial]; exact congrArg (Value.int .i64) (by omega)⟩
                case measure => simp only [intOf]; omega
            · go_wp2_with (go_at_call 80; refine (bit8_was pb j 1 _ (by omega) (by omega) HEB.out).mono ?_; rintro e w' ⟨rfl, rfl⟩)
              go_round
              case rel => exact ⟨j + 1, by omega, by go_num, by rw [E1.out trivial]⟩
              case measure => simp only [intOf]; omega
          · obtain rfl : j = N := by omega
            have hr := HQR.out (pc, pb) j (Nat.le_refl _)
            obtain ⟨sv, hsv⟩ : ∃ sv, qsK k qs (pc, pb) j = sv := ⟨_, rfl⟩
            rw [hsv] at hr FND' NXT ⊢
            clear hsv
            have hprod : 0 - 5 ≤ k * ((wc : Nat) - 1 : Int) ∧ k * ((wc : Nat) - 1 : Int) ≤ 15 := by
              rcases (show wc = 0 ∨ wc = 1 ∨ wc = 2 ∨ wc = 3 ∨ wc = 4 from by omega) with rfl | rfl | rfl | rfl | rfl <;> simp <;> omega
            obtain ⟨pr, hpr⟩ : ∃ pr, k * ((wc : Nat) - 1 : Int) = pr := ⟨_, rfl⟩
            rw [hpr] at hprod FND' NXT
            by_cases hle : sv ≤ pr
            · have HLE := hide (show decide (sv ≤ pr) = true from decide_eq_true hle)
              go_wp2_with (go_at_call 81; refine (weightQ_was pc wc _ (by omega) HWC.out).mono ?_; rintro e w' ⟨rfl, rfl⟩)
              go_ret
              exact ⟨ret_bool (FND'.out HLE.out).symm, B3.out⟩
            · have HLE := hide (show decide (sv ≤ pr) = false from decide_eq_false hle)
              go_wp2_with (go_at_call 81; refine (weightQ_was pc wc _ (by omega) HWC.out).mono ?_; rintro e w' ⟨rfl, rfl⟩)
              go_round
              case rel => exact ⟨ii + 1, by omega, by go_num, NXT.out HLE.out⟩
              case measure => simp only [intOf]; omega
      · obtain rfl : ii = L.length := by omega
        go_wp2_with fail
        go_ret
        exact ⟨ret_bool (ALL.out fun i hi => hall.out i hi hi).symm, B3.out⟩
  · have HN := hide (qsB_no hok)
    by_cases hv : vsB n zs = true
    · have HV := hide hv
      by_cases hk : 1 ≤ k ∧ k ≤ 5
      · have HK := hide (show decide (1 ≤ k ∧ k ≤ 5) = true from decide_eq_true hk)
        have HQ : Hid (quotasB n k qs = false) := by
          unfold Hid
          cases hq : quotasB n k qs with
          | false => rfl
          | true => exact absurd ⟨hv, hk, hq⟩ hok
        clear hok hv
        go_enter Try.func31, Try.ntmps31
        go_wp2_with fail
        refine (specVSq_was _ _ _ _ true _ S0.2.1 hn HV.out).mono ?_
        rintro e w1 ⟨rfl, hb⟩
        have S1 := S0.below hb
        clear S0 hb c0 c1
        obtain ⟨⟨_, c0, c1⟩, _⟩ := S1.pair
        go_wp2_with (go_at_call 78; refine (inR_was _ _ _ true _ HK.out).mono ?_; rintro e w' ⟨rfl, rfl⟩)
        refine (specVQ_was _ _ _ _ _ _ _ _ false _ S1.2.2.1 hm HQ.out).mono ?_
        rintro e w2 ⟨rfl, hb⟩
        go_wp2_with fail
        go_ret
        exact ⟨ret_bool HN.out.symm, (S1.below hb).2.2.2⟩
      · have HK := hide (show decide (1 ≤ k ∧ k ≤ 5) = false from decide_eq_false hk)
        clear hok hv hk
        go_enter Try.func31, Try.ntmps31
        go_wp2_with fail
        refine (specVSq_was _ _ _ _ true _ S0.2.1 hn HV.out).mono ?_
        rintro e w1 ⟨rfl, hb⟩
        have S1 := S0.below hb
        clear S0 hb c0 c1
        go_wp2_with (go_at_call 78; refine (inR_was _ _ _ false _ HK.out).mono ?_; rintro e w' ⟨rfl, rfl⟩)
        go_ret
        exact ⟨ret_bool HN.out.symm, S1.2.2.2⟩
    · have HV := hide (show vsB n zs = false from by simpa using hv)
      clear hok hv
      go_enter Try.func31, Try.ntmps31
      go_wp2_with fail
      refine (specVSq_was _ _ _ _ false _ S0.2.1 hn HV.out).mono ?_
      rintro e w1 ⟨rfl, hb⟩
      go_wp2_with fail
      go_ret
      exact ⟨ret_bool HN.out.symm, (S0.below hb).2.2.2⟩
end Go.Proofs.Ytklgganapphioaa
