/- IsQuotaSafe of the program. -/
import Derived.Test.YtklgganapphioaaQsM
import Derived.BigQuiet
import Derived.Deep.RegionHeld3
import Derived.Deep.QuietTactic
namespace Go.Proofs.Ytklgganapphioaa
open Go.RowKit Go.Joins

theorem implVSq_was (n : Int) (a : Option Addr) (cap : Nat) (zs : List Int) (r : Bool) (w : World) (hi : Ints w a zs) (hn : zs.length ≤ 1048576) (h : vsB n zs = r) :
    Calls Try.prog 45 #[.agg #[.int .i64 n, .slice a zs.length cap]] w fun e w' => e = .returned (.bool r) ∧ Below w.heap.size w w' := by
  subst h
  exact implValidSpace_any n a cap zs w hi hn
set_option maxHeartbeats 4000000 in
theorem quotaSum_any (k : Int) (l : Option Addr) (cap N : Nat) (qs : List Int) (mc mb : Nat) (w : World) (hi : Ints w l qs) (hN : qs.length = N) (h4 : N ≤ 4) (hk : 1 ≤ k ∧ k ≤ 5) (hq : ∀ j, j < qs.length → 1 ≤ qs.getD j 0 ∧ qs.getD j 0 ≤ k) (hc : mc < 16) (hb : mb < 16) :
    Calls Try.prog 84 #[.agg #[.int .i64 (mc : Int), .int .i64 (mb : Int)], .int .i64 k, .slice l N cap] w fun e w' => e = .returned (.int .i64 (qsK k qs (mc, mb) N)) ∧ Below w.heap.size w w' := by
  subst hN
  have P0 := PBox.new w (mc : Int) (mb : Int) 52
  have B0 := hide (bel1 w (.cells #[.int .i64 (mc : Int), .int .i64 (mb : Int)] 52))
  obtain ⟨_, p0, p1⟩ := P0
  have HI := hide (hi.below B0.out)
  have HQ := hide hq
  have HR : Hid (∀ j, j ≤ qs.length → 0 ≤ qsK k qs (mc, mb) j ∧ qsK k qs (mc, mb) j ≤ 5 * j) := fun j hj => qsK_range hk hq (mc, mb) j hj
  clear hi hq
  go_enter Try.func84, Try.ntmps84
  go_wp2_with fail
  go_loop [7, 12] (fun s i => ∃ j : Nat, j ≤ qs.length ∧ i = .int .i64 j ∧ s = .int .i64 (qsK k qs (mc, mb) j)) (fun _ i => qs.length - (intOf i).toNat)
  case atStart => exact ⟨0, Nat.zero_le _, rfl, rfl⟩
  case round =>
    obtain ⟨j, hj, rfl, rfl⟩ := hrel
    by_cases hjt : j < qs.length
    · obtain ⟨b, off, rfl, _, hcell⟩ := HI.out (by omega)
      have x1 := hcell j hjt
      have hqj := HQ.out j hjt
      have hr := HR.out j hj
      obtain ⟨q, hqq⟩ : ∃ q, qs.getD j 0 = q := ⟨_, rfl⟩
      obtain ⟨ec, hec⟩ : ∃ ec, bitN mc j = ec := ⟨_, rfl⟩
      obtain ⟨eb, heb⟩ : ∃ eb, bitN mb j = eb := ⟨_, rfl⟩
      have l1 := bitN_le mc j
      have l2 := bitN_le mb j
      have s1 := shrL mc j (by omega)
      have s2 := shrL mb j (by omega)
      rw [hec] at l1 s1
      rw [heb] at l2 s2
      have e1 := fun (h : eb = 1) => qsK_bit (k := k) (qs := qs) (m := (mc, mb)) (j := j) (heb.trans h)
      have e2 := fun (h : eb = 0) (h' : ec = 1) => qsK_care (k := k) (qs := qs) (m := (mc, mb)) (j := j) (heb.trans h) (hec.trans h')
      have e3 := fun (h : eb = 0) (h' : ec = 0) => qsK_none (k := k) (qs := qs) (m := (mc, mb)) (j := j) (heb.trans h) (hec.trans h')
      rw [hqq] at x1 hqj e1 e2
      obtain ⟨sv, hsv⟩ : ∃ sv, qsK k qs (mc, mb) j = sv := ⟨_, rfl⟩
      rw [hsv] at hr e1 e2 e3 ⊢
      have E1 := hide e1
      have E2 := hide e2
      have E3 := hide e3
      clear hcell hqq hec heb hsv e1 e2 e3
      rcases (show eb = 0 ∨ eb = 1 from by omega) with rfl | rfl
      · rcases (show ec = 0 ∨ ec = 1 from by omega) with rfl | rfl
        · go_wp2_with fail
          go_round
          case rel => exact ⟨j + 1, by omega, by go_num, by rw [E3.out rfl rfl]⟩
          case measure => simp only [intOf]; omega
        · go_wp2_with fail
          go_round
          case rel => exact ⟨j + 1, by omega, by go_num, by rw [E2.out rfl rfl]⟩
          case measure => simp only [intOf]; omega
      · go_wp2_with fail
        go_round
        case rel => exact ⟨j + 1, by omega, by go_num, by rw [E1.out rfl]⟩
        case measure => simp only [intOf]; omega
    · obtain rfl : j = qs.length := by omega
      go_wp2_with fail
      go_ret
      exact ⟨rfl, B0.out⟩
theorem belD (w : World) : Below w.heap.size w w.drew := ⟨rfl, rfl, rfl, Nat.le_refl _, fun _ _ => rfl⟩
theorem onesQ_was (x s : Nat) (y : Int) (w : World) (hy : y = (x : Int)) (hx : x < 16) (h : wt x = s) : Calls Try.prog 85 #[.int .u64 y] w fun e w' => e = .returned (.int .i64 (s : Nat)) ∧ w = w' := by
  subst h
  subst hy
  exact onesCount_any x w hx
theorem quotaSum_was (k : Int) (l : Option Addr) (cap N : Nat) (qs : List Int) (mc mb : Nat) (r : Int) (w : World) (hi : Ints w l qs) (hN : qs.length = N) (h4 : N ≤ 4) (hk : 1 ≤ k ∧ k ≤ 5) (hq : ∀ j, j < qs.length → 1 ≤ qs.getD j 0 ∧ qs.getD j 0 ≤ k) (hc : mc < 16) (hb : mb < 16) (h : qsK k qs (mc, mb) N = r) :
    Calls Try.prog 84 #[.agg #[.int .i64 (mc : Int), .int .i64 (mb : Int)], .int .i64 k, .slice l N cap] w fun e w' => e = .returned (.int .i64 r) ∧ Below w.heap.size w w' := by
  subst h
  exact quotaSum_any k l cap N qs mc mb w hi hN h4 hk hq hc hb

set_option maxHeartbeats 4000000 in
set_option maxRecDepth 100000 in
theorem implIsQuotaSafe_any (n : Int) (a : Option Addr) (cap : Nat) (zs : List Int) (k : Int) (l : Option Addr) (qs : List Int) (capl : Nat) (w : World) (hi : Ints w a zs) (hj : Ints w l qs) (hn : zs.length ≤ 1048576) (hm : qs.length ≤ 1048576) :
    Calls Try.prog 33 #[.agg #[.int .i64 n, .slice a zs.length cap], .int .i64 k, .slice l qs.length capl] w fun e w' => e = .returned (.bool (qsB n zs k qs)) ∧ Below w.heap.size w w' := by
  have S0 := SV.new w n a zs cap l qs 28 hi hj
  clear hi hj
  obtain ⟨⟨_, c0, c1⟩, _⟩ := S0.pair
  by_cases hok : QsOk n zs k qs
  · have HOK := hide hok
    obtain ⟨hv, hk, hq⟩ := hok
    have hn4 := (valid_of hv).1
    obtain ⟨N, rfl⟩ : ∃ N : Nat, n = (N : Int) := ⟨n.toNat, by omega⟩
    have hN : 1 ≤ N ∧ N ≤ 4 := by omega
    have hqi := quotas_in hq
    have hql : qs.length = N := by omega
    have HV := hide hv
    have HQ := hide hq
    have HQI := hide hqi.1
    have HQL := hide hql
    have HK := hide (show decide (1 ≤ k ∧ k ≤ 5) = true from decide_eq_true hk)
    obtain ⟨L, hL⟩ : ∃ L, L = critL N zs := ⟨_, rfl⟩
    have HCR : Hid (crR (N : Int) zs = ofP L) := by unfold Hid; rw [crR_yes hv, Int.toNat_natCast, hL]
    have hl81 : L.length ≤ 81 := by
      rw [hL]
      have h1 : (ordL N).length ≤ 81 := by simpa using range5_of ord_len hN.2
      exact Nat.le_trans (List.length_filter_le _ _) h1
    have H16 : Hid (∀ p ∈ L, p.1 < 16 ∧ p.2 < 16) := fun p hp => by
      rw [hL] at hp
      exact ord_16 hN.2 (List.mem_filter.1 hp).1
    have HLL := hide (ofP_len L)
    have FND : Hid (∀ i (hi : i < L.length), qfew k qs N L[i] = true → qsB (N : Int) zs k qs = false) := fun i hi h => by subst hL; exact qs_found HOK.out hi h
    have ALL : Hid ((∀ i (hi : i < L.length), qfew k qs N L[i] = false) → qsB (N : Int) zs k qs = true) := fun h => by subst hL; exact qs_all HOK.out h
    clear hv hq hqi hql hn4 hL
    go_enter Try.func33, Try.ntmps33
    go_wp2_with fail
    refine (implVSq_was _ _ _ _ true _ S0.2.1 hn HV.out).mono ?_
    rintro e w1 ⟨rfl, hb⟩
    have S1 := S0.below hb
    clear S0 hb c0 c1
    obtain ⟨⟨_, c0, c1⟩, _⟩ := S1.pair
    go_wp2_with (go_at_call 82; refine (validCount_any _ true _ HK.out).mono ?_; rintro e w' ⟨rfl, rfl⟩)
    refine (implVQ_was _ _ _ _ _ _ _ _ true _ S1.2.2.1 hm HQ.out).mono ?_
    rintro e w2 ⟨rfl, hb⟩
    have S2 := S1.below hb
    clear S1 hb c0 c1
    obtain ⟨⟨_, c0, c1⟩, _⟩ := S2.pair
    go_wp2_with fail
    refine (implCriticalParts_any _ _ _ _ _ S2.2.1 hn).mono ?_
    rintro e w3 ⟨v, rfl, own, hb3⟩
    rw [HCR.out] at own
    obtain ⟨va, vc, hve, pin⟩ := own.form
    rw [HLL.out] at hve
    subst hve
    have PIN := hide pin
    have S3 := hide (S2.below hb3)
    clear c0 c1 S2 own hb3 pin
    go_wp2_with fail
    rw [HQL.out]
    go_loopw [27] (fun i wr => ∃ ii : Nat, ii ≤ L.length ∧ i = .int .i64 ii ∧ Hid (∀ i' (hi : i' < L.length), i' < ii → qfew k qs N L[i'] = false) ∧ Below w3.heap.size w3 wr) (fun i _ => L.length - (intOf i).toNat)
    case atStart => exact ⟨0, Nat.zero_le _, rfl, fun i' hi h => by omega, Below.refl _ _⟩
    case round =>
      obtain ⟨ii, hii, rfl, hall, hbw⟩ := hrel
      by_cases hlt : ii < L.length
      · obtain ⟨pc, hpc⟩ : ∃ pc, pc = L[ii].1 := ⟨_, rfl⟩
        obtain ⟨pb, hpb⟩ : ∃ pb, pb = L[ii].2 := ⟨_, rfl⟩
        have hm' : L[ii] = (pc, pb) := by rw [hpc, hpb]
        have h16 := H16.out L[ii] (List.getElem_mem hlt)
        rw [hm'] at h16
        obtain ⟨b1, o1, rfl, hb1, hc1⟩ := PIN.out (by rw [HLL.out]; omega)
        obtain ⟨x1, x2⟩ := hc1 ii (by rw [HLL.out]; omega)
        rw [ofP_at hlt, hm'] at x1 x2
        have z1 := (hbw.cell (p := ⟨b1, o1 + ii * 2, none⟩) (World.block_lt_of_cell? _ _ x1)).trans x1
        have z2 := (hbw.cell (p := ⟨b1, o1 + ii * 2 + 1, none⟩) (World.block_lt_of_cell? _ _ x2)).trans x2
        obtain ⟨_, p0, p1⟩ := PBox.new wr (pc : Int) (pb : Int) 52
        have HBW := hide hbw
        have B5 := hide (bnext hbw (bel1 wr (.cells #[.int .i64 (pc : Int), .int .i64 (pb : Int)] 52)))
        have I5 := hide ((S3.out.below B5.out).2.2.1)
        have FND' : Hid (qfew k qs N (pc, pb) = true → qsB (N : Int) zs k qs = false) := fun h => FND.out ii hlt (by rw [hm']; exact h)
        have NXT : Hid (qfew k qs N (pc, pb) = false → ∀ i' (hi : i' < L.length), i' < ii + 1 → qfew k qs N L[i'] = false) := fun h i' hi h1 => by
          rcases Nat.lt_or_ge i' ii with h2 | h2
          · exact hall.out i' hi h2
          · obtain rfl : i' = ii := by omega
            rw [hm']
            exact h
        obtain ⟨wc, hwc⟩ : ∃ wc, wt pc = wc := ⟨_, rfl⟩
        have hw4 : wc ≤ 4 := by rw [← hwc]; exact wt_le pc
        obtain ⟨sv, hsv⟩ : ∃ sv, qsK k qs (pc, pb) N = sv := ⟨_, rfl⟩
        have hfw : qfew k qs N (pc, pb) = decide (sv ≤ k * ((wc : Nat) - 1 : Int)) := by unfold qfew; rw [hsv]; simp only [hwc]
        rw [hfw] at FND' NXT
        have HWC := hide hwc
        have HSV := hide hsv
        have H16m := hide h16
        have hprod : 0 - 5 ≤ k * ((wc : Nat) - 1 : Int) ∧ k * ((wc : Nat) - 1 : Int) ≤ 15 := by
          rcases (show wc = 0 ∨ wc = 1 ∨ wc = 2 ∨ wc = 3 ∨ wc = 4 from by omega) with rfl | rfl | rfl | rfl | rfl <;> simp <;> omega
        obtain ⟨pr, hpr⟩ : ∃ pr, k * ((wc : Nat) - 1 : Int) = pr := ⟨_, rfl⟩
        rw [hpr] at hprod FND' NXT
        have H16p := H16m.out
        have hpc16 : pc < 16 := h16.1
        have HU : Hid (IntKind.u64.wrap (pc : Int) = (pc : Int)) := by unfold Hid IntKind.wrap; simp [IntKind.bits]; omega
        clear x1 x2 hc1 hb1 hpc hpb hm' hbw hall hwc hsv hfw h16 H16p
        go_wp2_with fail
        clear z1 z2
        go_region_held3 (fun w' => w'.cell? ⟨wr.heap.size, 0, none⟩ = some (.int .i64 (pc : Int)) ∧ w'.cell? ⟨wr.heap.size, 1, none⟩ = some (.int .i64 (pb : Int))) (first | go_keep | exact HK5.out)
          ((first
            | (go_at_call 84; (with_reducible refine (quotaSum_was k l capl N qs pc pb sv _ (I5.out.below (belD _)) HQL.out hN.2 hk HQI.out H16m.out.1 H16m.out.2 HSV.out).mono ?_); rintro e w5 ⟨rfl, b5⟩; have HK5 := hide (show w5.cell? ⟨wr.heap.size, 0, none⟩ = some (.int .i64 (pc : Int)) ∧ w5.cell? ⟨wr.heap.size, 1, none⟩ = some (.int .i64 (pb : Int)) from ⟨(b5.cell (p := ⟨wr.heap.size, 0, none⟩) (World.block_lt_of_cell? _ _ (by assumption))).trans (by assumption), (b5.cell (p := ⟨wr.heap.size, 1, none⟩) (World.block_lt_of_cell? _ _ (by assumption))).trans (by assumption)⟩))
            | (go_at_call 85; (with_reducible refine (onesQ_was pc wc _ _ HU.out hpc16 HWC.out).mono ?_); rintro e w' ⟨rfl, rfl⟩)))
        all_goals
          have hw1 : IntKind.i64.wrap ((wc : Int) - 1) = (wc : Int) - 1 := IntWalk.i64_in _ (by omega)
          have hw2 : IntKind.i64.wrap (k * IntKind.i64.wrap ((wc : Int) - 1)) = pr := by rw [hw1, hpr]; exact IntWalk.i64_in _ (by omega)
          rw [hw2]
          clear hw1 hw2
          have B6 := hide (bnext B5.out (bdrew b5))
          by_cases hle : sv ≤ pr
          · have HLE := hide (show decide (sv ≤ pr) = true from decide_eq_true hle)
            rw [HLE.out]
            clear hle
            go_wp2_with fail
            go_ret
            exact ⟨ret_bool (FND'.out HLE.out).symm, bnext S3.out.2.2.2 B6.out⟩
          · have HLE := hide (show decide (sv ≤ pr) = false from decide_eq_false hle)
            rw [HLE.out]
            clear hle
            go_wp2_with fail
            go_roundw
            case rel => exact ⟨ii + 1, by omega, by go_num, NXT.out HLE.out, B6.out⟩
            case measure => simp only [intOf]; omega
      · obtain rfl : ii = L.length := by omega
        go_wp2_with fail
        go_ret
        exact ⟨ret_bool (ALL.out fun i hi => hall.out i hi hi).symm, bnext S3.out.2.2.2 hbw⟩
  · have HN := hide (qsB_no hok)
    by_cases hv : vsB n zs = true
    · have HV := hide hv
      by_cases hk : 1 ≤ k ∧ k ≤ 5
      · have HK := hide (show decide (1 ≤ k ∧ k ≤ 5) = true from decide_eq_true hk)
        have HQ : Hid (quotasB n k qs = false) := by
          unfold Hid
          cases hq : quotasB n k qs with
          | false => rfl
          | true => exact absurd ⟨hv, hk, hq⟩ hok
        clear hok hv
        go_enter Try.func33, Try.ntmps33
        go_wp2_with fail
        refine (implVSq_was _ _ _ _ true _ S0.2.1 hn HV.out).mono ?_
        rintro e w1 ⟨rfl, hb⟩
        have S1 := S0.below hb
        clear S0 hb c0 c1
        obtain ⟨⟨_, c0, c1⟩, _⟩ := S1.pair
        go_wp2_with (go_at_call 82; refine (validCount_any _ true _ HK.out).mono ?_; rintro e w' ⟨rfl, rfl⟩)
        refine (implVQ_was _ _ _ _ _ _ _ _ false _ S1.2.2.1 hm HQ.out).mono ?_
        rintro e w2 ⟨rfl, hb⟩
        go_wp2_with fail
        go_ret
        exact ⟨ret_bool HN.out.symm, (S1.below hb).2.2.2⟩
      · have HK := hide (show decide (1 ≤ k ∧ k ≤ 5) = false from decide_eq_false hk)
        clear hok hv hk
        go_enter Try.func33, Try.ntmps33
        go_wp2_with fail
        refine (implVSq_was _ _ _ _ true _ S0.2.1 hn HV.out).mono ?_
        rintro e w1 ⟨rfl, hb⟩
        have S1 := S0.below hb
        clear S0 hb c0 c1
        go_wp2_with (go_at_call 82; refine (validCount_any _ false _ HK.out).mono ?_; rintro e w' ⟨rfl, rfl⟩)
        go_ret
        exact ⟨ret_bool HN.out.symm, S1.2.2.2⟩
    · have HV := hide (show vsB n zs = false from by simpa using hv)
      clear hok hv
      go_enter Try.func33, Try.ntmps33
      go_wp2_with fail
      refine (implVSq_was _ _ _ _ false _ S0.2.1 hn HV.out).mono ?_
      rintro e w1 ⟨rfl, hb⟩
      go_wp2_with fail
      go_ret
      exact ⟨ret_bool HN.out.symm, (S0.below hb).2.2.2⟩
end Go.Proofs.Ytklgganapphioaa
