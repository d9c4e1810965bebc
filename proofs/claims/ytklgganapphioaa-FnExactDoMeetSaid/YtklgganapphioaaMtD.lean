/- DoMeet of the model. -/
import Derived.Test.YtklgganapphioaaMtM
import Derived.Deep.RegionHeld3
import Derived.Deep.QuietTactic
import Derived.BigQuiet
namespace Go.Proofs.Ytklgganapphioaa
open Go.RowKit Go.Joins

theorem specVSm_was (n : Int) (a : Option Addr) (cap : Nat) (zs : List Int) (r : Bool) (w : World) (hi : Ints w a zs) (hn : zs.length ≤ 1048576) (h : vsB n zs = r) :
    Calls Try.prog 66 #[.agg #[.int .i64 n, .slice a zs.length cap]] w fun e w' => e = .returned (.bool r) ∧ Below w.heap.size w w' := by
  subst h
  exact validSpace_any n a cap zs w hi hn
theorem specVRm_was (n v : Int) (a b : Option Addr) (cap capb : Nat) (zs ws : List Int) (r : Bool) (w : World) (hi : Ints w a zs) (hj : Ints w b ws) (hm : ws.length ≤ 1048576) (h : ruleB n v ws = r) :
    Calls Try.prog 86 #[.agg #[.int .i64 n, .slice a zs.length cap], .agg #[.int .i64 v, .slice b ws.length capb]] w fun e w' => e = .returned (.bool r) ∧ Below w.heap.size w w' := by
  subst h
  exact validRule_any n v a b cap capb zs ws w hi hj hm
theorem power8_int (t p : Nat) (y : Int) (w : World) (hy : y = (t : Int)) (ht : t ≤ 8) (h : 2 ^ t = p) : Calls Try.prog 88 #[.int .i64 y] w fun e w' => e = .returned (.int .i64 (p : Int)) ∧ w = w' := by
  subst hy
  exact power8_was t p w ht h
theorem meets_was (N zn cap v capb : Nat) (a b : Option Addr) (ws : List Int) (mc mb : Nat) (r : Bool) (z : Int) (w : World) (hv : 1 ≤ v ∧ v ≤ 3) (hN : N ≤ 4) (hl : ws.length = N) (hr : ∀ x ∈ ws, 0 ≤ x ∧ x ≤ 255) (hm : mc < 16 ∧ mb < 16) (hi : Ints w b ws) (hz : z = ((2 ^ v - 1 : Nat) : Int)) (h : noneB (v : Int) ws (mc, mb) = !r) :
    Calls Try.prog 87 #[.agg #[.int .i64 (N : Int), .slice a zn cap], .agg #[.int .i64 (v : Int), .slice b N capb], .agg #[.int .i64 (mc : Int), .int .i64 (mb : Int)], .int .i64 0, .int .i64 z] w fun e w' => e = .returned (.bool r) ∧ Below w.heap.size w w' := by
  have h8 : 2 ^ v - 1 < 8 := by
    have : 2 ^ v ≤ 2 ^ 3 := Nat.pow_le_pow_right (by omega) hv.2
    have := Nat.two_pow_pos v
    omega
  have h1 := meets_any N zn cap v capb a b ws mc mb hv hN hl hr hm N 0 (2 ^ v - 1) 0 z w (by omega) h8 rfl hz hi
  have h2 : mtK v ws (mc, mb) N 0 (2 ^ v - 1) = r := by
    rw [← hl, mt_none hv, h, Bool.not_not]
  rw [h2] at h1
  exact h1
set_option maxHeartbeats 8000000 in
set_option maxRecDepth 100000 in
theorem specDoMeet_any (n v : Int) (a b : Option Addr) (cap capb : Nat) (zs ws : List Int) (w : World) (hi : Ints w a zs) (hj : Ints w b ws) (hn : zs.length ≤ 1048576) (hm : ws.length ≤ 1048576) :
    Calls Try.prog 35 #[.agg #[.int .i64 n, .slice a zs.length cap], .agg #[.int .i64 v, .slice b ws.length capb]] w fun e w' => e = .returned (.bool (meetR n zs v ws)) ∧ Below w.heap.size w w' := by
  have S0 := SR.new w n v a b zs ws cap capb 28 46 hi hj
  clear hi hj
  have HS0 := hide S0
  obtain ⟨⟨_, c0, c1⟩, ⟨_, d0, d1⟩, _⟩ := S0
  by_cases hs : vsB n zs = false
  · have HV := hide hs
    have HN := hide (meetR_no (vrB_no (v := v) (ws := ws) hs))
    clear hs
    go_enter Try.func35, Try.ntmps35
    go_wp2_with fail
    refine (specVSm_was _ _ _ _ false _ HS0.out.2.2.1 hn HV.out).mono ?_
    rintro e w1 ⟨rfl, hb⟩
    go_wp2
    go_ret
    exact ⟨ret_bool HN.out.symm, (HS0.out.below hb).2.2.2.2⟩
  · have hs : vsB n zs = true := by simpa using hs
    have HVS := hide hs
    by_cases hv : ruleB n v ws = false
    · have HV := hide hv
      have HN := hide (meetR_no (by rw [vrB_yes hs]; exact hv))
      clear hs hv
      go_enter Try.func35, Try.ntmps35
      go_wp2_with fail
      refine (specVSm_was _ _ _ _ true _ HS0.out.2.2.1 hn HVS.out).mono ?_
      rintro e w1 ⟨rfl, hb⟩
      have HS1 := hide (HS0.out.below hb)
      clear HS0 hb c0 c1 d0 d1
      have S1 := HS1.out
      obtain ⟨⟨_, c0, c1⟩, ⟨_, d0, d1⟩, _⟩ := S1
      go_wp2_with fail
      refine (specVRm_was _ _ _ _ _ _ _ _ false _ HS1.out.2.2.1 HS1.out.2.2.2.1 hm HV.out).mono ?_
      rintro e w2 ⟨rfl, hb⟩
      go_wp2
      go_ret
      exact ⟨ret_bool HN.out.symm, (HS1.out.below hb).2.2.2.2⟩
    · have hv : ruleB n v ws = true := by simpa using hv
      have HV := hide hv
      have hvr : vrB n zs v ws = true := by rw [vrB_yes hs]; exact hv
      have HN := hide (meetR_yes hvr)
      obtain ⟨hV, hr⟩ := vr_of hvr
      have hn4 := hV.1
      have hrv := hr.1
      have hrl := hr.2.1
      obtain rfl : n = (ws.length : Int) := by omega
      obtain ⟨vN, rfl⟩ : ∃ vN : Nat, v = (vN : Int) := ⟨v.toNat, by omega⟩
      have hN : 1 ≤ ws.length ∧ ws.length ≤ 4 := by omega
      have hvN : 1 ≤ vN ∧ vN ≤ 3 := by omega
      have HR := hide hr.range
      have HZR := hide (valid_range hV)
      obtain ⟨L, hL⟩ : ∃ L, L = critL ws.length zs := ⟨_, rfl⟩
      have HL := hide hL
      have hl81 : L.length ≤ 81 := by
        rw [hL]
        have h1 : (ordL ws.length).length ≤ 81 := by simpa using range5_of ord_len hN.2
        exact Nat.le_trans (List.length_filter_le _ _) h1
      have H16 : Hid (∀ p ∈ L, p.1 < 16 ∧ p.2 < 16) := fun p hp => by
        rw [hL] at hp
        exact ord_16 hN.2 (List.mem_filter.1 hp).1
      have HLL := hide (ofP_len L)
      have FND : Hid (∀ i (hi : i < L.length), noneB (vN : Int) ws L[i] = true → meetR (ws.length : Int) zs (vN : Int) ws = false) := fun i hi h => by
        rw [HN.out, Int.toNat_natCast, ← hL, List.any_eq_true.2 ⟨L[i], List.getElem_mem hi, h⟩]
        rfl
      have ALL : Hid ((∀ i (hi : i < L.length), noneB (vN : Int) ws L[i] = false) → meetR (ws.length : Int) zs (vN : Int) ws = true) := fun h => by
        rw [HN.out, Int.toNat_natCast, ← hL]
        have h1 : L.any (noneB (vN : Int) ws) = false := by
          rw [List.any_eq_false]
          intro x hx
          obtain ⟨i, hi, rfl⟩ := List.getElem_of_mem hx
          rw [h i hi]
          decide
        rw [h1]
        rfl
      clear hs hv hvr hV hr hn4 hrl hL HN
      go_enter Try.func35, Try.ntmps35
      go_wp2_with fail
      refine (specVSm_was _ _ _ _ true _ HS0.out.2.2.1 hn HVS.out).mono ?_
      rintro e w1 ⟨rfl, hb⟩
      have HS1 := hide (HS0.out.below hb)
      clear HS0 hb c0 c1 d0 d1
      have S1 := HS1.out
      obtain ⟨⟨_, c0, c1⟩, ⟨_, d0, d1⟩, _⟩ := S1
      go_wp2_with fail
      refine (specVRm_was _ _ _ _ _ _ _ _ true _ HS1.out.2.2.1 HS1.out.2.2.2.1 hm HV.out).mono ?_
      rintro e w2 ⟨rfl, hb⟩
      have HS2 := hide (HS1.out.below hb)
      clear HS1 hb c0 c1 d0 d1
      have S2 := HS2.out
      obtain ⟨⟨_, c0, c1⟩, _⟩ := S2
      go_wp2_with fail
      refine (critical_any ws.length _ _ _ _ HS2.out.2.2.1 hn hN HZR.out).mono ?_
      rintro e w3 ⟨vp, rfl, own, hb3⟩
      rw [← HL.out] at own
      obtain ⟨va, vc, hve, pin⟩ := own.form
      rw [HLL.out] at hve
      subst hve
      have PIN := hide pin
      have HS3 := hide (HS2.out.below hb3)
      clear HS2 hb3 c0 c1 own pin
      go_wp2_with fail
      go_loopw [6] (fun i wr => ∃ ii : Nat, ii ≤ L.length ∧ i = .int .i64 ii ∧ Hid (∀ i' (hi : i' < L.length), i' < ii → noneB (vN : Int) ws L[i'] = false) ∧ Below w3.heap.size w3 wr) (fun i _ => L.length - (intOf i).toNat)
      case atStart => exact ⟨0, Nat.zero_le _, rfl, fun i' hi h => by omega, Below.refl _ _⟩
      case round =>
        obtain ⟨ii, hii, rfl, hall, hbw⟩ := hrel
        have HSR := hide (HS3.out.below hbw)
        have HBW := hide hbw
        by_cases hlt : ii < L.length
        · obtain ⟨pc, hpc⟩ : ∃ pc, pc = L[ii].1 := ⟨_, rfl⟩
          obtain ⟨pb, hpb⟩ : ∃ pb, pb = L[ii].2 := ⟨_, rfl⟩
          have hm' : L[ii] = (pc, pb) := by rw [hpc, hpb]
          have h16 := H16.out L[ii] (List.getElem_mem hlt)
          rw [hm'] at h16
          obtain ⟨b1, o1, rfl, hb1, hc1⟩ := PIN.out (by rw [HLL.out]; omega)
          obtain ⟨x1, x2⟩ := hc1 ii (by rw [HLL.out]; omega)
          rw [ofP_at hlt, hm'] at x1 x2
          have z1 := (hbw.cell (p := ⟨b1, o1 + ii * 2, none⟩) (World.block_lt_of_cell? _ _ x1)).trans x1
          have z2 := (hbw.cell (p := ⟨b1, o1 + ii * 2 + 1, none⟩) (World.block_lt_of_cell? _ _ x2)).trans x2
          obtain ⟨r, hr⟩ : ∃ r, noneB (vN : Int) ws (pc, pb) = !r := ⟨!noneB (vN : Int) ws (pc, pb), (Bool.not_not _).symm⟩
          have HRR := hide hr
          have FND' : Hid (r = false → meetR (ws.length : Int) zs (vN : Int) ws = false) := fun e => FND.out ii hlt (by rw [hm', hr, e]; rfl)
          have NXT : Hid (r = true → ∀ i' (hi : i' < L.length), i' < ii + 1 → noneB (vN : Int) ws L[i'] = false) := fun e i' hi h1 => by
            rcases Nat.lt_or_ge i' ii with h2 | h2
            · exact hall.out i' hi h2
            · obtain rfl : i' = ii := by omega
              rw [hm', hr, e]
              rfl
          obtain ⟨Q, hQ⟩ : ∃ Q, 2 ^ vN = Q := ⟨_, rfl⟩
          have hQ8 : 1 ≤ Q ∧ Q ≤ 8 := by
            rw [← hQ]
            have : 2 ^ vN ≤ 2 ^ 3 := Nat.pow_le_pow_right (by omega) hvN.2
            have := Nat.two_pow_pos vN
            omega
          have HZ : Hid (IntKind.i64.wrap ((Q : Int) - 1) = ((2 ^ vN - 1 : Nat) : Int)) := by
            unfold Hid
            rw [hQ, IntWalk.i64_in _ (by omega)]
            omega
          have HQ := hide hQ
          have hv8 : vN ≤ 8 := by omega
          have H16m := hide h16
          have SR3 := HSR.out
          obtain ⟨⟨_, c0, c1⟩, ⟨_, d0, d1⟩, _⟩ := SR3
          have ID := hide (HSR.out.2.2.2.1.below (bdrew' (Below.refl _ _)))
          clear x1 x2 hc1 hb1 hpc hpb hm' hbw hall hr hQ h16
          go_wp2_with fail
          go_region_held3 (fun w' => w'.cell? ⟨w.heap.size, 0, none⟩ = some (.int .i64 (ws.length : Int)) ∧ w'.cell? ⟨w.heap.size, 1, none⟩ = some (.slice a zs.length cap) ∧ w'.cell? ⟨w.heap.size + 1, 0, none⟩ = some (.int .i64 (vN : Int)) ∧ w'.cell? ⟨w.heap.size + 1, 1, none⟩ = some (.slice b ws.length capb) ∧ w'.cell? ⟨b1, o1 + ii * 2, none⟩ = some (.int .i64 (pc : Int)) ∧ w'.cell? ⟨b1, o1 + ii * 2 + 1, none⟩ = some (.int .i64 (pb : Int))) (first | go_keep | exact HK5.out)
            ((first
              | (go_at_call 88; (with_reducible refine (power8_int vN Q _ _ rfl hv8 HQ.out).mono ?_); rintro e w' ⟨rfl, rfl⟩)
              | (go_at_call 87; (with_reducible refine (meets_was ws.length zs.length cap vN capb a b ws pc pb r _ _ hvN hN.2 rfl HR.out H16m.out ID.out HZ.out HRR.out).mono ?_); rintro e w5 ⟨rfl, b5⟩; have HK5 := hide (show w5.cell? ⟨w.heap.size, 0, none⟩ = some (.int .i64 (ws.length : Int)) ∧ w5.cell? ⟨w.heap.size, 1, none⟩ = some (.slice a zs.length cap) ∧ w5.cell? ⟨w.heap.size + 1, 0, none⟩ = some (.int .i64 (vN : Int)) ∧ w5.cell? ⟨w.heap.size + 1, 1, none⟩ = some (.slice b ws.length capb) ∧ w5.cell? ⟨b1, o1 + ii * 2, none⟩ = some (.int .i64 (pc : Int)) ∧ w5.cell? ⟨b1, o1 + ii * 2 + 1, none⟩ = some (.int .i64 (pb : Int)) from ⟨(b5.cell (p := ⟨w.heap.size, 0, none⟩) (World.block_lt_of_cell? _ _ (by assumption))).trans (by assumption), (b5.cell (p := ⟨w.heap.size, 1, none⟩) (World.block_lt_of_cell? _ _ (by assumption))).trans (by assumption), (b5.cell (p := ⟨w.heap.size + 1, 0, none⟩) (World.block_lt_of_cell? _ _ (by assumption))).trans (by assumption), (b5.cell (p := ⟨w.heap.size + 1, 1, none⟩) (World.block_lt_of_cell? _ _ (by assumption))).trans (by assumption), (b5.cell (p := ⟨b1, o1 + ii * 2, none⟩) (World.block_lt_of_cell? _ _ (by assumption))).trans (by assumption), (b5.cell (p := ⟨b1, o1 + ii * 2 + 1, none⟩) (World.block_lt_of_cell? _ _ (by assumption))).trans (by assumption)⟩))))
          all_goals
            have B6 := hide (bnext HBW.out (bdrew b5))
            cases r with
            | false =>
              go_wp2_with fail
              go_ret
              exact ⟨ret_bool (FND'.out (by first | rfl | trivial)).symm, bnext HS3.out.2.2.2.2 B6.out⟩
            | true =>
              go_wp2_with fail
              go_roundw
              case rel => exact ⟨ii + 1, by omega, by go_num, NXT.out (by first | rfl | trivial), B6.out⟩
              case measure => simp only [intOf]; omega
        · obtain rfl : ii = L.length := by omega
          go_wp2_with fail
          go_ret
          exact ⟨ret_bool (ALL.out fun i hi => hall.out i hi hi).symm, HSR.out.2.2.2.2⟩
end Go.Proofs.Ytklgganapphioaa
