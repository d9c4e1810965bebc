/- IsMonotone, IsUnanimous, IsNeutral, DictatorOf: in the model and in the program. -/
import Derived.Test.YtbmodiobgkmngaaTabB
namespace Go.Proofs.Ytbmodiobgkmngaa
open Go.RowKit Go.Joins

theorem monoR_no {n v : Int} {zs ws : List Int} (h : vrB n zs v ws = false) : monoR n zs v ws = false := by unfold monoR; rw [h]; rfl
theorem monoR_yes {n v : Int} {zs ws : List Int} (h : vrB n zs v ws = true) : monoR n zs v ws = !ws.any fun x => !holdMono v x := by unfold monoR; rw [h]; rfl
set_option maxHeartbeats 2000000 in
theorem implIsMonotone_any (n v : Int) (a b : Option Addr) (cap capb : Nat) (zs ws : List Int) (w : World) (hi : Ints w a zs) (hj : Ints w b ws) (hn : zs.length ≤ 1048576) (hm : ws.length ≤ 1048576) :
    Calls Try.prog 10 #[.agg #[.int .i64 n, .slice a zs.length cap], .agg #[.int .i64 v, .slice b ws.length capb]] w fun e w' => e = .returned (.bool (monoR n zs v ws)) ∧ Below w.heap.size w w' := by
  have S0 := SR.new w n v a b zs ws cap capb 25 34 hi hj
  clear hi hj
  by_cases hv : vrB n zs v ws = false
  · have HV := hide (monoR_no hv)
    go_enter Try.func10, Try.ntmps10
    go_wp2_with fail
    refine (implValidRule_any _ _ _ _ _ _ _ _ _ S0.2.2.1 S0.2.2.2.1 hn hm).mono ?_
    rintro e w1 ⟨rfl, hb⟩
    go_wp2
    go_ret
    exact ⟨ret_bool HV.out.symm, (S0.below hb).2.2.2.2⟩
  · have hv : vrB n zs v ws = true := by simpa using hv
    have HV := hide (monoR_yes hv)
    have HRO := hide (vr_of hv).2
    go_enter Try.func10, Try.ntmps10
    go_wp2_with fail
    refine (implValidRule_any _ _ _ _ _ _ _ _ _ S0.2.2.1 S0.2.2.2.1 hn hm).mono ?_
    rintro e w1 ⟨rfl, hb⟩
    have S1 := S0.below hb
    have HS := hide S1
    clear S0 hb
    obtain ⟨⟨_, c0, c1⟩, ⟨_, d0, d1⟩, _⟩ := S1
    go_wp2_with fail
    refine (holdsForEachMono_any _ _ _ _ _ HRO.out.1 HRO.out.range HS.out.2.2.2.1 hm).mono ?_
    rintro e w2 ⟨rfl, hb2⟩
    go_wp2
    go_ret
    exact ⟨ret_bool HV.out.symm, (HS.out.below hb2).2.2.2.2⟩
theorem unanR_no {n v : Int} {zs ws : List Int} (h : vrB n zs v ws = false) : unanR n zs v ws = false := by unfold unanR; rw [h]; rfl
theorem unanR_yes {n v : Int} {zs ws : List Int} (h : vrB n zs v ws = true) : unanR n zs v ws = !ws.any fun x => !holdUnan v x := by unfold unanR; rw [h]; rfl
set_option maxHeartbeats 2000000 in
theorem implIsUnanimous_any (n v : Int) (a b : Option Addr) (cap capb : Nat) (zs ws : List Int) (w : World) (hi : Ints w a zs) (hj : Ints w b ws) (hn : zs.length ≤ 1048576) (hm : ws.length ≤ 1048576) :
    Calls Try.prog 11 #[.agg #[.int .i64 n, .slice a zs.length cap], .agg #[.int .i64 v, .slice b ws.length capb]] w fun e w' => e = .returned (.bool (unanR n zs v ws)) ∧ Below w.heap.size w w' := by
  have S0 := SR.new w n v a b zs ws cap capb 25 34 hi hj
  clear hi hj
  by_cases hv : vrB n zs v ws = false
  · have HV := hide (unanR_no hv)
    go_enter Try.func11, Try.ntmps11
    go_wp2_with fail
    refine (implValidRule_any _ _ _ _ _ _ _ _ _ S0.2.2.1 S0.2.2.2.1 hn hm).mono ?_
    rintro e w1 ⟨rfl, hb⟩
    go_wp2
    go_ret
    exact ⟨ret_bool HV.out.symm, (S0.below hb).2.2.2.2⟩
  · have hv : vrB n zs v ws = true := by simpa using hv
    have HV := hide (unanR_yes hv)
    have HRO := hide (vr_of hv).2
    go_enter Try.func11, Try.ntmps11
    go_wp2_with fail
    refine (implValidRule_any _ _ _ _ _ _ _ _ _ S0.2.2.1 S0.2.2.2.1 hn hm).mono ?_
    rintro e w1 ⟨rfl, hb⟩
    have S1 := S0.below hb
    have HS := hide S1
    clear S0 hb
    obtain ⟨⟨_, c0, c1⟩, ⟨_, d0, d1⟩, _⟩ := S1
    go_wp2_with fail
    refine (holdsForEachUnan_any _ _ _ _ _ HRO.out.1 HRO.out.range HS.out.2.2.2.1 hm).mono ?_
    rintro e w2 ⟨rfl, hb2⟩
    go_wp2
    go_ret
    exact ⟨ret_bool HV.out.symm, (HS.out.below hb2).2.2.2.2⟩
theorem dictR_no {n v : Int} {zs ws : List Int} (h : vrB n zs v ws = false) : dictR n zs v ws = -1 := by unfold dictR; rw [if_neg (by rw [h]; simp)]
theorem dictR_yes {n v : Int} {zs ws : List Int} (h : vrB n zs v ws = true) : dictR n zs v ws = firstI v (isD v ws) := if_pos h
set_option maxHeartbeats 4000000 in
theorem implDictatorOf_any (n v : Int) (a b : Option Addr) (cap capb : Nat) (zs ws : List Int) (w : World) (hi : Ints w a zs) (hj : Ints w b ws) (hn : zs.length ≤ 1048576) (hm : ws.length ≤ 1048576) :
    Calls Try.prog 13 #[.agg #[.int .i64 n, .slice a zs.length cap], .agg #[.int .i64 v, .slice b ws.length capb]] w fun e w' => e = .returned (.int .i64 (dictR n zs v ws)) ∧ Below w.heap.size w w' := by
  have S0 := SR.new w n v a b zs ws cap capb 25 34 hi hj
  clear hi hj
  by_cases hv : vrB n zs v ws = false
  · have HV := hide (dictR_no hv)
    go_enter Try.func13, Try.ntmps13
    go_wp2_with fail
    refine (implValidRule_any _ _ _ _ _ _ _ _ _ S0.2.2.1 S0.2.2.2.1 hn hm).mono ?_
    rintro e w1 ⟨rfl, hb⟩
    go_wp2
    go_ret
    exact ⟨ret_int HV.out.symm, (S0.below hb).2.2.2.2⟩
  · have hv : vrB n zs v ws = true := by simpa using hv
    have HV := hide (dictR_yes hv)
    have HRO := hide (vr_of hv).2
    have hv1 := HRO.out.1.1
    have hv3 := HRO.out.1.2
    go_enter Try.func13, Try.ntmps13
    go_wp2_with fail
    refine (implValidRule_any _ _ _ _ _ _ _ _ _ S0.2.2.1 S0.2.2.2.1 hn hm).mono ?_
    rintro e w1 ⟨rfl, hb⟩
    have S1 := S0.below hb
    have HS := hide S1
    clear S0 hb
    obtain ⟨⟨_, c0, c1⟩, ⟨_, d0, d1⟩, _⟩ := S1
    go_wp2_with fail
    clear c0 c1 d0 d1
    go_loopw [13] (fun s wr => ∃ i : Nat, (i : Int) ≤ v ∧ s = .int .i64 i ∧ (∀ i', i' < i → isD v ws i' = false) ∧ SR w n a zs cap v b ws capb wr) (fun s _ => 3 - (intOf s).toNat)
    case atStart => exact ⟨0, by omega, rfl, fun i hi => by omega, HS.out⟩
    case round =>
      clear HS
      obtain ⟨i, hi, rfl, hall, S2⟩ := hrel
      have HA := hide hall
      have HS2 := hide S2
      clear hall
      obtain ⟨_, ⟨_, d0, d1⟩, _⟩ := S2
      by_cases hil : (i : Int) < v
      · go_wp2_with fail
        refine (groupsWith_any _ _ _ HRO.out.1 (by omega)).mono ?_
        rintro e w2 ⟨rfl, hb2⟩
        have B3 := bel1 w2 (.cells #[Value.bool (upT v (memF i) 0), Value.bool (upT v (memF i) 1), Value.bool (upT v (memF i) 2), Value.bool (upT v (memF i) 3), Value.bool (upT v (memF i) 4), Value.bool (upT v (memF i) 5), Value.bool (upT v (memF i) 6), Value.bool (upT v (memF i) 7)] 61)
        have S3 := (HS2.out.below hb2).below B3
        have T3 := Tab.new w2 (upT v (memF i)) 61
        have HS3 := hide S3
        have HT3 := hide T3
        clear B3 T3 d0 d1 HS2 hb2
        obtain ⟨_, ⟨_, d0, d1⟩, _⟩ := S3
        go_wp2_with fail
        refine (holdsForEachDict_any _ _ _ _ _ _ _ HRO.out.1 HRO.out.range HS3.out.2.2.2.1 hm HT3.out).mono ?_
        rintro e w4 ⟨rfl, hb4⟩
        have HS4 := hide (HS3.out.below hb4)
        clear hb4 HS3 HT3 d0 d1
        have HD : Hid (isD v ws i = !ws.any fun x => !holdDict v (upT v (memF i)) x) := rfl
        cases hd : (!ws.any fun x => !holdDict v (upT v (memF i)) x)
        · have HN : Hid (isD v ws i = false) := HD.out.trans hd
          go_wp2
          go_roundw
          case rel => exact ⟨i + 1, by omega, by go_num, fun i' hi' => by
            rcases Nat.lt_or_ge i' i with h | h
            · exact HA.out i' h
            · obtain rfl : i' = i := by omega
              exact HN.out, HS4.out⟩
          case measure => simp only [intOf]; omega
        · have HN : Hid (isD v ws i = true) := HD.out.trans hd
          go_wp2
          go_ret
          exact ⟨ret_int (by rw [HV.out, firstI_at hv3 hil HN.out HA.out]), HS4.out.2.2.2.2⟩
      · go_wp2
        go_ret
        exact ⟨ret_int (by rw [HV.out, firstI_none (fun i' hi' => HA.out i' (by omega))]), HS2.out.2.2.2.2⟩
end Go.Proofs.Ytbmodiobgkmngaa
