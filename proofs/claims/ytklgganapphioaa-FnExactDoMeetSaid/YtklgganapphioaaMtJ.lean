/- DoMeet of the program. -/
import Derived.Test.YtklgganapphioaaMtM
namespace Go.Proofs.Ytklgganapphioaa
open Go.RowKit Go.Joins

theorem implVR_was (n v : Int) (a b : Option Addr) (cap capb : Nat) (zs ws : List Int) (r : Bool) (w : World) (hi : Ints w a zs) (hj : Ints w b ws) (hn : zs.length ≤ 1048576) (hm : ws.length ≤ 1048576) (h : vrB n zs v ws = r) :
    Calls Try.prog 58 #[.agg #[.int .i64 n, .slice a zs.length cap], .agg #[.int .i64 v, .slice b ws.length capb]] w fun e w' => e = .returned (.bool r) ∧ Below w.heap.size w w' := by
  subst h
  exact implValidRule_any n v a b cap capb zs ws w hi hj hn hm
set_option maxHeartbeats 4000000 in
set_option maxRecDepth 100000 in
theorem implDoMeet_any (n v : Int) (a b : Option Addr) (cap capb : Nat) (zs ws : List Int) (w : World) (hi : Ints w a zs) (hj : Ints w b ws) (hn : zs.length ≤ 1048576) (hm : ws.length ≤ 1048576) :
    Calls Try.prog 37 #[.agg #[.int .i64 n, .slice a zs.length cap], .agg #[.int .i64 v, .slice b ws.length capb]] w fun e w' => e = .returned (.bool (meetR n zs v ws)) ∧ Below w.heap.size w w' := by
  have S0 := SR.new w n v a b zs ws cap capb 28 46 hi hj
  clear hi hj
  have HS0 := hide S0
  obtain ⟨⟨_, c0, c1⟩, ⟨_, d0, d1⟩, _⟩ := S0
  by_cases hv : vrB n zs v ws = false
  · have HV := hide hv
    have HN := hide (meetR_no hv)
    clear hv
    go_enter Try.func37, Try.ntmps37
    go_wp2_with fail
    refine (implVR_was _ _ _ _ _ _ _ _ _ _ HS0.out.2.2.1 HS0.out.2.2.2.1 hn hm HV.out).mono ?_
    rintro e w1 ⟨rfl, hb⟩
    go_wp2
    go_ret
    exact ⟨ret_bool HN.out.symm, (HS0.out.below hb).2.2.2.2⟩
  · have hv : vrB n zs v ws = true := by simpa using hv
    have HV := hide hv
    have HN := hide (meetR_yes hv)
    obtain ⟨hV, hr⟩ := vr_of hv
    have hn4 := hV.1
    have hrv := hr.1
    have hrl := hr.2.1
    have HR := hide hr.range
    have hw4 : ws.length ≤ 4 := by omega
    obtain ⟨L, hL⟩ : ∃ L, L = critL n.toNat zs := ⟨_, rfl⟩
    have HCR : Hid (crR n zs = ofP L) := by unfold Hid; rw [crR_yes (vsB_true hV), hL]
    have hN4 : n.toNat ≤ 4 := by omega
    have hl81 : L.length ≤ 81 := by
      rw [hL]
      have h1 : (ordL n.toNat).length ≤ 81 := by simpa using range5_of ord_len hN4
      exact Nat.le_trans (List.length_filter_le _ _) h1
    have H16 : Hid (∀ p ∈ L, p.1 < 16 ∧ p.2 < 16) := fun p hp => by
      rw [hL] at hp
      exact ord_16 hN4 (List.mem_filter.1 hp).1
    have HLL := hide (ofP_len L)
    rw [← hL] at HN
    obtain ⟨r, hrr⟩ : ∃ r, L.any (noneB v ws) = r := ⟨_, rfl⟩
    rw [hrr] at HN
    have HRR := hide hrr
    have HRV := hide hrv
    clear hv hV hr hL hrr hn4 hrl
    go_enter Try.func37, Try.ntmps37
    go_wp2_with fail
    refine (implVR_was _ _ _ _ _ _ _ _ _ _ HS0.out.2.2.1 HS0.out.2.2.2.1 hn hm HV.out).mono ?_
    rintro e w1 ⟨rfl, hb⟩
    have HS1 := hide (HS0.out.below hb)
    clear HS0 hb c0 c1 d0 d1
    have S1 := HS1.out
    obtain ⟨⟨_, c0, c1⟩, ⟨_, d0, d1⟩, _⟩ := S1
    go_wp2_with fail
    refine (implCriticalParts_any _ _ _ _ _ HS1.out.2.2.1 hn).mono ?_
    rintro e w2 ⟨vp, rfl, own, hb⟩
    rw [HCR.out] at own
    obtain ⟨va, vc, hve, pin⟩ := own.form
    rw [HLL.out] at hve
    subst hve
    have HS2 := hide (HS1.out.below hb)
    have PIN := hide pin
    clear HS1 hb c0 c1 d0 d1 own pin
    have S2 := HS2.out
    obtain ⟨_, ⟨_, d0, d1⟩, _⟩ := S2
    go_wp2_with fail
    refine (containsFuncM_any v b ws capb _ va vc L r _ PIN.out (by omega) H16.out HRV.out HS2.out.2.2.2.1 hw4 HR.out d0 d1 HRR.out).mono ?_
    rintro e w3 ⟨rfl, hb⟩
    go_wp2
    go_ret
    exact ⟨ret_bool HN.out.symm, (HS2.out.below hb).2.2.2.2⟩
end Go.Proofs.Ytklgganapphioaa
