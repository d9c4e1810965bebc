/- The law of IsMedian answers true at every code: median spaces have small critical parts; its walk. -/
import Derived.Test.YtklgganapphioaaCrL
import Derived.Test.YtklgganapphioaaDrawC
namespace Go.Proofs.Ytklgganapphioaa
open Go.RowKit Go.Joins

/-- whether the first k of some parts answer at most two issues -/
def smB (L : List (Nat × Nat)) (k : Nat) : Bool := (L.take k).all fun m => decide (wt m.1 ≤ 2)
theorem specMed_was (n : Int) (a : Option Addr) (cap : Nat) (zs : List Int) (w : World) (r : Bool) (hi : Ints w a zs) (hn : zs.length ≤ 1048576) (hr : closedB med n zs = r) :
    Calls Try.prog 50 #[.agg #[.int .i64 n, .slice a zs.length cap]] w fun e w' => e = .returned (.bool r) ∧ Below w.heap.size w w' := by
  subst hr
  exact specIsMedian_any n a cap zs w hi hn
theorem smB_step {L : List (Nat × Nat)} {k : Nat} (hk : k < L.length) : smB L (k + 1) = (smB L k && decide (wt L[k].1 ≤ 2)) := by
  unfold smB
  rw [List.take_add_one, List.getElem?_eq_getElem hk, List.all_append]
  simp
set_option maxHeartbeats 4000000 in
set_option maxRecDepth 100000 in
theorem walk_FnIsMedian (a : Option Addr) (zs : List Nat) (cap : Nat) (w : World) (hi : Byts w a zs) (hl : zs.length ≤ maxLen) (hc : zs.length ≤ cap) :
    Calls Try.prog 10 #[.slice a zs.length cap] w fun e w' => e = .returned (.bool true) ∧ Below w.heap.size w w' := by
  by_cases h : 1048576 < zs.length
  · unfold maxLen at hl
    go_enter Try.func10, Try.ntmps10
    go_wp2
    go_ret
    exact ⟨rfl, Below.refl _ _⟩
  · have hl' : zs.length ≤ 1048576 := by omega
    clear h hl
    go_enter Try.func10, Try.ntmps10
    go_wp2_with fail
    refine (drawIsMedian_any _ _ _ _ hi hl' hc).mono ?_
    rintro e w1 ⟨m, av, ss, cv, rfl, iv, hsl, hcv, hb⟩
    have S0 := SV.new w1 m av ss cv none [] 28 iv (Ints.nil _ _)
    have HB := hide hb
    have hn : ss.length ≤ 1048576 := by omega
    have HCV := hide hcv
    clear hb hi iv hl' hsl hcv
    obtain ⟨⟨_, c0, c1⟩, _⟩ := S0.pair
    obtain ⟨r, hr⟩ : ∃ r, closedB med m ss = r := ⟨_, rfl⟩
    have HR := hide hr
    have hne : (r != r) = false := by simp
    clear hr
    go_wp2_with fail
    refine (implMed_was _ _ _ _ _ r S0.2.1 hn HCV.out HR.out).mono ?_
    rintro e w2 ⟨rfl, b2⟩
    have S2 := S0.below b2
    clear c0 c1 S0 b2
    obtain ⟨⟨_, c0, c1⟩, _⟩ := S2.pair
    go_wp2_with fail
    refine (specMed_was _ _ _ _ _ r S2.2.1 hn HR.out).mono ?_
    rintro e w3 ⟨rfl, b3⟩
    have S3 := S2.below b3
    clear c0 c1 S2 b3
    obtain ⟨⟨_, c0, c1⟩, _⟩ := S3.pair
    by_cases hv : vsB m ss = false
    · have HV := hide hv
      clear hv
      go_wp2_with fail
      refine (implValid_was _ _ _ _ _ false S3.2.1 hn HV.out).mono ?_
      rintro e w4 ⟨rfl, b4⟩
      have S4 := S3.below b4
      clear c0 c1 S3 b4
      obtain ⟨⟨_, c0, c1⟩, _⟩ := S4.pair
      go_wp2_with fail
      refine (specMed_was _ _ _ _ _ r S4.2.1 hn HR.out).mono ?_
      rintro e w5 ⟨rfl, b5⟩
      go_wp2
      go_ret
      exact ⟨ret_bool (by simp), bnext HB.out (S4.below b5).2.2.2⟩
    · have hv : vsB m ss = true := by simpa using hv
      have HV := hide hv
      have hV := valid_of hv
      have hN4 := hV.1
      obtain ⟨N, rfl⟩ : ∃ N : Nat, m = (N : Int) := ⟨m.toNat, by omega⟩
      have hms := median_small hV
      rw [HR.out] at hms
      obtain ⟨L, hL⟩ : ∃ L, L = critL N ss := ⟨_, rfl⟩
      rw [← hL] at hms
      have HC : Hid (crR (N : Int) ss = ofP L) := by unfold Hid; rw [crR_yes hv, Int.toNat_natCast, hL]
      have H16 : Hid (∀ p ∈ L, p.1 < 16 ∧ p.2 < 16) := fun p hp => by
        rw [hL] at hp
        exact ord_16 (by omega) (crit_mem.1 hp).1
      have HMS := hide hms
      have HLL := hide (ofP_len L)
      have hl81 : (ofP L).length ≤ 81 := by have := crR_81 (N : Int) ss; rw [HC.out] at this; exact this
      clear hv hV hN4 hms hL
      go_wp2_with fail
      refine (implValid_was _ _ _ _ _ true S3.2.1 hn HV.out).mono ?_
      rintro e w4 ⟨rfl, b4⟩
      have S4 := S3.below b4
      clear c0 c1 S3 b4
      obtain ⟨⟨_, c0, c1⟩, _⟩ := S4.pair
      go_wp2_with fail
      refine (implCrit_was _ _ _ _ _ _ S4.2.1 hn HC.out).mono ?_
      rintro e w5 ⟨v, rfl, ov, b5⟩
      obtain ⟨va, vc, rfl, pv⟩ := ov.form
      have B5 := hide (bnext HB.out (S4.below b5).2.2.2)
      clear c0 c1 S4 b5 ov
      go_wp2_with fail
      go_loop [6, 7] (fun u i => ∃ k : Nat, k ≤ (ofP L).length ∧ i = .int .i64 k ∧ u = .bool (smB L k)) (fun _ i => (ofP L).length - (intOf i).toNat)
      case atStart => exact ⟨0, Nat.zero_le _, rfl, rfl⟩
      case round =>
        obtain ⟨k, hk, rfl, rfl⟩ := hrel
        by_cases hlt : k < (ofP L).length
        · have hlt' : k < L.length := by rw [← HLL.out]; exact hlt
          obtain ⟨bb, off, rfl, hbl, hcc⟩ := pv (by omega)
          obtain ⟨h1, _⟩ := hcc k hlt
          rw [ofP_at hlt'] at h1
          have h16 := H16.out _ (List.getElem_mem hlt')
          have hst := smB_step hlt'
          obtain ⟨pc, hpc⟩ : ∃ pc, pc = L[k].1 := ⟨_, rfl⟩
          rw [← hpc] at h16 hst
          simp only [← hpc] at h1
          obtain ⟨q, hq⟩ : ∃ q, wt pc = q := ⟨_, rfl⟩
          rw [hq] at hst
          have HQ := hide hq
          have h16' := h16.1
          obtain ⟨sm, hsm⟩ : ∃ sm, sm = smB L k := ⟨_, rfl⟩
          have HSM := hide hsm
          rw [← hsm] at hst ⊢
          clear hcc hpc hq h16 hsm
          by_cases h2 : q ≤ 2
          · have hd : decide ((q : Int) ≤ 2) = true := by simpa using (by omega : (q : Int) ≤ 2)
            rw [decide_eq_true h2] at hst
            have HST := hide hst
            clear hst
            cases sm
            · go_wp2_with (go_at_call 51; refine (lawWeight_was _ q _ h16' HQ.out).mono ?_; rintro e w' ⟨rfl, rfl⟩)
              go_round
              case rel => exact ⟨k + 1, by omega, by go_num, by rw [HST.out]; rfl⟩
              case measure => simp only [intOf]; omega
            · go_wp2_with (go_at_call 51; refine (lawWeight_was _ q _ h16' HQ.out).mono ?_; rintro e w' ⟨rfl, rfl⟩)
              go_round
              case rel => exact ⟨k + 1, by omega, by go_num, by rw [HST.out]; rfl⟩
              case measure => simp only [intOf]; omega
          · have hd : decide ((q : Int) ≤ 2) = false := by simpa using (by omega : 2 < (q : Int))
            rw [decide_eq_false h2] at hst
            have HST := hide hst
            clear hst
            cases sm
            · go_wp2_with (go_at_call 51; refine (lawWeight_was _ q _ h16' HQ.out).mono ?_; rintro e w' ⟨rfl, rfl⟩)
              go_round
              case rel => exact ⟨k + 1, by omega, by go_num, by rw [HST.out]; rfl⟩
              case measure => simp only [intOf]; omega
            · go_wp2_with (go_at_call 51; refine (lawWeight_was _ q _ h16' HQ.out).mono ?_; rintro e w' ⟨rfl, rfl⟩)
              go_round
              case rel => exact ⟨k + 1, by omega, by go_num, by rw [HST.out]; rfl⟩
              case measure => simp only [intOf]; omega
        · obtain rfl : k = (ofP L).length := by omega
          have e : smB L (ofP L).length = r := by
            unfold smB
            rw [HLL.out, List.take_length]
            exact HMS.out.symm
          rw [e]
          have heq : (r == r) = true := by simp
          go_wp2
          go_ret
          exact ⟨rfl, B5.out⟩
end Go.Proofs.Ytklgganapphioaa
