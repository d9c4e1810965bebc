/- The law of IsOpen answers true at every code: what is not open has a critical part; its draw; its walk. -/
import Derived.Test.YtklgganapphioaaCrL
import Derived.Test.YtklgganapphioaaDrawV
import Derived.Test.YtklgganapphioaaOpenS
import Derived.Deep.QuietTactic
import Derived.BigQuiet
namespace Go.Proofs.Ytklgganapphioaa
open Go.RowKit Go.Joins

set_option maxHeartbeats 4000000 in
set_option maxRecDepth 100000 in
theorem drawIsOpen_any (a : Option Addr) (cap : Nat) (zs : List Nat) (w : World) (hi : Byts w a zs) (hl : zs.length ≤ 1048576) (hc : zs.length ≤ cap) :
    Calls Try.prog 39 #[.slice a zs.length cap] w (DrawSPPost w) := by
  have b0 := bel2 w (.cells #[.int .i64 0, .slice none 0 0] 28) (.cells #[.int .i64 0, .int .i64 0] 52)
  have h0 := ((bel1 (w.alloc (.cells #[.int .i64 0, .slice none 0 0] 28)) (.cells #[.int .i64 0, .int .i64 0] 52)).block w.heap.size (by simp)).trans (heap_alloc_new w (.cells #[.int .i64 0, .slice none 0 0] 28))
  have k0 := heap_alloc_new (w.alloc (.cells #[.int .i64 0, .slice none 0 0] 28)) (.cells #[.int .i64 0, .int .i64 0] 52)
  simp only [World.size_alloc] at k0
  have hi0 := hi.below b0
  have H0 := hide h0
  have K0 := hide k0
  have HB0 := hide b0
  clear hi h0 b0 k0
  go_enter Try.func39, Try.ntmps39
  go_wp2_with fail
  refine (drawValidPart_any _ _ _ _ hi0 hl hc).mono ?_
  rintro e w1 ⟨m, av, ss, cv, c, b, rfl, ii, hsl, hbb, hb, hf⟩
  have s1 := (hb.block w.heap.size (by simp; omega)).trans H0.out
  have t1 := (hb.block (w.heap.size + 1) (by simp)).trans K0.out
  have c0 := cell_of_block s1 0
  have c1 := cell_of_block s1 1
  have d0 := cell_of_block t1 0
  have d1 := cell_of_block t1 1
  have f0 := unfrozen_of_block s1 0
  have f1 := unfrozen_of_block s1 1
  have g0 := unfrozen_of_block t1 0
  have g1 := unfrozen_of_block t1 1
  have S1 := hide s1
  have T1 := hide t1
  have HB := hide (bnext HB0.out hb)
  have HI := hide ii
  have HF := hide hf
  have HX := hide (show ss.length ≤ 65 ∧ (-1 ≤ b ∧ b ≤ 16) from ⟨hsl, hbb⟩)
  clear s1 t1 hb ii hf hi0 hsl hbb
  go_wp2_with fail
  refine bodyPost_ret (ret_both rfl _ _ _ _ _ _ _ _ rfl rfl ((Below.heap_setCell _ _ _ _ (by show w.heap.size ≠ w.heap.size + 1; omega)).trans ((Below.heap_setCell _ _ _ _ (by show w.heap.size ≠ w.heap.size + 1; omega)).trans (block_setCell (i := 1) (block_setCell (i := 0) S1.out _) _))) (block_setCell (i := 1) (block_setCell (i := 0) ((Below.heap_setCell _ _ _ _ (by show w.heap.size + 1 ≠ w.heap.size; omega)).trans ((Below.heap_setCell _ _ _ _ (by show w.heap.size + 1 ≠ w.heap.size; omega)).trans T1.out)) _) _)) rfl ?_
  refine ⟨m, av, ss, cv, c, b, rfl, ?_, HX.out.1, HX.out.2, ?_, fun g o s e => ?_⟩
  · have hne : ∀ (k : Nat), k < w.heap.size + 2 → ∀ g o s, av = some ⟨g, o, s⟩ → some k ≠ some g := fun k hk g o s e e' => by
      have := HF.out g o s e
      simp at this e'
      omega
    exact ((((HI.out.other (gset w1 _ 0 _) (hne _ (by omega))).other (gset _ _ 1 _) (hne _ (by omega))).other (gset _ _ 0 _) (hne _ (by omega))).other (gset _ _ 1 _) (hne _ (by omega)))
  · exact ((((HB.out.setCell (p := ⟨w.heap.size, 0, none⟩) (Nat.le_refl _) _).setCell (p := ⟨w.heap.size, 1, none⟩) (Nat.le_refl _) _).setCell (p := ⟨w.heap.size + 1, 0, none⟩) (by show w.heap.size ≤ w.heap.size + 1; omega) _).setCell (p := ⟨w.heap.size + 1, 1, none⟩) (by show w.heap.size ≤ w.heap.size + 1; omega) _)
  · have := HF.out g o s e
    simp at this
    omega
/-- whether one of the first k parts lies in p -/
def badB (L : List (Nat × Nat)) (p : Nat × Nat) (k : Nat) : Bool := (L.take k).any fun m => subP m p
theorem badB_step {L : List (Nat × Nat)} {p : Nat × Nat} {k : Nat} (hk : k < L.length) : badB L p (k + 1) = (badB L p k || subP L[k] p) := by
  unfold badB
  rw [List.take_add_one, List.getElem?_eq_getElem hk, List.any_append]
  simp
theorem implIsOpen_was (n : Int) (a : Option Addr) (cap : Nat) (zs : List Int) (c b : Int) (w : World) (r : Bool) (hi : Ints w a zs) (hn : zs.length ≤ 1048576) (wb : (Lit.int .i64 b).wf = true) (hr : opB n zs c b = r) :
    Calls Try.prog 40 #[.agg #[.int .i64 n, .slice a zs.length cap], .agg #[.int .i64 c, .int .i64 b]] w fun e w' => e = .returned (.bool r) ∧ Below w.heap.size w w' := by
  subst hr
  exact implIsOpen_any n a cap zs c b w hi hn wb
theorem specIsOpen_was (n : Int) (a : Option Addr) (cap : Nat) (zs : List Int) (c b : Int) (w : World) (r : Bool) (hi : Ints w a zs) (hn : zs.length ≤ 1048576) (hr : opB n zs c b = r) :
    Calls Try.prog 41 #[.agg #[.int .i64 n, .slice a zs.length cap], .agg #[.int .i64 c, .int .i64 b]] w fun e w' => e = .returned (.bool r) ∧ Below w.heap.size w w' := by
  subst hr
  exact specIsOpen_any n a cap zs c b w hi hn
set_option maxHeartbeats 4000000 in
set_option maxRecDepth 100000 in
theorem walk_FnIsOpen (a : Option Addr) (zs : List Nat) (cap : Nat) (w : World) (hi : Byts w a zs) (hl : zs.length ≤ maxLen) (hc : zs.length ≤ cap) :
    Calls Try.prog 8 #[.slice a zs.length cap] w fun e w' => e = .returned (.bool true) ∧ Below w.heap.size w w' := by
  by_cases h : 1048576 < zs.length
  · unfold maxLen at hl
    go_enter Try.func8, Try.ntmps8
    go_wp2
    go_ret
    exact ⟨rfl, Below.refl _ _⟩
  · have hl' : zs.length ≤ 1048576 := by omega
    clear h hl
    go_enter Try.func8, Try.ntmps8
    go_wp2_with fail
    refine (drawIsOpen_any _ _ _ _ hi hl' hc).mono ?_
    rintro e w1 ⟨m, av, ss, cv, c, b, rfl, ii, hsl, hbb, hb, _⟩
    have S0 := (SV.new w1 m av ss cv none [] 28 ii (Ints.nil _ _)).below (bel1 _ (.cells #[.int .i64 c, .int .i64 b] 52))
    have P0 := PBox.new (w1.alloc (.cells #[.int .i64 m, .slice av ss.length cv] 28)) c b 52
    simp only [World.size_alloc] at P0
    have HB := hide hb
    have wb := hide (WalkArith.wf_i64 (n := b) ⟨by omega, by omega⟩)
    have hn : ss.length ≤ 1048576 := by omega
    obtain ⟨r, hr⟩ : ∃ r, opB m ss c b = r := ⟨_, rfl⟩
    have HR := hide hr
    have hne : (r != r) = false := by simp
    clear hb hi ii hl' hsl hbb hr
    obtain ⟨⟨_, c0, c1⟩, _⟩ := S0.pair
    have ⟨_, p0, p1⟩ := P0
    go_wp2_with fail
    refine (implIsOpen_was _ _ _ _ _ _ _ r S0.2.1 hn wb.out HR.out).mono ?_
    rintro e w2 ⟨rfl, b2⟩
    have S2 := S0.below b2
    have P2 := P0.below b2
    clear c0 c1 p0 p1 S0 P0 b2
    obtain ⟨⟨_, c0, c1⟩, _⟩ := S2.pair
    have ⟨_, p0, p1⟩ := P2
    go_wp2_with fail
    refine (specIsOpen_was _ _ _ _ _ _ _ r S2.2.1 hn HR.out).mono ?_
    rintro e w3 ⟨rfl, b3⟩
    have S3 := S2.below b3
    have P3 := P2.below b3
    clear c0 c1 p0 p1 S2 P2 b3
    obtain ⟨⟨_, c0, c1⟩, _⟩ := S3.pair
    have ⟨_, p0, p1⟩ := P3
    by_cases hv : vpB m ss c b = false
    · have HV := hide hv
      clear hv
      go_wp2_with fail
      refine (implValidPart_is _ _ _ _ _ _ _ false S3.2.1 hn wb.out HV.out).mono ?_
      rintro e w4 ⟨rfl, b4⟩
      have S4 := S3.below b4
      have P4 := P3.below b4
      clear c0 c1 p0 p1 S3 P3 b4
      obtain ⟨⟨_, c0, c1⟩, _⟩ := S4.pair
      have ⟨_, p0, p1⟩ := P4
      go_wp2_with fail
      refine (specIsOpen_was _ _ _ _ _ _ _ r S4.2.1 hn HR.out).mono ?_
      rintro e w5 ⟨rfl, b5⟩
      have S5 := S4.below b5
      go_wp2
      go_ret
      exact ⟨ret_bool (by simp), bnext HB.out S5.2.2.2⟩
    · have hv : vpB m ss c b = true := by simpa using hv
      have HV := hide hv
      obtain ⟨hV, hP⟩ := vp_of hv
      have hvs := vsB_true hV
      have hN4 := hV.1
      have hO := opB_true hv
      rw [HR.out] at hO
      obtain ⟨N, rfl⟩ : ∃ N : Nat, m = (N : Int) := ⟨m.toNat, by omega⟩
      obtain ⟨pc, rfl⟩ := Int.eq_ofNat_of_zero_le hP.1.1
      obtain ⟨pb, rfl⟩ := Int.eq_ofNat_of_zero_le hP.2.1.1
      have h15 := pt_16 hN4.2 hP
      have hpN : pw (N : Int) = ((2 ^ N : Nat) : Int) := by unfold pw; rw [Int.toNat_natCast]
      have hpm : (pc, pb) ∈ ordL N := ord_mem (by omega) (by have := hP.1.2; omega) (by have := hP.2.2; simpa using this)
      have hcr := opn_crit (by omega) ss hpm
      have ho2 : opn ss (pc, pb) = r := hO.symm
      rw [ho2] at hcr
      obtain ⟨L, hL⟩ : ∃ L, L = critL N ss := ⟨_, rfl⟩
      rw [← hL] at hcr
      have HC : Hid (crR (N : Int) ss = ofP L) := by unfold Hid; rw [crR_yes hvs, Int.toNat_natCast, hL]
      have H16 : Hid (∀ p ∈ L, p.1 < 16 ∧ p.2 < 16) := fun p hp => by
        rw [hL] at hp
        exact ord_16 (by omega) (crit_mem.1 hp).1
      have HCR := hide hcr
      have HLL := hide (ofP_len L)
      have hl81 : (ofP L).length ≤ 81 := by have := crR_81 (N : Int) ss; rw [HC.out] at this; exact this
      have hpc16 : pc < 16 := by omega
      have hpb16 : pb < 16 := by omega
      clear hv hV hN4 hL hcr hpm ho2 hO hP h15 hpN hvs
      go_wp2_with fail
      refine (implValidPart_is _ _ _ _ _ _ _ true S3.2.1 hn wb.out HV.out).mono ?_
      rintro e w4 ⟨rfl, b4⟩
      have S4 := S3.below b4
      have P4 := P3.below b4
      clear c0 c1 p0 p1 S3 P3 b4
      obtain ⟨⟨_, c0, c1⟩, _⟩ := S4.pair
      go_wp2_with fail
      refine (implCrit_was _ _ _ _ _ _ S4.2.1 hn HC.out).mono ?_
      rintro e w5 ⟨v, rfl, ov, b5⟩
      obtain ⟨va, vc, rfl, pv⟩ := ov.form
      have B5 := hide (bnext HB.out (S4.below b5).2.2.2)
      have P5 := P4.below b5
      clear c0 c1 S4 b5 ov P4
      go_wp2_with fail
      go_loopw [7, 8] (fun u i wq => ∃ k : Nat, k ≤ (ofP L).length ∧ i = .int .i64 k ∧ u = .bool (badB L (pc, pb) k) ∧ Below w5.heap.size w5 wq) (fun _ i _ => (ofP L).length - (intOf i).toNat)
      case atStart => exact ⟨0, Nat.zero_le _, rfl, rfl, Below.refl _ _⟩
      case round =>
        obtain ⟨k, hk, rfl, rfl, hbq⟩ := hrel
        have HBQ := hide hbq
        by_cases hlt : k < (ofP L).length
        · have hlt' : k < L.length := by rw [← HLL.out]; exact hlt
          obtain ⟨bb, off, rfl, hbl, hcc⟩ := (pv.below hbq) (by omega)
          obtain ⟨h1, h2⟩ := hcc k hlt
          rw [ofP_at hlt'] at h1 h2
          have h16 := H16.out _ (List.getElem_mem hlt')
          have hst := badB_step (p := (pc, pb)) hlt'
          obtain ⟨mc, hmc⟩ : ∃ mc, mc = L[k].1 := ⟨_, rfl⟩
          obtain ⟨mb, hmb⟩ : ∃ mb, mb = L[k].2 := ⟨_, rfl⟩
          have hmm : subP L[k] (pc, pb) = ((mc &&& pc == mc) && (pb &&& mc == mb)) := by unfold subP; rw [hmc, hmb]
          rw [hmm] at hst
          rw [← hmc, ← hmb] at h16
          simp only [← hmc] at h1
          simp only [← hmb] at h2
          have ⟨_, p0, p1⟩ := P5.below hbq
          have e1 : bits .and .i64 (mc : Int) (pc : Int) = ((mc &&& pc : Nat) : Int) := and_small mc pc h16.1 hpc16
          have e2 : bits .and .i64 (pb : Int) (mc : Int) = ((pb &&& mc : Nat) : Int) := and_small pb mc hpb16 h16.1
          have E1 : (bits .and .i64 (mc : Int) (pc : Int) == (mc : Int)) = (mc &&& pc == mc) := by rw [e1, Bool.eq_iff_iff, beq_iff_eq, beq_iff_eq]; omega
          have E2 : (bits .and .i64 (pb : Int) (mc : Int) == (mb : Int)) = (pb &&& mc == mb) := by rw [e2, Bool.eq_iff_iff, beq_iff_eq, beq_iff_eq]; omega
          obtain ⟨sm, hsm⟩ : ∃ sm, sm = badB L (pc, pb) k := ⟨_, rfl⟩
          have HSM := hide hsm
          rw [← hsm] at hst ⊢
          clear hcc hmc hmb hmm h16 hsm e1 e2 hbq
          cases hx : (mc &&& pc == mc) <;> cases hy : (pb &&& mc == mb)
          all_goals
            rw [hx] at E1 hst
            rw [hy] at E2 hst
            have HST := hide hst
            clear hx hy hst
            cases sm
            · go_wp2
              go_quiet (fail)
              go_wp2
              go_roundw
              case rel => exact ⟨k + 1, by omega, by go_num, by rw [HST.out]; rfl, bnext HBQ.out (belN _ _)⟩
              case measure => simp only [intOf]; omega
            · go_wp2
              go_quiet (fail)
              go_wp2
              go_roundw
              case rel => exact ⟨k + 1, by omega, by go_num, by rw [HST.out]; rfl, bnext HBQ.out (belN _ _)⟩
              case measure => simp only [intOf]; omega
        · obtain rfl : k = (ofP L).length := by omega
          have e : badB L (pc, pb) (ofP L).length = !r := by
            unfold badB
            rw [HLL.out, List.take_length, HCR.out, Bool.not_not]
          rw [e]
          clear hbq
          cases r
          · go_wp2
            go_ret
            exact ⟨ret_bool (by simp), bnext B5.out HBQ.out⟩
          · go_wp2
            go_ret
            exact ⟨ret_bool (by simp), bnext B5.out HBQ.out⟩
end Go.Proofs.Ytklgganapphioaa
