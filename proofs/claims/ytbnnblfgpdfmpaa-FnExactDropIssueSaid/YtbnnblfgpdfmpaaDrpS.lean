/- DropIssue of the model. -/
import Derived.Test.YtbnnblfgpdfmpaaFlpS
import Derived.Deep.RegionHeld3
import Derived.Deep.RegionWith
namespace Go.Proofs.Ytbnnblfgpdfmpaa
open Go.RowKit Go.Joins

set_option maxHeartbeats 2000000 in
set_option maxRecDepth 100000 in
theorem specDropIssue_any (n j : Int) (a : Option Addr) (cap : Nat) (zs : List Int) (w : World) (hi : Ints w a zs) (hn : zs.length ≤ 1048576) :
    Calls Try.prog 18 #[.agg #[.int .i64 n, .slice a zs.length cap], .int .i64 j] w (GivesX (dpN n zs j) (dpL n zs j) (dpB n zs j) w) := by
  obtain ⟨i0, hi0, hz0, hz1, hz2⟩ := info_parts info_int
  have S0 := (SV.new w n a zs cap none [] 26 hi (Ints.nil _ _)).below (bel1 _ (.cells #[.int .i64 0, .slice none 0 0] 26))
  have hres := heap_alloc_new (w.alloc (.cells #[.int .i64 n, .slice a zs.length cap] 26)) (.cells #[.int .i64 0, .slice none 0 0] 26)
  simp only [World.size_alloc] at hres
  have HRES := hide hres
  have HS0 := hide S0
  obtain ⟨⟨_, c0, c1⟩, _⟩ := S0.pair
  clear hi hres S0
  by_cases hs : vsB n zs = false
  · have HH := hide (show dpB n zs j = false by unfold dpB hiB; rw [hs]; rfl)
    have HV := hide hs
    clear hs
    go_enter Try.func18, Try.ntmps18
    go_wp2_with fail
    refine (specVSf_was _ _ _ _ false _ HS0.out.2.1 hn HV.out).mono ?_
    rintro e w1 ⟨rfl, hb⟩
    have hr1 := (hb.block _ (lt_of_block HRES.out)).trans HRES.out
    have f0 := unfrozen_of_block hr1 0
    have f1 := unfrozen_of_block hr1 1
    have r0 := cell_of_block hr1 0
    have r1 := cell_of_block hr1 1
    have HR1 := hide hr1
    have HB := hide (HS0.out.below hb).2.2.2
    clear hr1 hb HS0 HRES c0 c1
    go_wp2
    refine bodyPost_ret (ret_cross rfl _ _ _ _ _ rfl (block_setCell (i := 1) (block_setCell (i := 0) HR1.out _) _)) rfl ?_
    exact givesX_noS (by unfold dpN; rw [if_neg (by rw [HH.out]; decide)]) (by unfold dpL; rw [if_neg (by rw [HH.out]; decide)]) HH.out ((HB.out.setCell (p := ⟨w.heap.size + 1, 0, none⟩) (by show w.heap.size ≤ w.heap.size + 1; omega) _).setCell (p := ⟨w.heap.size + 1, 1, none⟩) (by show w.heap.size ≤ w.heap.size + 1; omega) _)
  · have hs : vsB n zs = true := by simpa using hs
    have HVS := hide hs
    have hV := valid_of hs
    have hn4 := hV.1
    by_cases h2 : n < 2
    · have HH := hide (show dpB n zs j = false by unfold dpB; rw [decide_eq_false (by omega), Bool.and_false])
      clear hs hV
      go_enter Try.func18, Try.ntmps18
      go_wp2_with fail
      refine (specVSf_was _ _ _ _ true _ HS0.out.2.1 hn HVS.out).mono ?_
      rintro e w1 ⟨rfl, hb⟩
      have hr1 := (hb.block _ (lt_of_block HRES.out)).trans HRES.out
      have f0 := unfrozen_of_block hr1 0
      have f1 := unfrozen_of_block hr1 1
      have r0 := cell_of_block hr1 0
      have r1 := cell_of_block hr1 1
      have HR1 := hide hr1
      have S1 := HS0.out.below hb
      have HB := hide S1.2.2.2
      clear hr1 hb HS0 HRES c0 c1
      obtain ⟨⟨_, c0, c1⟩, _⟩ := S1.pair
      go_wp2
      refine bodyPost_ret (ret_cross rfl _ _ _ _ _ rfl (block_setCell (i := 1) (block_setCell (i := 0) HR1.out _) _)) rfl ?_
      exact givesX_noS (by unfold dpN; rw [if_neg (by rw [HH.out]; decide)]) (by unfold dpL; rw [if_neg (by rw [HH.out]; decide)]) HH.out ((HB.out.setCell (p := ⟨w.heap.size + 1, 0, none⟩) (by show w.heap.size ≤ w.heap.size + 1; omega) _).setCell (p := ⟨w.heap.size + 1, 1, none⟩) (by show w.heap.size ≤ w.heap.size + 1; omega) _)
    obtain ⟨M, hM⟩ : ∃ M : Nat, n = (M : Int) + 1 := ⟨(n - 1).toNat, by omega⟩
    have hke : n - 1 = (M : Int) := by omega
    by_cases hr : 0 ≤ j ∧ j ≤ (M : Int)
    · have hh : hiB n zs j = true := hiB_iff.2 ⟨hs, hr.1, by omega⟩
      have hdp : dpB n zs j = true := by unfold dpB; rw [hh, decide_eq_true (by omega)]; rfl
      have HH := hide hdp
      obtain ⟨jN, rfl⟩ : ∃ jN : Nat, j = (jN : Int) := ⟨j.toNat, by omega⟩
      have hN : 1 ≤ M ∧ M ≤ 3 := by omega
      have hjN : jN < M + 1 := by omega
      have HRR := hide (decide_eq_true hr)
      have hV' : Valid ((M + 1 : Nat) : Int) zs := by rw [show ((M + 1 : Nat) : Int) = n by omega]; exact hV
      have HN := hide (show dpN n zs (jN : Int) = (M : Int) by unfold dpN; rw [if_pos hdp]; exact hke)
      have HL := hide (show dpL n zs (jN : Int) = pkK (dpP zs jN) (2 ^ M) by unfold dpL; rw [if_pos hdp, Int.toNat_natCast, drop_pk hV' hjN, Nat.add_sub_cancel])
      have p16 : 2 ^ M ≤ 2 ^ 3 := Nat.pow_le_pow_right (by omega) hN.2
      have p8 : 2 ^ jN ≤ 2 ^ 3 := Nat.pow_le_pow_right (by omega) (by omega)
      have p1 := Nat.two_pow_pos jN
      obtain ⟨T, hT⟩ : ∃ T, 2 ^ M = T := ⟨_, rfl⟩
      obtain ⟨pt, hpt⟩ : ∃ pt, 2 ^ jN = pt := ⟨_, rfl⟩
      rw [hT] at p16 HL
      rw [hpt] at p8 p1
      have HTE := hide hT
      have HPT := hide hpt
      have hp0 : ¬ (pt : Int) = 0 := by omega
      have hp1 : ¬ pt = 0 := by omega
      have hp2 : (0 : Int) < (pt : Int) := by omega
      clear hs hV hV' hr hh hdp hT hpt hM
      go_enter Try.func18, Try.ntmps18
      go_wp2_with fail
      refine (specVSf_was _ _ _ _ true _ HS0.out.2.1 hn HVS.out).mono ?_
      rintro e w1 ⟨rfl, hb⟩
      have HR1 := hide ((hb.block _ (lt_of_block HRES.out)).trans HRES.out)
      have HS1 := hide (HS0.out.below hb)
      clear hb HS0 HRES c0 c1
      obtain ⟨⟨_, c0, c1⟩, _⟩ := HS1.out.pair
      have hw1 : w.heap.size + 1 < w1.heap.size := lt_of_block HR1.out
      go_wp2_with (go_at_call 38; refine (inRf_was _ _ _ true _ HRR.out).mono ?_; rintro e w' ⟨rfl, rfl⟩)
      have O0 : SuI w1 w1.heap.size (M : Int) (.slice none 0 0) [] (w1.alloc (.cells #[.int .i64 (M : Int), .slice none 0 0] 26)) := ⟨heap_alloc_new w1 _, World.ownsRow_nil _ _ _ _, bel1 _ _, Nat.le_refl _⟩
      obtain ⟨G, hG⟩ : ∃ G, G = w1.heap.size := ⟨_, rfl⟩
      rw [← hG] at O0 ⊢
      have hGw : w.heap.size + 1 < G := by omega
      clear hG hw1 c0 c1
      go_loopw [7] (fun i wq => ∃ (t : Nat) (vv : Value) (os : List Int), t ≤ T ∧ i = .int .i64 t ∧ os = pkK (dpP zs jN) t ∧ SuI w1 G (M : Int) vv os wq) (fun i _ => T - (intOf i).toNat)
      case atStart => exact ⟨0, _, [], Nat.zero_le _, rfl, rfl, O0⟩
      case round =>
        clear O0
        obtain ⟨t, vv, os, ht, rfl, hos, hsu⟩ := hrel
        have hsr := HS1.out.below hsu.2.2.1
        have hol : os.length ≤ 16 := by have := pkK_len (dpP zs jN) t; rw [hos]; omega
        have HOS := hide hos
        obtain ⟨va, vc, rfl, _, _⟩ := hsu.2.1.form
        have q0 := cell_of_block hsu.1 0
        clear hos
        by_cases hlt : t < T
        · obtain ⟨lo, hloe⟩ : ∃ lo, t % pt = lo := ⟨_, rfl⟩
          have hlo : (t : Int) % (pt : Int) = (lo : Int) := by rw [← hloe]; simp
          have hlt2 : lo ≤ t := by rw [← hloe]; exact Nat.mod_le _ _
          obtain ⟨wd, hwde⟩ : ∃ wd, lo + (t - lo) * 2 = wd := ⟨_, rfl⟩
          have hwd : (lo : Int) + ((t : Int) - (lo : Int)) * 2 = (wd : Int) := by omega
          have hwd16 : wd ≤ 16 := by omega
          have hww : wideN jN t = wd := by unfold wideN; rw [HPT.out, hloe, hwde]
          obtain ⟨u, hu⟩ : ∃ u, wd + pt = u := ⟨_, rfl⟩
          have HU := hide (show (wd : Int) + (pt : Int) = (u : Int) by omega)
          have HU2 := hide (show IntKind.i64.wrap ((wd : Int) + (pt : Int)) = (u : Int) by rw [IntKind.wrap_i64]; omega)
          obtain ⟨b1, hb1⟩ : ∃ r, hasB zs (wd : Int) = r := ⟨_, rfl⟩
          obtain ⟨b2, hb2⟩ : ∃ r, hasB zs (u : Int) = r := ⟨_, rfl⟩
          have HB1 := hide hb1
          have HB2 := hide hb2
          have HP := hide (show dpP zs jN t = (b1 || b2) by unfold dpP; rw [HPT.out, hww, hu, hb1, hb2])
          have HSU := hide hsu
          have HSR := hide hsr
          have HSD := hide (hsr.below (bdrew' (Below.refl wr.heap.size wr)))
          obtain ⟨⟨_, y0, y1⟩, _⟩ := HSD.out.pair
          have K0 := hide (show wr.drew.cell? ⟨w.heap.size, 0, none⟩ = some (.int .i64 n) ∧ wr.drew.cell? ⟨w.heap.size, 1, none⟩ = some (.slice a zs.length cap) from ⟨y0, y1⟩)
          have HID := hide HSD.out.2.1
          obtain ⟨⟨_, c0, c1⟩, _⟩ := hsr.pair
          clear hb1 hb2 hu hww hwde hloe hsu hsr y0 y1
          go_wp2_with (go_at_call 39; first | (with_reducible refine (powerZ_was M T _ (by omega) HTE.out).mono ?_; rintro e w' ⟨rfl, rfl⟩) | (with_reducible refine (powerZ_was jN pt _ (by omega) HPT.out).mono ?_; rintro e w' ⟨rfl, rfl⟩))
          clear q0
          cases b1 with
          | true =>
            have HP := hide (show dpP zs jN t = true by rw [HP.out, Bool.true_or])
            first
              | go_region_with ((go_at_call 40; refine (hasZ_was _ _ _ _ wd _ true _ rfl HID.out hn HB1.out).mono ?_; rintro e w5 ⟨rfl, b5⟩; have U5 := hide ((HSU.out.below (bdrew' (Below.refl wr.heap.size wr))).below b5); clear b5))
              | fail
            all_goals
              have HPK := hide (pkK_yes HP.out)
              have u5 := U5.out
              have g1 := cell_of_block u5.1 1
              have f1 := unfrozen_of_block u5.1 1
              have hown := u5.2.1
              have hGl2 := lt_of_block u5.1
              clear u5
              go_wp2_with (at_builtin; refine wpList_append_own _ rfl _ _ 22 rfl (G + 1) 3 i0 (.int .i64 0) 1 8 Try.underlying22 hi0 hz0 hz1 hz2 rfl (by decide) _ _ _ rfl (hown.alloc _) ⟨w5.heap.size, 0, none⟩ 1 1 [.int .i64 (t : Int)] rfl rfl (cell_one_new w5 _ _) (by intro x hx; simp at hx; subst hx; rfl) (by unfold maxLen; omega) (by omega) (by first | omega | (simp; omega)) ?_)
              intro v' w6 hown' hgrow _
              obtain ⟨HP6, hb6⟩ := (U5.out.below (bel1 w5 (.cells #[.int .i64 (t : Int)] 3))).push hgrow hown'
              obtain ⟨zz, hzz⟩ : ∃ zz : List Int, zz = os ++ [(t : Int)] := ⟨_, rfl⟩
              rw [← hzz] at HP6
              have HZ : Hid (zz = pkK (dpP zs jN) (t + 1)) := by
                unfold Hid
                rw [hzz, HPK.out, HOS.out]
              obtain ⟨av', cv', rfl, _, _⟩ := HP6.2.1.form
              have f5 := unfrozen_of_block hb6 1
              have g5 := cell_of_block hb6 1
              have HQ2 := hide HP6
              clear hown hown' hgrow hb6 HP6 hzz g1 f1
              go_wp2
              go_roundw
              case rel => exact ⟨t + 1, _, zz, by omega, by go_num, HZ.out, HQ2.out⟩
              case measure => simp only [intOf]; omega
          | false =>
            go_region_held3 (fun w' => w'.cell? ⟨w.heap.size, 0, none⟩ = some (.int .i64 n) ∧ w'.cell? ⟨w.heap.size, 1, none⟩ = some (.slice a zs.length cap)) (first | exact K0.out | exact K6.out | exact K5.out | go_keep)
              ((first
                | (go_at_call 39; (with_reducible refine (powerZ_was jN pt _ (by omega) HPT.out).mono ?_); rintro e w' ⟨rfl, rfl⟩)
                | (go_at_call 40; (with_reducible refine (hasZ_was _ _ _ _ wd _ false _ rfl HID.out hn HB1.out).mono ?_); rintro e w4 ⟨rfl, b4⟩; have S5 := hide (HSD.out.below b4); have ID5 := hide S5.out.2.1; have K5 := hide (show w4.cell? ⟨w.heap.size, 0, none⟩ = some (.int .i64 n) ∧ w4.cell? ⟨w.heap.size, 1, none⟩ = some (.slice a zs.length cap) from ⟨S5.out.pair.1.2.1, S5.out.pair.1.2.2⟩); have U4 := hide ((HSU.out.below (bdrew' (Below.refl wr.heap.size wr))).below b4); clear b4)
                | (go_at_call 40; refine (hasZ_was _ _ _ _ u _ b2 _ (by first | exact HU.out | exact HU2.out) ID5.out hn HB2.out).mono ?_; rintro e w5 ⟨rfl, b5⟩; have S6 := hide (S5.out.below b5); have K6 := hide (show w5.cell? ⟨w.heap.size, 0, none⟩ = some (.int .i64 n) ∧ w5.cell? ⟨w.heap.size, 1, none⟩ = some (.slice a zs.length cap) from ⟨S6.out.pair.1.2.1, S6.out.pair.1.2.2⟩); have U5 := hide (U4.out.below b5); clear b5)))
            all_goals
              cases b2 with
              | false =>
                have HPK := hide (pkK_no (show dpP zs jN t = false by rw [HP.out]; rfl))
                go_wp2
                go_roundw
                case rel => exact ⟨t + 1, _, os, by omega, by go_num, by rw [HPK.out]; exact HOS.out, U5.out⟩
                case measure => simp only [intOf]; omega
              | true =>
                have HP := hide (show dpP zs jN t = true by rw [HP.out]; rfl)
                have HPK := hide (pkK_yes HP.out)
                have u5 := U5.out
                have g1 := cell_of_block u5.1 1
                have f1 := unfrozen_of_block u5.1 1
                have hown := u5.2.1
                have hGl2 := lt_of_block u5.1
                clear u5
                go_wp2_with (at_builtin; refine wpList_append_own _ rfl _ _ 22 rfl (G + 1) 3 i0 (.int .i64 0) 1 8 Try.underlying22 hi0 hz0 hz1 hz2 rfl (by decide) _ _ _ rfl (hown.alloc _) ⟨w5.heap.size, 0, none⟩ 1 1 [.int .i64 (t : Int)] rfl rfl (cell_one_new w5 _ _) (by intro x hx; simp at hx; subst hx; rfl) (by unfold maxLen; omega) (by omega) (by first | omega | (simp; omega)) ?_)
                intro v' w6 hown' hgrow _
                obtain ⟨HP6, hb6⟩ := (U5.out.below (bel1 w5 (.cells #[.int .i64 (t : Int)] 3))).push hgrow hown'
                obtain ⟨zz, hzz⟩ : ∃ zz : List Int, zz = os ++ [(t : Int)] := ⟨_, rfl⟩
                rw [← hzz] at HP6
                have HZ : Hid (zz = pkK (dpP zs jN) (t + 1)) := by
                  unfold Hid
                  rw [hzz, HPK.out, HOS.out]
                obtain ⟨av', cv', rfl, _, _⟩ := HP6.2.1.form
                have f5 := unfrozen_of_block hb6 1
                have g5 := cell_of_block hb6 1
                have HQ2 := hide HP6
                clear hown hown' hgrow hb6 HP6 hzz g1 f1
                go_wp2
                go_roundw
                case rel => exact ⟨t + 1, _, zz, by omega, by go_num, HZ.out, HQ2.out⟩
                case measure => simp only [intOf]; omega
        · obtain rfl : t = T := by omega
          have q1 := cell_of_block hsu.1 1
          have hr5 := (hsu.2.2.1.block _ (lt_of_block HR1.out)).trans HR1.out
          have f0 := unfrozen_of_block hr5 0
          have f1 := unfrozen_of_block hr5 1
          have r0 := cell_of_block hr5 0
          have r1 := cell_of_block hr5 1
          have HR5 := hide hr5
          have HSU := hide hsu
          clear hr5 hsu hsr
          go_wp2_with (go_at_call 39; refine (powerZ_was M t _ (by omega) HTE.out).mono ?_; rintro e w' ⟨rfl, rfl⟩)
          refine bodyPost_ret (ret_cross rfl _ _ _ _ _ rfl (block_setCell (i := 1) (block_setCell (i := 0) HR5.out _) _)) rfl ?_
          rw [HN.out, HL.out, HH.out, ← HOS.out]
          exact ⟨_, rfl, ((HSU.out.2.1.setBelow (p := ⟨w.heap.size + 1, 0, none⟩) (by show w.heap.size + 1 < G + 1; omega) _).setBelow (p := ⟨w.heap.size + 1, 1, none⟩) (by show w.heap.size + 1 < G + 1; omega) _).le (by omega), ((bnext HS1.out.2.2.2 HSU.out.2.2.1).setCell (p := ⟨w.heap.size + 1, 0, none⟩) (by show w.heap.size ≤ w.heap.size + 1; omega) _).setCell (p := ⟨w.heap.size + 1, 1, none⟩) (by show w.heap.size ≤ w.heap.size + 1; omega) _⟩
    · have HH := hide (show dpB n zs j = false by
        rcases Bool.eq_false_or_eq_true (dpB n zs j) with h | h
        · have := dpB_iff.1 h
          exact absurd ⟨this.1.2.1, by omega⟩ hr
        · exact h)
      have HRR := hide (decide_eq_false hr)
      clear hs hV hr hM
      go_enter Try.func18, Try.ntmps18
      go_wp2_with fail
      refine (specVSf_was _ _ _ _ true _ HS0.out.2.1 hn HVS.out).mono ?_
      rintro e w1 ⟨rfl, hb⟩
      have hr1 := (hb.block _ (lt_of_block HRES.out)).trans HRES.out
      have f0 := unfrozen_of_block hr1 0
      have f1 := unfrozen_of_block hr1 1
      have r0 := cell_of_block hr1 0
      have r1 := cell_of_block hr1 1
      have HR1 := hide hr1
      have S1 := HS0.out.below hb
      have HB := hide S1.2.2.2
      clear hr1 hb HS0 HRES c0 c1
      obtain ⟨⟨_, c0, c1⟩, _⟩ := S1.pair
      go_wp2_with (go_at_call 38; refine (inRf_was _ _ _ false _ HRR.out).mono ?_; rintro e w' ⟨rfl, rfl⟩)
      refine bodyPost_ret (ret_cross rfl _ _ _ _ _ rfl (block_setCell (i := 1) (block_setCell (i := 0) HR1.out _) _)) rfl ?_
      exact givesX_noS (by unfold dpN; rw [if_neg (by rw [HH.out]; decide)]) (by unfold dpL; rw [if_neg (by rw [HH.out]; decide)]) HH.out ((HB.out.setCell (p := ⟨w.heap.size + 1, 0, none⟩) (by show w.heap.size ≤ w.heap.size + 1; omega) _).setCell (p := ⟨w.heap.size + 1, 1, none⟩) (by show w.heap.size ≤ w.heap.size + 1; omega) _)
end Go.Proofs.Ytbnnblfgpdfmpaa
