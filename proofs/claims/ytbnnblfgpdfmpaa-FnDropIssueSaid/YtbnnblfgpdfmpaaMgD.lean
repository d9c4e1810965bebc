/- Texts of this seat one behind the other: DrpS, PDrop. Conditions: none. -/
import Derived.Test.YtbnnblfgpdfmpaaMgB
import Derived.Test.YtbnnblfgpdfmpaaMgC
import Derived.Deep.RegionHeld3
import Derived.Deep.RegionWith

/- DrpS: DropIssue of the model. -/
namespace Go.Proofs.Ytbnnblfgpdfmpaa
open Go.RowKit Go.Joins

set_option maxHeartbeats 2000000 in
set_option maxRecDepth 100000 in
theorem specDropIssue_any (n j : Int) (a : Option Addr) (cap : Nat) (zs : List Int) (w : World) (hi : Ints w a zs) (hn : zs.length ≤ 1048576) :
    Calls Try.prog 18 #[.agg #[.int .i64 n, .slice a zs.length cap], .int .i64 j] w (GivesX (dpN n zs j) (dpL n zs j) (dpB n zs j) w) := by
  obtain ⟨i0, hi0, hz0, hz1, hz2⟩ := info_parts info_int
  have S0 := (SV.new w n a zs cap none [] 26 hi (Ints.nil _ _)).below (bel1 _ (.cells #[.int .i64 0, .slice none 0 0] 26))
  have hres := heap_alloc_new (w.alloc (.cells #[.int .i64 n, .slice a zs.length cap] 26)) (.cells #[.int .i64 0, .slice none 0 0] 26)
  simp only [World.size_alloc] at hres
  have HRES := hide hres
  have HS0 := hide S0
  obtain ⟨⟨_, c0, c1⟩, _⟩ := S0.pair
  clear hi hres S0
  by_cases hs : vsB n zs = false
  · have HH := hide (show dpB n zs j = false by unfold dpB hiB; rw [hs]; rfl)
    have HV := hide hs
    clear hs
    go_enter Try.func18, Try.ntmps18
    go_wp2_with fail
    refine (specVSf_was _ _ _ _ false _ HS0.out.2.1 hn HV.out).mono ?_
    rintro e w1 ⟨rfl, hb⟩
    have hr1 := (hb.block _ (lt_of_block HRES.out)).trans HRES.out
    have f0 := unfrozen_of_block hr1 0
    have f1 := unfrozen_of_block hr1 1
    have r0 := cell_of_block hr1 0
    have r1 := cell_of_block hr1 1
    have HR1 := hide hr1
    have HB := hide (HS0.out.below hb).2.2.2
    clear hr1 hb HS0 HRES c0 c1
    go_wp2
    refine bodyPost_ret (ret_cross rfl _ _ _ _ _ rfl (block_setCell (i := 1) (block_setCell (i := 0) HR1.out _) _)) rfl ?_
    exact givesX_noS (by unfold dpN; rw [if_neg (by rw [HH.out]; decide)]) (by unfold dpL; rw [if_neg (by rw [HH.out]; decide)]) HH.out ((HB.out.setCell (p := ⟨w.heap.size + 1, 0, none⟩) (by show w.heap.size ≤ w.heap.size + 1; omega) _).setCell (p := ⟨w.heap.size + 1, 1, none⟩) (by show w.heap.size ≤ w.heap.size + 1; omega) _)
  · have hs : vsB n zs = true := by simpa using hs
    have HVS := hide hs
    have hV := valid_of hs
    have hn4 := hV.1
    by_cases h2 : n < 2
    · have HH := hide (show dpB n zs j = false by unfold dpB; rw [decide_eq_false (by omega), Bool.and_false])
      clear hs hV
      go_enter Try.func18, Try.ntmps18
      go_wp2_with fail
      refine (specVSf_was _ _ _ _ true _ HS0.out.2.1 hn HVS.out).mono ?_
      rintro e w1 ⟨rfl, hb⟩
      have hr1 := (hb.block _ (lt_of_block HRES.out)).trans HRES.out
      have f0 := unfrozen_of_block hr1 0
      have f1 := unfrozen_of_block hr1 1
      have r0 := cell_of_block hr1 0
      have r1 := cell_of_block hr1 1
      have HR1 := hide hr1
      have S1 := HS0.out.below hb
      have HB := hide S1.2.2.2
      clear hr1 hb HS0 HRES c0 c1
      obtain ⟨⟨_, c0, c1⟩, _⟩ := S1.pair
      go_wp2
      refine bodyPost_ret (ret_cross rfl _ _ _ _ _ rfl (block_setCell (i := 1) (block_setCell (i := 0) HR1.out _) _)) rfl ?_
      exact givesX_noS (by unfold dpN; rw [if_neg (by rw [HH.out]; decide)]) (by unfold dpL; rw [if_neg (by rw [HH.out]; decide)]) HH.out ((HB.out.setCell (p := ⟨w.heap.size + 1, 0, none⟩) (by show w.heap.size ≤ w.heap.size + 1; omega) _).setCell (p := ⟨w.heap.size + 1, 1, none⟩) (by show w.heap.size ≤ w.heap.size + 1; omega) _)
    obtain ⟨M, hM⟩ : ∃ M : Nat, n = (M : Int) + 1 := ⟨(n - 1).toNat, by omega⟩
    have hke : n - 1 = (M : Int) := by omega
    by_cases hr : 0 ≤ j ∧ j ≤ (M : Int)
    · have hh : hiB n zs j = true := hiB_iff.2 ⟨hs, hr.1, by omega⟩
      have hdp : dpB n zs j = true := by unfold dpB; rw [hh, decide_eq_true (by omega)]; rfl
      have HH := hide hdp
      obtain ⟨jN, rfl⟩ : ∃ jN : Nat, j = (jN : Int) := ⟨j.toNat, by omega⟩
      have hN : 1 ≤ M ∧ M ≤ 3 := by omega
      have hjN : jN < M + 1 := by omega
      have HRR := hide (decide_eq_true hr)
      have hV' : Valid ((M + 1 : Nat) : Int) zs := by rw [show ((M + 1 : Nat) : Int) = n by omega]; exact hV
      have HN := hide (show dpN n zs (jN : Int) = (M : Int) by unfold dpN; rw [if_pos hdp]; exact hke)
      have HL := hide (show dpL n zs (jN : Int) = pkK (dpP zs jN) (2 ^ M) by unfold dpL; rw [if_pos hdp, Int.toNat_natCast, drop_pk hV' hjN, Nat.add_sub_cancel])
      have p16 : 2 ^ M ≤ 2 ^ 3 := Nat.pow_le_pow_right (by omega) hN.2
      have p8 : 2 ^ jN ≤ 2 ^ 3 := Nat.pow_le_pow_right (by omega) (by omega)
      have p1 := Nat.two_pow_pos jN
      obtain ⟨T, hT⟩ : ∃ T, 2 ^ M = T := ⟨_, rfl⟩
      obtain ⟨pt, hpt⟩ : ∃ pt, 2 ^ jN = pt := ⟨_, rfl⟩
      rw [hT] at p16 HL
      rw [hpt] at p8 p1
      have HTE := hide hT
      have HPT := hide hpt
      have hp0 : ¬ (pt : Int) = 0 := by omega
      have hp1 : ¬ pt = 0 := by omega
      have hp2 : (0 : Int) < (pt : Int) := by omega
      clear hs hV hV' hr hh hdp hT hpt hM
      go_enter Try.func18, Try.ntmps18
      go_wp2_with fail
      refine (specVSf_was _ _ _ _ true _ HS0.out.2.1 hn HVS.out).mono ?_
      rintro e w1 ⟨rfl, hb⟩
      have HR1 := hide ((hb.block _ (lt_of_block HRES.out)).trans HRES.out)
      have HS1 := hide (HS0.out.below hb)
      clear hb HS0 HRES c0 c1
      obtain ⟨⟨_, c0, c1⟩, _⟩ := HS1.out.pair
      have hw1 : w.heap.size + 1 < w1.heap.size := lt_of_block HR1.out
      go_wp2_with (go_at_call 38; refine (inRf_was _ _ _ true _ HRR.out).mono ?_; rintro e w' ⟨rfl, rfl⟩)
      have O0 : SuI w1 w1.heap.size (M : Int) (.slice none 0 0) [] (w1.alloc (.cells #[.int .i64 (M : Int), .slice none 0 0] 26)) := ⟨heap_alloc_new w1 _, World.ownsRow_nil _ _ _ _, bel1 _ _, Nat.le_refl _⟩
      obtain ⟨G, hG⟩ : ∃ G, G = w1.heap.size := ⟨_, rfl⟩
      rw [← hG] at O0 ⊢
      have hGw : w.heap.size + 1 < G := by omega
      clear hG hw1 c0 c1
      go_loopw [7] (fun i wq => ∃ (t : Nat) (vv : Value) (os : List Int), t ≤ T ∧ i = .int .i64 t ∧ os = pkK (dpP zs jN) t ∧ SuI w1 G (M : Int) vv os wq) (fun i _ => T - (intOf i).toNat)
      case atStart => exact ⟨0, _, [], Nat.zero_le _, rfl, rfl, O0⟩
      case round =>
        clear O0
        obtain ⟨t, vv, os, ht, rfl, hos, hsu⟩ := hrel
        have hsr := HS1.out.below hsu.2.2.1
        have hol : os.length ≤ 16 := by have := pkK_len (dpP zs jN) t; rw [hos]; omega
        have HOS := hide hos
        obtain ⟨va, vc, rfl, _, _⟩ := hsu.2.1.form
        have q0 := cell_of_block hsu.1 0
        clear hos
        by_cases hlt : t < T
        · obtain ⟨lo, hloe⟩ : ∃ lo, t % pt = lo := ⟨_, rfl⟩
          have hlo : (t : Int) % (pt : Int) = (lo : Int) := by rw [← hloe]; simp
          have hlt2 : lo ≤ t := by rw [← hloe]; exact Nat.mod_le _ _
          obtain ⟨wd, hwde⟩ : ∃ wd, lo + (t - lo) * 2 = wd := ⟨_, rfl⟩
          have hwd : (lo : Int) + ((t : Int) - (lo : Int)) * 2 = (wd : Int) := by omega
          have hwd16 : wd ≤ 16 := by omega
          have hww : wideN jN t = wd := by unfold wideN; rw [HPT.out, hloe, hwde]
          obtain ⟨u, hu⟩ : ∃ u, wd + pt = u := ⟨_, rfl⟩
          have HU := hide (show (wd : Int) + (pt : Int) = (u : Int) by omega)
          have HU2 := hide (show IntKind.i64.wrap ((wd : Int) + (pt : Int)) = (u : Int) by rw [IntKind.wrap_i64]; omega)
          obtain ⟨b1, hb1⟩ : ∃ r, hasB zs (wd : Int) = r := ⟨_, rfl⟩
          obtain ⟨b2, hb2⟩ : ∃ r, hasB zs (u : Int) = r := ⟨_, rfl⟩
          have HB1 := hide hb1
          have HB2 := hide hb2
          have HP := hide (show dpP zs jN t = (b1 || b2) by unfold dpP; rw [HPT.out, hww, hu, hb1, hb2])
          have HSU := hide hsu
          have HSR := hide hsr
          have HSD := hide (hsr.below (bdrew' (Below.refl wr.heap.size wr)))
          obtain ⟨⟨_, y0, y1⟩, _⟩ := HSD.out.pair
          have K0 := hide (show wr.drew.cell? ⟨w.heap.size, 0, none⟩ = some (.int .i64 n) ∧ wr.drew.cell? ⟨w.heap.size, 1, none⟩ = some (.slice a zs.length cap) from ⟨y0, y1⟩)
          have HID := hide HSD.out.2.1
          obtain ⟨⟨_, c0, c1⟩, _⟩ := hsr.pair
          clear hb1 hb2 hu hww hwde hloe hsu hsr y0 y1
          go_wp2_with (go_at_call 39; first | (with_reducible refine (powerZ_was M T _ (by omega) HTE.out).mono ?_; rintro e w' ⟨rfl, rfl⟩) | (with_reducible refine (powerZ_was jN pt _ (by omega) HPT.out).mono ?_; rintro e w' ⟨rfl, rfl⟩))
          clear q0
          cases b1 with
          | true =>
            have HP := hide (show dpP zs jN t = true by rw [HP.out, Bool.true_or])
            first
              | go_region_with ((go_at_call 40; refine (hasZ_was _ _ _ _ wd _ true _ rfl HID.out hn HB1.out).mono ?_; rintro e w5 ⟨rfl, b5⟩; have U5 := hide ((HSU.out.below (bdrew' (Below.refl wr.heap.size wr))).below b5); clear b5))
              | fail
            all_goals
              have HPK := hide (pkK_yes HP.out)
              have u5 := U5.out
              have g1 := cell_of_block u5.1 1
              have f1 := unfrozen_of_block u5.1 1
              have hown := u5.2.1
              have hGl2 := lt_of_block u5.1
              clear u5
              go_wp2_with (at_builtin; refine wpList_append_own _ rfl _ _ 22 rfl (G + 1) 3 i0 (.int .i64 0) 1 8 Try.underlying22 hi0 hz0 hz1 hz2 rfl (by decide) _ _ _ rfl (hown.alloc _) ⟨w5.heap.size, 0, none⟩ 1 1 [.int .i64 (t : Int)] rfl rfl (cell_one_new w5 _ _) (by intro x hx; simp at hx; subst hx; rfl) (by unfold maxLen; omega) (by omega) (by first | omega | (simp; omega)) ?_)
              intro v' w6 hown' hgrow _
              obtain ⟨HP6, hb6⟩ := (U5.out.below (bel1 w5 (.cells #[.int .i64 (t : Int)] 3))).push hgrow hown'
              obtain ⟨zz, hzz⟩ : ∃ zz : List Int, zz = os ++ [(t : Int)] := ⟨_, rfl⟩
              rw [← hzz] at HP6
              have HZ : Hid (zz = pkK (dpP zs jN) (t + 1)) := by
                unfold Hid
                rw [hzz, HPK.out, HOS.out]
              obtain ⟨av', cv', rfl, _, _⟩ := HP6.2.1.form
              have f5 := unfrozen_of_block hb6 1
              have g5 := cell_of_block hb6 1
              have HQ2 := hide HP6
              clear hown hown' hgrow hb6 HP6 hzz g1 f1
              go_wp2
              go_roundw
              case rel => exact ⟨t + 1, _, zz, by omega, by go_num, HZ.out, HQ2.out⟩
              case measure => simp only [intOf]; omega
          | false =>
            go_region_held3 (fun w' => w'.cell? ⟨w.heap.size, 0, none⟩ = some (.int .i64 n) ∧ w'.cell? ⟨w.heap.size, 1, none⟩ = some (.slice a zs.length cap)) (first | exact K0.out | exact K6.out | exact K5.out | go_keep)
              ((first
                | (go_at_call 39; (with_reducible refine (powerZ_was jN pt _ (by omega) HPT.out).mono ?_); rintro e w' ⟨rfl, rfl⟩)
                | (go_at_call 40; (with_reducible refine (hasZ_was _ _ _ _ wd _ false _ rfl HID.out hn HB1.out).mono ?_); rintro e w4 ⟨rfl, b4⟩; have S5 := hide (HSD.out.below b4); have ID5 := hide S5.out.2.1; have K5 := hide (show w4.cell? ⟨w.heap.size, 0, none⟩ = some (.int .i64 n) ∧ w4.cell? ⟨w.heap.size, 1, none⟩ = some (.slice a zs.length cap) from ⟨S5.out.pair.1.2.1, S5.out.pair.1.2.2⟩); have U4 := hide ((HSU.out.below (bdrew' (Below.refl wr.heap.size wr))).below b4); clear b4)
                | (go_at_call 40; refine (hasZ_was _ _ _ _ u _ b2 _ (by first | exact HU.out | exact HU2.out) ID5.out hn HB2.out).mono ?_; rintro e w5 ⟨rfl, b5⟩; have S6 := hide (S5.out.below b5); have K6 := hide (show w5.cell? ⟨w.heap.size, 0, none⟩ = some (.int .i64 n) ∧ w5.cell? ⟨w.heap.size, 1, none⟩ = some (.slice a zs.length cap) from ⟨S6.out.pair.1.2.1, S6.out.pair.1.2.2⟩); have U5 := hide (U4.out.below b5); clear b5)))
            all_goals
              cases b2 with
              | false =>
                have HPK := hide (pkK_no (show dpP zs jN t = false by rw [HP.out]; rfl))
                go_wp2
                go_roundw
                case rel => exact ⟨t + 1, _, os, by omega, by go_num, by rw [HPK.out]; exact HOS.out, U5.out⟩
                case measure => simp only [intOf]; omega
              | true =>
                have HP := hide (show dpP zs jN t = true by rw [HP.out]; rfl)
                have HPK := hide (pkK_yes HP.out)
                have u5 := U5.out
                have g1 := cell_of_block u5.1 1
                have f1 := unfrozen_of_block u5.1 1
                have hown := u5.2.1
                have hGl2 := lt_of_block u5.1
                clear u5
                go_wp2_with (at_builtin; refine wpList_append_own _ rfl _ _ 22 rfl (G + 1) 3 i0 (.int .i64 0) 1 8 Try.underlying22 hi0 hz0 hz1 hz2 rfl (by decide) _ _ _ rfl (hown.alloc _) ⟨w5.heap.size, 0, none⟩ 1 1 [.int .i64 (t : Int)] rfl rfl (cell_one_new w5 _ _) (by intro x hx; simp at hx; subst hx; rfl) (by unfold maxLen; omega) (by omega) (by first | omega | (simp; omega)) ?_)
                intro v' w6 hown' hgrow _
                obtain ⟨HP6, hb6⟩ := (U5.out.below (bel1 w5 (.cells #[.int .i64 (t : Int)] 3))).push hgrow hown'
                obtain ⟨zz, hzz⟩ : ∃ zz : List Int, zz = os ++ [(t : Int)] := ⟨_, rfl⟩
                rw [← hzz] at HP6
                have HZ : Hid (zz = pkK (dpP zs jN) (t + 1)) := by
                  unfold Hid
                  rw [hzz, HPK.out, HOS.out]
                obtain ⟨av', cv', rfl, _, _⟩ := HP6.2.1.form
                have f5 := unfrozen_of_block hb6 1
                have g5 := cell_of_block hb6 1
                have HQ2 := hide HP6
                clear hown hown' hgrow hb6 HP6 hzz g1 f1
                go_wp2
                go_roundw
                case rel => exact ⟨t + 1, _, zz, by omega, by go_num, HZ.out, HQ2.out⟩
                case measure => simp only [intOf]; omega
        · obtain rfl : t = T := by omega
          have q1 := cell_of_block hsu.1 1
          have hr5 := (hsu.2.2.1.block _ (lt_of_block HR1.out)).trans HR1.out
          have f0 := unfrozen_of_block hr5 0
          have f1 := unfrozen_of_block hr5 1
          have r0 := cell_of_block hr5 0
          have r1 := cell_of_block hr5 1
          have HR5 := hide hr5
          have HSU := hide hsu
          clear hr5 hsu hsr
          go_wp2_with (go_at_call 39; refine (powerZ_was M t _ (by omega) HTE.out).mono ?_; rintro e w' ⟨rfl, rfl⟩)
          refine bodyPost_ret (ret_cross rfl _ _ _ _ _ rfl (block_setCell (i := 1) (block_setCell (i := 0) HR5.out _) _)) rfl ?_
          rw [HN.out, HL.out, HH.out, ← HOS.out]
          exact ⟨_, rfl, ((HSU.out.2.1.setBelow (p := ⟨w.heap.size + 1, 0, none⟩) (by show w.heap.size + 1 < G + 1; omega) _).setBelow (p := ⟨w.heap.size + 1, 1, none⟩) (by show w.heap.size + 1 < G + 1; omega) _).le (by omega), ((bnext HS1.out.2.2.2 HSU.out.2.2.1).setCell (p := ⟨w.heap.size + 1, 0, none⟩) (by show w.heap.size ≤ w.heap.size + 1; omega) _).setCell (p := ⟨w.heap.size + 1, 1, none⟩) (by show w.heap.size ≤ w.heap.size + 1; omega) _⟩
    · have HH := hide (show dpB n zs j = false by
        rcases Bool.eq_false_or_eq_true (dpB n zs j) with h | h
        · have := dpB_iff.1 h
          exact absurd ⟨this.1.2.1, by omega⟩ hr
        · exact h)
      have HRR := hide (decide_eq_false hr)
      clear hs hV hr hM
      go_enter Try.func18, Try.ntmps18
      go_wp2_with fail
      refine (specVSf_was _ _ _ _ true _ HS0.out.2.1 hn HVS.out).mono ?_
      rintro e w1 ⟨rfl, hb⟩
      have hr1 := (hb.block _ (lt_of_block HRES.out)).trans HRES.out
      have f0 := unfrozen_of_block hr1 0
      have f1 := unfrozen_of_block hr1 1
      have r0 := cell_of_block hr1 0
      have r1 := cell_of_block hr1 1
      have HR1 := hide hr1
      have S1 := HS0.out.below hb
      have HB := hide S1.2.2.2
      clear hr1 hb HS0 HRES c0 c1
      obtain ⟨⟨_, c0, c1⟩, _⟩ := S1.pair
      go_wp2_with (go_at_call 38; refine (inRf_was _ _ _ false _ HRR.out).mono ?_; rintro e w' ⟨rfl, rfl⟩)
      refine bodyPost_ret (ret_cross rfl _ _ _ _ _ rfl (block_setCell (i := 1) (block_setCell (i := 0) HR1.out _) _)) rfl ?_
      exact givesX_noS (by unfold dpN; rw [if_neg (by rw [HH.out]; decide)]) (by unfold dpL; rw [if_neg (by rw [HH.out]; decide)]) HH.out ((HB.out.setCell (p := ⟨w.heap.size + 1, 0, none⟩) (by show w.heap.size ≤ w.heap.size + 1; omega) _).setCell (p := ⟨w.heap.size + 1, 1, none⟩) (by show w.heap.size ≤ w.heap.size + 1; omega) _)
end Go.Proofs.Ytbnnblfgpdfmpaa

/- PDrop: The law of DropIssue answers true at every code: its walk. -/
namespace Go.Proofs.Ytbnnblfgpdfmpaa
open Go.RowKit Go.Joins

theorem dropP_was (n j : Int) (a : Option Addr) (cap : Nat) (zs : List Int) (N : Int) (L : List Int) (B : Bool) (w : World) (hi : Ints w a zs) (hn : zs.length ≤ 1048576) (h1 : dpN n zs j = N) (h2 : dpL n zs j = L) (h3 : dpB n zs j = B) :
    Calls Try.prog 19 #[.agg #[.int .i64 n, .slice a zs.length cap], .int .i64 j] w (GivesX N L B w) := by
  subst h1 h2 h3
  exact implDropIssue_any n j a cap zs w hi hn
theorem dropS_was (n j : Int) (a : Option Addr) (cap : Nat) (zs : List Int) (N : Int) (L : List Int) (B : Bool) (w : World) (hi : Ints w a zs) (hn : zs.length ≤ 1048576) (h1 : dpN n zs j = N) (h2 : dpL n zs j = L) (h3 : dpB n zs j = B) :
    Calls Try.prog 18 #[.agg #[.int .i64 n, .slice a zs.length cap], .int .i64 j] w (GivesX N L B w) := by
  subst h1 h2 h3
  exact specDropIssue_any n j a cap zs w hi hn
theorem dpN_yes {n j : Int} {zs : List Int} (h : dpB n zs j = true) : dpN n zs j = n - 1 := if_pos h
theorem dpL_yes {n j : Int} {zs : List Int} (h : dpB n zs j = true) : dpL n zs j = unq (zs.map (dropI j.toNat)) := if_pos h
/-- what the law says of a space without an issue -/
theorem drop_law {N : Nat} {j : Int} {zs : List Int} (h : dpB (N : Int) zs j = true) : (N ≤ 4 ∧ 2 ≤ N) ∧ vsB ((N - 1 : Nat) : Int) (dpL (N : Int) zs j) = true ∧ (closedB med (N : Int) zs = true → closedB med ((N - 1 : Nat) : Int) (dpL (N : Int) zs j) = true) ∧ (closedB par (N : Int) zs = true → closedB par ((N - 1 : Nat) : Int) (dpL (N : Int) zs j) = true) ∧ (dpL (N : Int) zs j).length ≤ zs.length ∧ zs.length ≤ 2 * (dpL (N : Int) zs j).length := by
  obtain ⟨⟨hv, h0, h1⟩, h2⟩ := dpB_iff.1 h
  have hV := valid_of hv
  have hN := hV.1
  obtain ⟨J, rfl⟩ : ∃ J : Nat, j = (J : Int) := ⟨j.toNat, by omega⟩
  have hJ : J < N := by omega
  have e := dpL_yes h
  rw [Int.toNat_natCast] at e
  rw [e]
  have h2' : 2 ≤ N := by omega
  exact ⟨⟨by omega, h2'⟩, vsB_true (dp_valid hV hJ h2'), dp_closed join_med loses_med hV hJ h2', dp_closed join_par loses_par hV hJ h2', dp_len zs, dp_half hV hJ⟩

set_option maxHeartbeats 8000000 in
set_option maxRecDepth 100000 in
theorem walk_FnDropIssue (a : Option Addr) (zs : List Nat) (cap : Nat) (w : World) (hi : Byts w a zs) (hl : zs.length ≤ maxLen) (hc : zs.length ≤ cap) :
    Calls Try.prog 6 #[.slice a zs.length cap] w fun e w' => e = .returned (.bool true) ∧ Below w.heap.size w w' := by
  by_cases h : 1048576 < zs.length
  · unfold maxLen at hl
    go_enter Try.func6, Try.ntmps6
    go_wp2
    go_ret
    exact ⟨rfl, Below.refl _ _⟩
  · have hl' : zs.length ≤ 1048576 := by omega
    clear h hl
    go_enter Try.func6, Try.ntmps6
    go_wp2_with fail
    refine (drawDropIssue_any _ _ _ _ hi hl' hc).mono ?_
    rintro e w1 ⟨m, av, ss, cv, j, rfl, iv, hsl, hcv, _, hb⟩
    have S0 := SV.new w1 m av ss cv none [] 26 iv (Ints.nil _ _)
    have HB := hide hb
    have hn : ss.length ≤ 1048576 := by omega
    have HCV := hide hcv
    have HSL := hide hsl
    clear hb hi iv hl' hsl hcv
    obtain ⟨⟨_, c0, c1⟩, _⟩ := S0.pair
    by_cases hB : dpB m ss j = false
    · have HBB := hide hB
      obtain ⟨N0, hN⟩ : ∃ N0, dpN m ss j = N0 := ⟨_, rfl⟩
      obtain ⟨L, hL⟩ : ∃ L, dpL m ss j = L := ⟨_, rfl⟩
      have hLl : L.length ≤ 1048576 := by
        have e : dpL m ss j = [] := if_neg (by rw [hB]; decide)
        rw [← hL, e]
        exact Nat.zero_le _
      have HN := hide hN
      have HL := hide hL
      clear hB hN hL
      go_wp2_with fail
      refine (dropP_was _ _ _ _ _ N0 L false _ S0.2.1 hn HN.out HL.out HBB.out).mono ?_
      rintro e w2 ⟨vo, rfl, oo, b2⟩
      obtain ⟨oa, oc, rfl, io, _⟩ := oo.form
      have bo := bel1 w2 (.cells #[.int .i64 N0, .slice oa L.length oc] 26)
      have S2 := (S0.below b2).below bo
      have bx := Box.new w2 N0 oa L.length oc 26
      obtain ⟨g2, hg2⟩ : ∃ g2, g2 = w2.heap.size := ⟨_, rfl⟩
      rw [← hg2] at bx
      have M2 : Hid (FC w1 m av ss cv g2 N0 oa L oc g2 N0 oa L oc (w2.alloc (.cells #[.int .i64 N0, .slice oa L.length oc] 26))) := ⟨S2.1, S2.2.1, bx, io.below bo, bx, io.below bo, S2.2.2.2⟩
      clear c0 c1 S0 b2 oo io bo S2 bx
      go_upto_region 5 with fail
      rw [← hg2]
      obtain ⟨W, hW⟩ : ∃ W : World, W = w2.alloc (.cells #[.int .i64 N0, .slice oa L.length oc] 26) := ⟨_, rfl⟩
      rw [← hW] at M2 ⊢
      clear hW hg2
      obtain ⟨⟨_, c0, c1⟩, is2, ⟨_, d0, d1⟩, _⟩ := M2.out
      go_wp2_with fail
      refine (dropS_was _ _ _ _ _ N0 L false _ is2 hn HN.out HL.out HBB.out).mono ?_
      rintro e w3 ⟨vo, rfl, oo, b3⟩
      obtain ⟨xa, xc, rfl, io, _⟩ := oo.form
      have bo := bel1 w3 (.cells #[.int .i64 N0, .slice xa L.length xc] 26)
      have bx := Box.new w3 N0 xa L.length xc 26
      obtain ⟨g3, hg3⟩ : ∃ g3, g3 = w3.heap.size := ⟨_, rfl⟩
      rw [← hg3] at bx
      have M3 := hide (((M2.out.below b3).below bo).third bx (io.below bo))
      clear c0 c1 d0 d1 b3 oo io bo bx is2 M2
      go_upto_region 6 with fail
      rw [← hg3]
      obtain ⟨W3, hW⟩ : ∃ W : World, W = w3.alloc (.cells #[.int .i64 N0, .slice xa L.length xc] 26) := ⟨_, rfl⟩
      rw [← hW] at M3 ⊢
      clear hW hg3
      obtain ⟨_, _, ⟨_, d0, d1⟩, io3, ⟨_, x0, x1⟩, ix3, _⟩ := M3.out
      go_wp2_with fail
      refine (equalSpace_was _ _ _ _ _ _ _ _ _ true io3 ix3 hLl hLl (eqS_refl _ _)).mono ?_
      rintro e w4 ⟨rfl, b4⟩
      have M4 := hide (M3.out.below b4)
      clear d0 d1 x0 x1 io3 ix3 b4
      obtain ⟨_, _, ⟨_, d0, d1⟩, io4, ⟨_, x0, x1⟩, ix4, _⟩ := M4.out
      go_wp2_with fail
      refine (equalSpace_was _ _ _ _ _ _ _ _ _ true io4 ix4 hLl hLl (eqS_refl _ _)).mono ?_
      rintro e w5 ⟨rfl, b5⟩
      go_wp2
      go_ret
      exact ⟨rfl, bnext HB.out (M4.out.below b5).2.2.2.2.2.2⟩
    · have hB : dpB m ss j = true := by simpa using hB
      obtain ⟨N, hNm⟩ : ∃ N : Nat, m = (N : Int) := ⟨m.toNat, by have := (valid_of (dpB_iff.1 hB).1.1).1; omega⟩
      subst hNm
      obtain ⟨⟨hN4, hN2⟩, f1, f3, f4, f5, f6⟩ := drop_law hB
      have HBB := hide hB
      obtain ⟨M, hM⟩ : ∃ M : Nat, N - 1 = M := ⟨_, rfl⟩
      have HN : Hid (dpN (N : Int) ss j = (M : Int)) := by unfold Hid; rw [dpN_yes hB]; omega
      obtain ⟨L, hL⟩ : ∃ L, dpL (N : Int) ss j = L := ⟨_, rfl⟩
      rw [hL] at f1 f3 f4 f5 f6
      rw [hM] at f1 f3 f4
      have HL := hide hL
      have hLl : L.length ≤ 1048576 := by omega
      obtain ⟨r, hr⟩ : ∃ r, closedB med (N : Int) ss = r := ⟨_, rfl⟩
      obtain ⟨q, hq⟩ : ∃ q, closedB par (N : Int) ss = q := ⟨_, rfl⟩
      rw [hr] at f3
      rw [hq] at f4
      have HVL := hide f1
      have HR := hide hr
      have HQ := hide hq
      have HR2 := hide f3
      have HQ2 := hide f4
      have H5 := hide f5
      have H6 := hide f6
      clear hB hL f1 f3 f4 f5 f6 hr hq hM hN4 hN2
      go_wp2_with fail
      refine (dropP_was _ _ _ _ _ (M : Int) L true _ S0.2.1 hn HN.out HL.out HBB.out).mono ?_
      rintro e w2 ⟨vo, rfl, oo, b2⟩
      obtain ⟨oa, oc, rfl, io, _⟩ := oo.form
      have HOC := hide oo.cap
      have bo := bel1 w2 (.cells #[.int .i64 (M : Int), .slice oa L.length oc] 26)
      have S2 := (S0.below b2).below bo
      have bx := Box.new w2 (M : Int) oa L.length oc 26
      obtain ⟨g2, hg2⟩ : ∃ g2, g2 = w2.heap.size := ⟨_, rfl⟩
      rw [← hg2] at bx
      have M2 : Hid (FC w1 (N : Int) av ss cv g2 (M : Int) oa L oc g2 (M : Int) oa L oc (w2.alloc (.cells #[.int .i64 (M : Int), .slice oa L.length oc] 26))) := ⟨S2.1, S2.2.1, bx, io.below bo, bx, io.below bo, S2.2.2.2⟩
      clear c0 c1 S0 b2 oo io bo S2 bx
      go_upto_region 5 with fail
      rw [← hg2]
      obtain ⟨W, hW⟩ : ∃ W : World, W = w2.alloc (.cells #[.int .i64 (M : Int), .slice oa L.length oc] 26) := ⟨_, rfl⟩
      rw [← hW] at M2 ⊢
      clear hW hg2
      obtain ⟨⟨_, c0, c1⟩, is2, ⟨_, d0, d1⟩, _⟩ := M2.out
      go_wp2_with fail
      refine (dropS_was _ _ _ _ _ (M : Int) L true _ is2 hn HN.out HL.out HBB.out).mono ?_
      rintro e w3 ⟨vo, rfl, oo, b3⟩
      obtain ⟨xa, xc, rfl, io, _⟩ := oo.form
      have bo := bel1 w3 (.cells #[.int .i64 (M : Int), .slice xa L.length xc] 26)
      have bx := Box.new w3 (M : Int) xa L.length xc 26
      obtain ⟨g3, hg3⟩ : ∃ g3, g3 = w3.heap.size := ⟨_, rfl⟩
      rw [← hg3] at bx
      have M3 := hide (((M2.out.below b3).below bo).third bx (io.below bo))
      clear c0 c1 d0 d1 b3 oo io bo bx is2 M2
      go_upto_region 6 with fail
      rw [← hg3]
      obtain ⟨W3, hW⟩ : ∃ W : World, W = w3.alloc (.cells #[.int .i64 (M : Int), .slice xa L.length xc] 26) := ⟨_, rfl⟩
      rw [← hW] at M3 ⊢
      clear hW hg3
      obtain ⟨_, _, ⟨_, d0, d1⟩, io3, ⟨_, x0, x1⟩, ix3, _⟩ := M3.out
      go_wp2_with fail
      refine (equalSpace_was _ _ _ _ _ _ _ _ _ true io3 ix3 hLl hLl (eqS_refl _ _)).mono ?_
      rintro e w4 ⟨rfl, b4⟩
      have M10 := hide (M3.out.below b4)
      clear d0 d1 x0 x1 io3 ix3 b4 M3
      obtain ⟨⟨_, c0, c1⟩, is10, ⟨_, d0, d1⟩, io10, _⟩ := M10.out
      have f5 := H5.out
      have f6 := H6.out
      have hw2 : wrap64 (2 * (L.length : Int)) = 2 * (L.length : Int) := IntWalk.wrap64_in _ (by have := HSL.out; omega)
      have hw3 : IntKind.i64.wrap (2 * (L.length : Int)) = 2 * (L.length : Int) := IntWalk.i64_in _ (by have := HSL.out; omega)
      have hd1 : (L.length : Int) ≤ (ss.length : Int) := by omega
      have hd2 : (ss.length : Int) ≤ 2 * (L.length : Int) := by omega
      have hd3 : decide ((L.length : Int) ≤ (ss.length : Int)) = true := decide_eq_true hd1
      have hd4 : decide ((ss.length : Int) ≤ 2 * (L.length : Int)) = true := decide_eq_true hd2
      have hd5 : decide (L.length ≤ ss.length) = true := decide_eq_true f5
      go_upto_region 8 with fail
      cases r with
      | false =>
        cases q with
        | false =>
          go_wp2_with fail
          refine (implVSf_was _ _ _ _ true _ io10 hLl HVL.out).mono ?_
          rintro e w11 ⟨rfl, b11⟩
          have M11 := hide (M10.out.below b11)
          clear c0 c1 d0 d1 is10 io10 b11
          obtain ⟨⟨_, c0, c1⟩, is11, ⟨_, d0, d1⟩, io11, _⟩ := M11.out
          go_wp2_with fail
          refine (implMed_was _ _ _ _ _ false is11 hn HCV.out HR.out).mono ?_
          rintro e w12 ⟨rfl, b12⟩
          have M12 := hide (M11.out.below b12)
          clear c0 c1 d0 d1 is11 io11 b12
          obtain ⟨⟨_, c0, c1⟩, is12, ⟨_, d0, d1⟩, io12, _⟩ := M12.out
          go_wp2_with fail
          refine (implEvn_was _ _ _ _ _ false is12 hn HCV.out HQ.out).mono ?_
          rintro e w13 ⟨rfl, b13⟩
          have M13 := hide (M12.out.below b13)
          clear c0 c1 d0 d1 is12 io12 b13
          obtain ⟨⟨_, c0, c1⟩, is13, ⟨_, d0, d1⟩, io13, _⟩ := M13.out
          go_wp2
          go_ret
          exact ⟨rfl, bnext HB.out M13.out.2.2.2.2.2.2⟩
        | true =>
          go_wp2_with fail
          refine (implVSf_was _ _ _ _ true _ io10 hLl HVL.out).mono ?_
          rintro e w11 ⟨rfl, b11⟩
          have M11 := hide (M10.out.below b11)
          clear c0 c1 d0 d1 is10 io10 b11
          obtain ⟨⟨_, c0, c1⟩, is11, ⟨_, d0, d1⟩, io11, _⟩ := M11.out
          go_wp2_with fail
          refine (implMed_was _ _ _ _ _ false is11 hn HCV.out HR.out).mono ?_
          rintro e w12 ⟨rfl, b12⟩
          have M12 := hide (M11.out.below b12)
          clear c0 c1 d0 d1 is11 io11 b12
          obtain ⟨⟨_, c0, c1⟩, is12, ⟨_, d0, d1⟩, io12, _⟩ := M12.out
          go_wp2_with fail
          refine (implEvn_was _ _ _ _ _ true is12 hn HCV.out HQ.out).mono ?_
          rintro e w13 ⟨rfl, b13⟩
          have M13 := hide (M12.out.below b13)
          clear c0 c1 d0 d1 is12 io12 b13
          obtain ⟨⟨_, c0, c1⟩, is13, ⟨_, d0, d1⟩, io13, _⟩ := M13.out
          go_wp2_with fail
          refine (implEvn_was _ _ _ _ _ true io13 hLl HOC.out (HQ2.out (by simp))).mono ?_
          rintro e w14 ⟨rfl, b14⟩
          have M14 := hide (M13.out.below b14)
          clear c0 c1 d0 d1 is13 io13 b14
          obtain ⟨⟨_, c0, c1⟩, is14, ⟨_, d0, d1⟩, io14, _⟩ := M14.out
          go_wp2
          go_ret
          exact ⟨rfl, bnext HB.out M14.out.2.2.2.2.2.2⟩
      | true =>
        cases q with
        | false =>
          go_wp2_with fail
          refine (implVSf_was _ _ _ _ true _ io10 hLl HVL.out).mono ?_
          rintro e w11 ⟨rfl, b11⟩
          have M11 := hide (M10.out.below b11)
          clear c0 c1 d0 d1 is10 io10 b11
          obtain ⟨⟨_, c0, c1⟩, is11, ⟨_, d0, d1⟩, io11, _⟩ := M11.out
          go_wp2_with fail
          refine (implMed_was _ _ _ _ _ true is11 hn HCV.out HR.out).mono ?_
          rintro e w12 ⟨rfl, b12⟩
          have M12 := hide (M11.out.below b12)
          clear c0 c1 d0 d1 is11 io11 b12
          obtain ⟨⟨_, c0, c1⟩, is12, ⟨_, d0, d1⟩, io12, _⟩ := M12.out
          go_wp2_with fail
          refine (implMed_was _ _ _ _ _ true io12 hLl HOC.out (HR2.out (by simp))).mono ?_
          rintro e w13 ⟨rfl, b13⟩
          have M13 := hide (M12.out.below b13)
          clear c0 c1 d0 d1 is12 io12 b13
          obtain ⟨⟨_, c0, c1⟩, is13, ⟨_, d0, d1⟩, io13, _⟩ := M13.out
          go_wp2_with fail
          refine (implEvn_was _ _ _ _ _ false is13 hn HCV.out HQ.out).mono ?_
          rintro e w14 ⟨rfl, b14⟩
          have M14 := hide (M13.out.below b14)
          clear c0 c1 d0 d1 is13 io13 b14
          obtain ⟨⟨_, c0, c1⟩, is14, ⟨_, d0, d1⟩, io14, _⟩ := M14.out
          go_wp2
          go_ret
          exact ⟨rfl, bnext HB.out M14.out.2.2.2.2.2.2⟩
        | true =>
          go_wp2_with fail
          refine (implVSf_was _ _ _ _ true _ io10 hLl HVL.out).mono ?_
          rintro e w11 ⟨rfl, b11⟩
          have M11 := hide (M10.out.below b11)
          clear c0 c1 d0 d1 is10 io10 b11
          obtain ⟨⟨_, c0, c1⟩, is11, ⟨_, d0, d1⟩, io11, _⟩ := M11.out
          go_wp2_with fail
          refine (implMed_was _ _ _ _ _ true is11 hn HCV.out HR.out).mono ?_
          rintro e w12 ⟨rfl, b12⟩
          have M12 := hide (M11.out.below b12)
          clear c0 c1 d0 d1 is11 io11 b12
          obtain ⟨⟨_, c0, c1⟩, is12, ⟨_, d0, d1⟩, io12, _⟩ := M12.out
          go_wp2_with fail
          refine (implMed_was _ _ _ _ _ true io12 hLl HOC.out (HR2.out (by simp))).mono ?_
          rintro e w13 ⟨rfl, b13⟩
          have M13 := hide (M12.out.below b13)
          clear c0 c1 d0 d1 is12 io12 b13
          obtain ⟨⟨_, c0, c1⟩, is13, ⟨_, d0, d1⟩, io13, _⟩ := M13.out
          go_wp2_with fail
          refine (implEvn_was _ _ _ _ _ true is13 hn HCV.out HQ.out).mono ?_
          rintro e w14 ⟨rfl, b14⟩
          have M14 := hide (M13.out.below b14)
          clear c0 c1 d0 d1 is13 io13 b14
          obtain ⟨⟨_, c0, c1⟩, is14, ⟨_, d0, d1⟩, io14, _⟩ := M14.out
          go_wp2_with fail
          refine (implEvn_was _ _ _ _ _ true io14 hLl HOC.out (HQ2.out (by simp))).mono ?_
          rintro e w15 ⟨rfl, b15⟩
          have M15 := hide (M14.out.below b15)
          clear c0 c1 d0 d1 is14 io14 b15
          obtain ⟨⟨_, c0, c1⟩, is15, ⟨_, d0, d1⟩, io15, _⟩ := M15.out
          go_wp2
          go_ret
          exact ⟨rfl, bnext HB.out M15.out.2.2.2.2.2.2⟩
end Go.Proofs.Ytbnnblfgpdfmpaa
