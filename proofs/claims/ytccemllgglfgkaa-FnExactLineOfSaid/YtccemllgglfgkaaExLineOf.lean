/- The law FnExactLineOf answers true at every argument: its walk. -/
import Derived.Test.YtccemllgglfgkaaLinO
import Derived.Test.YtccemllgglfgkaaListLaw
import Derived.Deep.RegionWith
import Derived.Deep.DeepCutAuto
namespace Go.Proofs.Ytccemllgglfgkaa
open Go.RowKit Go.Joins

set_option maxHeartbeats 8000000 in
set_option maxRecDepth 100000 in
theorem walk_FnExactLineOf (n : Int) (a : Option Addr) (zs : List Int) (cap : Nat) (l : Option Addr) (ls : List Int) (capl : Nat) (w : World) (_wn : (Lit.int .i64 n).wf = true) (hi : Ints w a zs) (hl : zs.length ≤ maxLen) (hj : Ints w l ls) (hm : ls.length ≤ maxLen) :
    Calls Try.prog 3 #[.agg #[.int .i64 n, .slice a zs.length cap], .slice l ls.length capl] w fun e w' => e = .returned (.bool true) ∧ Below w.heap.size w w' := by
  by_cases h1 : 1048576 < ls.length
  · unfold maxLen at hm
    go_enter Try.func3, Try.ntmps3
    go_wp2_with fail
    go_ret
    exact ⟨rfl, bel1 w _⟩
  · have hm' : ls.length ≤ 1048576 := by omega
    clear h1 hm
    by_cases h : 1048576 < zs.length
    · have hlt : left 1048576 zs.length < 0 := by unfold left; rw [if_pos (by omega)]; omega
      go_enter Try.func3, Try.ntmps3
      go_wp2_with fail
      refine (szSpace_any _ _ _ _ _ _ hl (by omega) (by omega)).mono ?_
      rintro e w1 ⟨rfl, hb1⟩
      go_wp2
      go_ret
      exact ⟨rfl, bnext (bel1 w _) hb1⟩
    · have hn : zs.length ≤ 1048576 := by omega
      have hlt : 0 ≤ left 1048576 zs.length := by unfold left; rw [if_neg (by omega)]; omega
      have S0 := SV.new w n a zs cap l ls 24 hi hj
      have hL : (liV n zs ls).length ≤ 1048576 := Nat.le_trans (liV_len n zs ls) (by omega)
      have hbb : (liO n zs ls != liO n zs ls) = false := by simp
      clear h hl hi hj
      go_enter Try.func3, Try.ntmps3
      go_wp2_with fail
      refine (szSpace_any _ _ _ _ _ _ (by unfold maxLen; omega) (by omega) (by omega)).mono ?_
      rintro e w1 ⟨rfl, B1⟩
      have S1 := S0.below B1
      clear B1 S0
      obtain ⟨⟨_, c0, c1⟩, _⟩ := S1.pair
      go_wp2_with fail
      refine (toSpace_any _ _ _ _ _ S1.2.1 hn).mono ?_
      rintro e w2 ⟨s2, rfl, own2, hb2⟩
      have S2 := S1.below hb2
      clear c0 c1 S1
      go_wp2_with fail
      refine (toIntS_any _ _ _ _ S2.2.2.1 hm').mono ?_
      rintro e w3 ⟨rfl, own3, hb3⟩
      go_wp2_with fail
      refine (specLineOf_any _ _ _ _ _ _ _ _ (own2.ints.below hb3) own3.ints hn hm').mono ?_
      rintro e w4 ⟨vw, rfl, ow, hb4⟩
      have S4 := (S2.below hb3).below hb4
      obtain ⟨aw, cw, rfl, iw, _⟩ := ow.form
      clear own2 own3 hb2 hb3 hb4 S2 ow
      obtain ⟨⟨_, c0, c1⟩, _⟩ := S4.pair
      go_wp2_with fail
      refine (toSpace_any _ _ _ _ _ S4.2.1 hn).mono ?_
      rintro e w5 ⟨s5, rfl, own5, hb5⟩
      have bx5 := Box.new w5 n (some ⟨s5, 0, none⟩) zs.length zs.length 28
      have ow5 := own5.below (bel1 w5 (.cells #[.int .i64 n, .slice (some ⟨s5, 0, none⟩) zs.length zs.length] 28))
      have B5 := bnext hb5 (bel1 w5 (.cells #[.int .i64 n, .slice (some ⟨s5, 0, none⟩) zs.length zs.length] 28))
      have hs5 : s5 < w5.heap.size := own_lt own5 s5 rfl
      have hg5 : w4.heap.size ≤ s5 := own_ge own5 s5 rfl
      clear own5 hb5 c0 c1
      go_wp2_with fail
      refine (toIntS_any _ _ _ _ (S4.below B5).2.2.1 hm').mono ?_
      rintro e w6 ⟨rfl, ow6, hb6⟩
      have B6 := bnext B5 hb6
      have ox6 := ow5.below hb6
      have bx6 := bx5.below hb6
      simp only [World.size_alloc] at ow6 hb6
      have hz6 := hb6.size
      simp only [World.size_alloc] at hz6
      have hz6' := own_lt ow6 (w5.heap.size + 1) rfl
      clear B5 ow5 bx5 hb6
      obtain ⟨_, x0, x1⟩ := bx6.pair
      go_wp2_with fail
      refine (implLineOf_any _ _ _ _ _ _ _ _ ox6.ints ow6.ints hn hm').mono ?_
      rintro e w7 ⟨vg, rfl, og, hb7⟩
      obtain ⟨ag, cg, rfl, ig, _⟩ := og.form
      have B7 := bnext B6 hb7
      clear x0 x1 B6
      go_wp2_with fail
      refine (eqIntS_yes _ _ _ _ _ _ ig (iw.below B7) hL).mono ?_
      rintro e w8 ⟨rfl, hb8⟩
      have B8 := bnext B7 hb8
      have og8 := og.below hb8
      have ox8 := (ox6.below hb7).below hb8
      have ow8 := (ow6.below hb7).below hb8
      have bx8 := (bx6.below hb7).below hb8
      have S8 := S4.below B8
      clear og ox6 ow6 bx6 B7 ig hb8 hb7
      obtain ⟨⟨_, c0, c1⟩, i8, _⟩ := S8.pair
      obtain ⟨_, x0, x1⟩ := bx8.pair
      go_upto_region 13 with fail
      go_cut [56] (fun s56 wx => s56 = .bool false ∧ Below w8.heap.size w8 wx)
      case first =>
        go_region_with ((first
          | (go_at_call 13; refine (toSpace_any _ _ _ _ _ S8.drew.2.1 hn).mono ?_; rintro e w9 ⟨s9, rfl, own9, hb9⟩; have hb9' := bdrew hb9; have ⟨_, y0, y1⟩ := (bx8.below hb9').pair)
          | (go_at_call 17; refine (eqSpace_yes _ _ _ _ _ _ _ (ox8.below hb9').ints own9.ints hn).mono ?_; rintro e w10 ⟨rfl, hb10⟩)))
        all_goals
          go_wp2_with fail
          go_meet
          exact ⟨rfl, bnext hb9' hb10⟩
      case rest =>
        obtain ⟨rfl, hbc⟩ := hcut
        have hsz := B8.size
        have Bc := bnext B8 hbc
        have ogc := og8.below hbc
        have oxc := ox8.below hbc
        have owc := ow8.below hbc
        have bxc := bx8.below hbc
        clear og8 ox8 ow8 bx8 c0 c1 x0 x1 i8 B8 S8
        go_wp2_with fail
        refine (toIntS_any _ _ _ _ (S4.below Bc).2.2.1 hm').mono ?_
        rintro e w11 ⟨rfl, own11, hb11⟩
        go_wp2_with fail
        refine (eqIntS_yes _ _ _ _ _ _ (owc.below hb11).ints own11.ints hm').mono ?_
        rintro e w12 ⟨rfl, hb12⟩
        have hb12' := bnext hb11 hb12
        have B12 := bnext Bc hb12'
        have og12 := ogc.below hb12'
        have ox12 := oxc.below hb12'
        have ow12 := owc.below hb12'
        have bx12 := bxc.below hb12'
        clear ogc oxc owc bxc hb11 hb12 hb12' own11 Bc
        obtain ⟨_, x0, x1⟩ := bx12.pair
        go_wp2_with fail
        refine (markSpace_any _ _ _ _ _ _ _ ox12 hn (by omega) (by omega)).mono ?_
        rintro e w13 ⟨rfl, hg13⟩
        have ow13 := own_kept ow12 hg13 (fun k hk e => by cases hk; have := own_ge ow12 s5 e; omega)
        have og13 := own_kept og12 hg13 (fun k hk e => by cases hk; have := own_ge og12 s5 e; omega)
        have B13 : Below w4.heap.size w4 w13 := bgrown B12 hg13 B12.size (fun k hk => by cases hk; exact hg5)
        clear hg13 B12 og12 ox12 ow12 bx12 x0 x1
        go_wp2_with fail
        refine (markIntS_any _ _ _ _ _ ow13 hm' (by omega) (by omega)).mono ?_
        rintro e w14 ⟨rfl, _, hg14⟩
        have og14 := own_kept og13 hg14 (fun k hk e => by cases hk; have h2 := own_ge og13 _ e; dsimp only at h2; omega)
        have B14 : Below w4.heap.size w4 w14 := bgrown B13 hg14 B13.size (fun k hk => by have := own_ge ow13 k hk; have := B13.size; omega)
        clear hg14 B13 og13 ow13
        go_wp2_with fail
        refine (eqIntS_yes _ _ _ _ _ _ og14.ints (iw.below B14) hL).mono ?_
        rintro e w15 ⟨rfl, hb15⟩
        have B15 := bnext B14 hb15
        have og15 := og14.below hb15
        clear B14 og14 hb15
        go_wp2_with fail
        refine (markIntS_any _ _ _ _ _ og15 hL (by omega) (by omega)).mono ?_
        rintro e w16 ⟨rfl, og16, hg16⟩
        have B16 : Below w4.heap.size w4 w16 := bgrown B15 hg16 B15.size (fun k hk => by have := own_ge og15 k hk; omega)
        clear B15 og15 hg16
        go_wp2_with fail
        refine (held_yes _ _ _ _ _ og16.ints hL (by omega) (by omega)).mono ?_
        rintro e w17 ⟨rfl, hb17⟩
        have B17 := bnext B16 hb17
        have og17 := og16.below hb17
        clear B16 og16 hb17
        have S17 := S4.below B17
        obtain ⟨⟨_, c0, c1⟩, i17, l17, _⟩ := S17.pair
        go_wp2_with fail
        refine (toSpace_any _ _ _ _ _ i17 hn).mono ?_
        rintro e w18 ⟨s18, rfl, own18, hb18⟩
        clear c0 c1 i17
        go_wp2_with fail
        refine (toIntS_any _ _ _ _ (l17.below hb18) hm').mono ?_
        rintro e w19 ⟨rfl, own19, hb19⟩
        go_wp2_with fail
        refine (implLineOf_any _ _ _ _ _ _ _ _ (own18.ints.below hb19) own19.ints hn hm').mono ?_
        rintro e w20 ⟨vh, rfl, oh, hb20⟩
        obtain ⟨ah, ch, rfl, ih, _⟩ := oh.form
        have hb20' := bnext (bnext hb18 hb19) hb20
        have B20 := bnext B17 hb20'
        have og20 := og17.below hb20'
        clear hb18 hb19 hb20 hb20' own18 own19 oh B17 og17 S17
        go_wp2_with fail
        refine (eqIntS_yes _ _ _ _ _ _ ih (iw.below B20) hL).mono ?_
        rintro e w21 ⟨rfl, hb21⟩
        have B21 := bnext B20 hb21
        have og21 := og20.below hb21
        clear B20 og20 hb21 ih
        go_wp2_with fail
        refine (held_yes _ _ _ _ _ og21.ints hL (by omega) (by omega)).mono ?_
        rintro e w22 ⟨rfl, hb22⟩
        go_wp2
        go_ret
        exact ⟨rfl, (S4.below (bnext B21 hb22)).2.2.2⟩
end Go.Proofs.Ytccemllgglfgkaa
