/- The law FnExactLeadsOf answers true at every argument: its walk. -/
import Derived.Test.YtklgganapphioaaLdP
import Derived.Test.YtklgganapphioaaLdI
import Derived.Test.YtklgganapphioaaListLaw
import Derived.Deep.RegionWith
import Derived.Deep.DeepCutAuto
namespace Go.Proofs.Ytklgganapphioaa
open Go.RowKit Go.Joins

set_option maxHeartbeats 8000000 in
set_option maxRecDepth 100000 in
theorem walk_FnExactLeadsOf (n : Int) (a : Option Addr) (zs : List Int) (cap : Nat) (w : World) (_wn : (Lit.int .i64 n).wf = true) (hi : Ints w a zs) (hl : zs.length ≤ maxLen) :
    Calls Try.prog 4 #[.agg #[.int .i64 n, .slice a zs.length cap]] w fun e w' => e = .returned (.bool true) ∧ Below w.heap.size w w' := by
  by_cases h : 1048576 < zs.length
  · have hlt : left 1048576 zs.length < 0 := by unfold left; rw [if_pos (by omega)]; omega
    go_enter Try.func4, Try.ntmps4
    go_wp2_with fail
    refine (szSpace_any _ _ _ _ _ _ hl (by omega) (by omega)).mono ?_
    rintro e w1 ⟨rfl, hb1⟩
    go_wp2
    go_ret
    exact ⟨rfl, bnext (bel1 w _) hb1⟩
  · have hn : zs.length ≤ 1048576 := by omega
    have hlt : 0 ≤ left 1048576 zs.length := by unfold left; rw [if_neg (by omega)]; omega
    have S0 := SV.new w n a zs cap none [] 24 hi (Ints.nil _ _)
    have hL : (ci (ldR n zs)).length ≤ 1048576 := ldR_len n zs
    clear h hl hi
    go_enter Try.func4, Try.ntmps4
    go_wp2_with fail
    refine (szSpace_any _ _ _ _ _ _ (by unfold maxLen; omega) (by omega) (by omega)).mono ?_
    rintro e w1 ⟨rfl, B1⟩
    have S1 := S0.below B1
    clear B1 S0
    obtain ⟨⟨_, c0, c1⟩, _⟩ := S1.pair
    go_wp2_with fail
    refine (toSpace_any _ _ _ _ _ S1.2.1 hn).mono ?_
    rintro e w2 ⟨s2, rfl, own2, hb2⟩
    have S2 := S1.below hb2
    clear c0 c1 S1
    go_wp2_with fail
    refine (specLeadsOf_any _ _ _ _ _ own2.ints hn).mono ?_
    rintro e w4 ⟨vw, rfl, ow, hb4⟩
    have S4 := S2.below hb4
    obtain ⟨aw, cw, rfl, iw, _⟩ := ow.form
    clear own2 hb2 hb4 S2 ow
    obtain ⟨⟨_, c0, c1⟩, _⟩ := S4.pair
    go_wp2_with fail
    refine (toSpace_any _ _ _ _ _ S4.2.1 hn).mono ?_
    rintro e w5 ⟨s5, rfl, own5, hb5⟩
    have bx5 := Box.new w5 n (some ⟨s5, 0, none⟩) zs.length zs.length 28
    have ow5 := own5.below (bel1 w5 (.cells #[.int .i64 n, .slice (some ⟨s5, 0, none⟩) zs.length zs.length] 28))
    have B5 := bnext hb5 (bel1 w5 (.cells #[.int .i64 n, .slice (some ⟨s5, 0, none⟩) zs.length zs.length] 28))
    have hs5 : s5 < w5.heap.size := own_lt own5 s5 rfl
    have hg5 : w4.heap.size ≤ s5 := own_ge own5 s5 rfl
    clear own5 hb5 c0 c1
    go_wp2_with fail
    refine (implLeadsOf_any _ _ _ _ _ ow5.ints hn).mono ?_
    rintro e w7 ⟨vg, rfl, og, hb7⟩
    obtain ⟨ag, cg, rfl, ig, _⟩ := og.form
    simp only [World.size_alloc] at og
    have B7 := bnext B5 hb7
    have bx7 := bx5.below hb7
    have ow7 := ow5.below hb7
    clear B5 bx5 ow5 hb7
    go_wp2_with fail
    refine (eqIntS_yes _ _ _ _ _ _ ig (iw.below B7) hL).mono ?_
    rintro e w8 ⟨rfl, hb8⟩
    have B8 := bnext B7 hb8
    have og8 := og.below hb8
    have ox8 := ow7.below hb8
    have bx8 := bx7.below hb8
    have S8 := S4.below B8
    clear og ow7 bx7 B7 ig hb8
    obtain ⟨⟨_, c0, c1⟩, i8, _⟩ := S8.pair
    obtain ⟨_, x0, x1⟩ := bx8.pair
    go_upto_region 10 with fail
    go_cut [31] (fun s42 wx => s42 = .bool false ∧ Below w8.heap.size w8 wx)
    case first =>
      go_region_with ((first
        | (go_at_call 17; refine (toSpace_any _ _ _ _ _ S8.drew.2.1 hn).mono ?_; rintro e w9 ⟨s9, rfl, own9, hb9⟩; have hb9' := bdrew hb9; have ⟨_, y0, y1⟩ := (bx8.below hb9').pair)
        | (go_at_call 20; refine (eqSpace_yes _ _ _ _ _ _ _ (ox8.below hb9').ints own9.ints hn).mono ?_; rintro e w10 ⟨rfl, hb10⟩)))
      all_goals
        go_wp2_with fail
        go_meet
        exact ⟨rfl, bnext hb9' hb10⟩
    case rest =>
      obtain ⟨rfl, hbc⟩ := hcut
      have B12 := bnext B8 hbc
      have og12 := og8.below hbc
      have ox12 := ox8.below hbc
      have bx12 := bx8.below hbc
      clear og8 ox8 bx8 c0 c1 x0 x1 i8 B8 S8 hbc
      obtain ⟨_, x0, x1⟩ := bx12.pair
      go_wp2_with fail
      refine (markSpace_any _ _ _ _ _ _ _ ox12 hn (by omega) (by omega)).mono ?_
      rintro e w13 ⟨rfl, hg13⟩
      have og13 := own_kept og12 hg13 (fun k hk e => by cases hk; have h2 := own_ge og12 s5 e; omega)
      have B13 : Below w4.heap.size w4 w13 := bgrown B12 hg13 B12.size (fun k hk => by cases hk; exact hg5)
      clear hg13 B12 og12 ox12 bx12 x0 x1
      go_wp2_with fail
      refine (eqIntS_yes _ _ _ _ _ _ og13.ints (iw.below B13) hL).mono ?_
      rintro e w15 ⟨rfl, hb15⟩
      have B15 := bnext B13 hb15
      have og15 := og13.below hb15
      clear B13 og13 hb15
      go_wp2_with fail
      refine (markIntS_any _ _ _ _ _ og15 hL (by omega) (by omega)).mono ?_
      rintro e w16 ⟨rfl, og16, hg16⟩
      have B16 : Below w4.heap.size w4 w16 := bgrown B15 hg16 B15.size (fun k hk => by have := own_ge og15 k hk; omega)
      clear B15 og15 hg16
      go_wp2_with fail
      refine (held_yes _ _ _ _ _ og16.ints hL (by omega) (by omega)).mono ?_
      rintro e w17 ⟨rfl, hb17⟩
      have B17 := bnext B16 hb17
      have og17 := og16.below hb17
      clear B16 og16 hb17
      have S17 := S4.below B17
      obtain ⟨⟨_, c0, c1⟩, i17, _, _⟩ := S17.pair
      go_wp2_with fail
      refine (toSpace_any _ _ _ _ _ i17 hn).mono ?_
      rintro e w18 ⟨s18, rfl, own18, hb18⟩
      clear c0 c1 i17
      go_wp2_with fail
      refine (implLeadsOf_any _ _ _ _ _ own18.ints hn).mono ?_
      rintro e w20 ⟨vh, rfl, oh, hb20⟩
      obtain ⟨ah, ch, rfl, ih, _⟩ := oh.form
      have hb20' := bnext hb18 hb20
      have B20 := bnext B17 hb20'
      have og20 := og17.below hb20'
      clear hb18 hb20 hb20' own18 oh B17 og17 S17
      go_wp2_with fail
      refine (eqIntS_yes _ _ _ _ _ _ ih (iw.below B20) hL).mono ?_
      rintro e w21 ⟨rfl, hb21⟩
      have B21 := bnext B20 hb21
      have og21 := og20.below hb21
      clear B20 og20 hb21 ih
      go_wp2_with fail
      refine (held_yes _ _ _ _ _ og21.ints hL (by omega) (by omega)).mono ?_
      rintro e w22 ⟨rfl, hb22⟩
      go_wp2
      go_ret
      exact ⟨rfl, (S4.below (bnext B21 hb22)).2.2.2⟩
end Go.Proofs.Ytklgganapphioaa
