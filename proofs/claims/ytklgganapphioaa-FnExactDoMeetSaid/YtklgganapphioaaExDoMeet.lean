/- The law FnExactDoMeet answers true at every argument: its walk. -/
import Derived.Test.YtklgganapphioaaMtD
import Derived.Test.YtklgganapphioaaMtJ
import Derived.Test.YtklgganapphioaaRule
import Derived.Deep.RegionWith
import Derived.Deep.RegionHeld3
import Derived.Deep.DeepCutAuto
namespace Go.Proofs.Ytklgganapphioaa
open Go.RowKit Go.Joins

set_option maxHeartbeats 8000000 in
set_option maxRecDepth 100000 in
theorem walk_FnExactDoMeet (n : Int) (a : Option Addr) (zs : List Int) (cap : Nat) (v : Int) (b : Option Addr) (ws : List Int) (capb : Nat) (w : World) (_wn : (Lit.int .i64 n).wf = true) (hi : Ints w a zs) (hl : zs.length ≤ maxLen) (_wv : (Lit.int .i64 v).wf = true) (hj : Ints w b ws) (hm : ws.length ≤ maxLen) :
    Calls Try.prog 7 #[.agg #[.int .i64 n, .slice a zs.length cap], .agg #[.int .i64 v, .slice b ws.length capb]] w fun e w' => e = .returned (.bool true) ∧ Below w.heap.size w w' := by
  have S0 := SR.new w n v a b zs ws cap capb 24 43 hi hj
  clear hi hj
  by_cases h : 1048576 < zs.length
  · have hlt : left 1048576 zs.length < 0 := by unfold left; rw [if_pos (by omega)]; omega
    go_enter Try.func7, Try.ntmps7
    go_wp2_with fail
    refine (szSpace_any _ _ _ _ _ _ hl (by omega) (by omega)).mono ?_
    rintro e w1 ⟨rfl, hb1⟩
    go_wp2
    go_ret
    exact ⟨rfl, (S0.below hb1).2.2.2.2⟩
  · have hlt : 0 ≤ left 1048576 zs.length := by unfold left; rw [if_neg (by omega)]; omega
    have hle : left 1048576 zs.length ≤ 1048576 := by unfold left; rw [if_neg (by omega)]; omega
    have hn : zs.length ≤ 1048576 := by omega
    clear h
    by_cases h : left 1048576 zs.length < ws.length
    · have hlt2 : left (left 1048576 zs.length) ws.length < 0 := by rw [left, if_pos (by omega)]; omega
      clear h
      go_enter Try.func7, Try.ntmps7
      go_wp2_with fail
      refine (szSpace_any _ _ _ _ _ _ hl (by omega) (by omega)).mono ?_
      rintro e w1 ⟨rfl, hb1⟩
      have S1 := S0.below hb1
      have HS := hide S1
      clear S0 hb1
      obtain ⟨⟨_, c0, c1⟩, ⟨_, d0, d1⟩, _⟩ := S1
      go_wp2_with fail
      refine (szRule_any _ _ _ _ _ _ hm (by omega) (by omega)).mono ?_
      rintro e w2 ⟨rfl, hb2⟩
      go_wp2
      go_ret
      exact ⟨rfl, (HS.out.below hb2).2.2.2.2⟩
    · have hlt2 : 0 ≤ left (left 1048576 zs.length) ws.length := by rw [left, if_neg (by omega)]; omega
      have hm' : ws.length ≤ 1048576 := by omega
      have hne : ((meetR n zs v ws) != (meetR n zs v ws)) = false := by simp
      clear h
      go_enter Try.func7, Try.ntmps7
      go_wp2_with fail
      refine (szSpace_any _ _ _ _ _ _ hl (by omega) (by omega)).mono ?_
      rintro e w1 ⟨rfl, hb1⟩
      have S1 := S0.below hb1
      have HS1 := hide S1
      clear S0 hb1
      obtain ⟨⟨_, c0, c1⟩, ⟨_, d0, d1⟩, _⟩ := S1
      go_wp2_with fail
      refine (szRule_any _ _ _ _ _ _ hm (by omega) (by omega)).mono ?_
      rintro e w2 ⟨rfl, hb2⟩
      have S2 := HS1.out.below hb2
      clear hb2 HS1 c0 c1 d0 d1 hlt hle
      have HS2 := hide S2
      obtain ⟨⟨_, c0, c1⟩, ⟨_, d0, d1⟩, _⟩ := S2
      go_upto_region 8 with fail
      go_cut [6] (fun s6 wx => s6 = .bool (meetR n zs v ws) ∧ SR w n a zs cap v b ws capb wx)
      case first =>
        go_region_with ((first
          | (go_at_call 17; refine (toSpace_any _ _ _ _ _ (HS2.out.below (bdrew' (Below.refl _ _))).2.2.1 hn).mono ?_; rintro e w3 ⟨s3, rfl, own3, hb3⟩; have ⟨⟨_, e0, e1⟩, ⟨_, f0, f1⟩, _⟩ := HS2.out.below (bdrew hb3))
          | (go_at_call 36; refine (toRule_any _ _ _ _ _ (HS2.out.below (bdrew' (Below.refl _ _))).2.2.2.1 hm').mono ?_; rintro e w4 ⟨s4, rfl, own4, hb4⟩; have ⟨⟨_, e0, e1⟩, ⟨_, f0, f1⟩, _⟩ := HS2.out.below (bdrew hb4))
          | (go_at_call 17; refine (toSpace_any _ _ _ _ _ (HS2.out.below (bdrew hb4)).2.2.1 hn).mono ?_; rintro e w3 ⟨s3, rfl, own3, hb3⟩; have own4' := own4.below hb3; have S5 := (HS2.out.below (bdrew hb4)).below hb3)
          | (go_at_call 36; refine (toRule_any _ _ _ _ _ (HS2.out.below (bdrew hb3)).2.2.2.1 hm').mono ?_; rintro e w4 ⟨s4, rfl, own4, hb4⟩; have own3' := own3.below hb4; have S5 := (HS2.out.below (bdrew hb3)).below hb4)
          | (refine (specDoMeet_any _ _ _ _ _ _ _ _ _ own3'.ints own4.ints hn hm').mono ?_; rintro e w5 ⟨rfl, hb5⟩; have S6 := S5.below hb5)
          | (refine (specDoMeet_any _ _ _ _ _ _ _ _ _ own3.ints own4'.ints hn hm').mono ?_; rintro e w5 ⟨rfl, hb5⟩; have S6 := S5.below hb5)))
        all_goals
          have HS6 := hide S6
          clear S6
          go_wp2_with fail
          go_meet
          exact ⟨rfl, HS6.out⟩
      case rest =>
        obtain ⟨rfl, S5⟩ := hcut
        clear HS2 c0 c1 d0 d1
        have HS5 := hide S5
        obtain ⟨⟨_, c0, c1⟩, ⟨_, d0, d1⟩, _⟩ := S5
        go_wp2_with fail
        refine (toSpace_any _ _ _ _ _ HS5.out.2.2.1 hn).mono ?_
        rintro e w6 ⟨s6, rfl, own6, hb6⟩
        have X7 := hide (RCopy.new w6 n s6 zs 28 own6.ints)
        have S7 := (HS5.out.below hb6).below (bel1 w6 (.cells #[.int .i64 n, .slice (some ⟨s6, 0, none⟩) zs.length zs.length] 28))
        have HS7 := hide S7
        clear HS5 c0 c1 d0 d1 own6 hb6
        obtain ⟨⟨_, c0, c1⟩, ⟨_, d0, d1⟩, _⟩ := S7
        go_wp2_with fail
        refine (toRule_any _ _ _ _ _ HS7.out.2.2.2.1 hm').mono ?_
        rintro e w8 ⟨s8, rfl, own8, hb8⟩
        have bA := bel1 w8 (.cells #[.int .i64 v, .slice (some ⟨s8, 0, none⟩) ws.length ws.length] 46)
        have Y9 := RCopy.new w8 v s8 ws 46 own8.ints
        have X9 := (X7.out.below hb8).below bA
        have S9 := (HS7.out.below hb8).below bA
        have HS9 := hide S9
        have HX9 := hide X9
        have HY9 := hide Y9
        clear HS7 X7 c0 c1 d0 d1 own8 hb8 bA
        obtain ⟨⟨_, c0, c1⟩, ⟨_, d0, d1⟩, _⟩ := S9
        obtain ⟨⟨_, x0, x1⟩, _⟩ := X9.pair
        obtain ⟨⟨_, y0, y1⟩, _⟩ := Y9.pair
        go_wp2_with fail
        refine (implDoMeet_any _ _ _ _ _ _ _ _ _ HX9.out.2 HY9.out.2 hn hm').mono ?_
        rintro e w10 ⟨rfl, hb10⟩
        have S11 := HS9.out.below hb10
        have X11 := HX9.out.below hb10
        have Y11 := HY9.out.below hb10
        clear c0 c1 d0 d1 x0 x1 y0 y1 HS9 HX9 HY9 hb10
        have HS11 := hide S11
        have HX11 := hide X11
        have HY11 := hide Y11
        obtain ⟨⟨_, c0, c1⟩, ⟨_, d0, d1⟩, _⟩ := S11
        obtain ⟨⟨_, x0, x1⟩, _⟩ := X11.pair
        go_upto_region 14 with fail
        go_cut [39] (fun s39 wx => s39 = .bool false ∧ Below w10.heap.size w10 wx)
        case first =>
          go_region_with ((first
            | (go_at_call 17; refine (toSpace_any _ _ _ _ _ (HS11.out.below (bdrew' (Below.refl _ _))).2.2.1 hn).mono ?_; rintro e w12 ⟨s12, rfl, own12, hb12⟩; have hb12' := bdrew hb12; have ⟨⟨_, z0, z1⟩, _⟩ := (HX11.out.below hb12').pair)
            | (go_at_call 20; refine (eqSpace_yes _ _ _ _ _ _ _ (HX11.out.below hb12').2 own12.ints hn).mono ?_; rintro e w13 ⟨rfl, hb13⟩)))
          all_goals
            go_wp2_with fail
            go_meet
            exact ⟨rfl, bnext hb12' hb13⟩
        case rest =>
          obtain ⟨rfl, hbc⟩ := hcut
          have S14 := HS11.out.below hbc
          have Y14 := HY11.out.below hbc
          clear c0 c1 d0 d1 x0 x1 HS11 HX11 HY11 hbc
          have HS14 := hide S14
          have HY14 := hide Y14
          obtain ⟨⟨_, c0, c1⟩, ⟨_, d0, d1⟩, _⟩ := S14
          obtain ⟨⟨_, y0, y1⟩, _⟩ := Y14.pair
          go_upto_region 16 with fail
          go_region_with ((first
            | (go_at_call 36; refine (toRule_any _ _ _ _ _ (HS14.out.below (bdrew' (Below.refl _ _))).2.2.2.1 hm').mono ?_; rintro e w15 ⟨s15, rfl, own15, hb15⟩; have hb15' := bdrew hb15; have ⟨⟨_, z0, z1⟩, _⟩ := (HY14.out.below hb15').pair)
            | (go_at_call 38; refine (eqRule_yes _ _ _ _ _ _ _ (HY14.out.below hb15').2 own15.ints hm').mono ?_; rintro e w16 ⟨rfl, hb16⟩)))
          all_goals
            go_wp2
            go_ret
            exact ⟨rfl, ((HS14.out.below hb15').below hb16).2.2.2.2⟩
end Go.Proofs.Ytklgganapphioaa
