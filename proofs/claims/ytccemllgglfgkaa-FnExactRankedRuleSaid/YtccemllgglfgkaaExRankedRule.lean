/- The law FnExactRankedRule answers true at every argument: its walk. -/
import Derived.Test.YtccemllgglfgkaaRankR
import Derived.Test.YtccemllgglfgkaaListLaw
import Derived.Deep.RegionWith
import Derived.Deep.DeepCutAuto
namespace Go.Proofs.Ytccemllgglfgkaa
open Go.RowKit Go.Joins

set_option maxHeartbeats 8000000 in
set_option maxRecDepth 100000 in
theorem walk_FnExactRankedRule (n : Int) (a : Option Addr) (zs : List Int) (cap : Nat) (l : Option Addr) (ls : List Int) (capl : Nat) (w : World) (_wn : (Lit.int .i64 n).wf = true) (hi : Ints w a zs) (hl : zs.length ≤ maxLen) (hj : Ints w l ls) (hm : ls.length ≤ maxLen) :
    Calls Try.prog 9 #[.agg #[.int .i64 n, .slice a zs.length cap], .slice l ls.length capl] w fun e w' => e = .returned (.bool true) ∧ Below w.heap.size w w' := by
  by_cases h1 : 1048576 < ls.length
  · unfold maxLen at hm
    go_enter Try.func9, Try.ntmps9
    go_wp2_with fail
    go_ret
    exact ⟨rfl, bel1 w _⟩
  · have hm' : ls.length ≤ 1048576 := by omega
    clear h1 hm
    by_cases h : 1048576 < zs.length
    · have hlt : left 1048576 zs.length < 0 := by unfold left; rw [if_pos (by omega)]; omega
      go_enter Try.func9, Try.ntmps9
      go_wp2_with fail
      refine (szSpace_any _ _ _ _ _ _ hl (by omega) (by omega)).mono ?_
      rintro e w1 ⟨rfl, hb1⟩
      go_wp2
      go_ret
      exact ⟨rfl, bnext (bel1 w _) hb1⟩
    · have hn : zs.length ≤ 1048576 := by omega
      have hlt : 0 ≤ left 1048576 zs.length := by unfold left; rw [if_neg (by omega)]; omega
      have S0 := SV.new w n a zs cap l ls 24 hi hj
      have hne : ((rankV n zs ls) != (rankV n zs ls)) = false := by simp
      clear h hl hi hj
      go_enter Try.func9, Try.ntmps9
      go_wp2_with fail
      refine (szSpace_any _ _ _ _ _ _ (by unfold maxLen; omega) (by omega) (by omega)).mono ?_
      rintro e w1 ⟨rfl, B1⟩
      have S1 := S0.below B1
      clear B1 S0
      obtain ⟨⟨_, c0, c1⟩, _⟩ := S1.pair
      go_wp2_with fail
      refine (toSpace_any _ _ _ _ _ S1.2.1 hn).mono ?_
      rintro e w2 ⟨s2, rfl, own2, hb2⟩
      have S2 := S1.below hb2
      clear c0 c1 S1
      go_wp2_with fail
      refine (toIntS_any _ _ _ _ S2.2.2.1 hm').mono ?_
      rintro e w3 ⟨rfl, own3, hb3⟩
      go_wp2_with fail
      refine (specRankedRule_any _ _ _ _ _ _ _ _ (own2.ints.below hb3) own3.ints hn hm').mono ?_
      rintro e w4 ⟨rfl, hb4⟩
      have S4 := (S2.below hb3).below hb4
      clear own2 own3 hb2 hb3 hb4 S2
      obtain ⟨⟨_, c0, c1⟩, _⟩ := S4.pair
      go_wp2_with fail
      refine (toSpace_any _ _ _ _ _ S4.2.1 hn).mono ?_
      rintro e w5 ⟨s5, rfl, own5, hb5⟩
      have bx5 := Box.new w5 n (some ⟨s5, 0, none⟩) zs.length zs.length 28
      have ow5 := own5.below (bel1 w5 (.cells #[.int .i64 n, .slice (some ⟨s5, 0, none⟩) zs.length zs.length] 28))
      have B5 := bnext hb5 (bel1 w5 (.cells #[.int .i64 n, .slice (some ⟨s5, 0, none⟩) zs.length zs.length] 28))
      clear own5 hb5 c0 c1
      go_wp2_with fail
      refine (toIntS_any _ _ _ _ (S4.below B5).2.2.1 hm').mono ?_
      rintro e w6 ⟨rfl, ow6, hb6⟩
      have B6 := bnext B5 hb6
      have ox6 := ow5.below hb6
      have bx6 := bx5.below hb6
      simp only [World.size_alloc] at ow6
      clear B5 ow5 bx5 hb6
      obtain ⟨_, x0, x1⟩ := bx6.pair
      go_wp2_with fail
      refine (implRankedRule_any _ _ _ _ _ _ _ _ ox6.ints ow6.ints hn hm').mono ?_
      rintro e w8 ⟨rfl, hb7⟩
      have B8 := bnext B6 hb7
      have ox8 := ox6.below hb7
      have ow8 := ow6.below hb7
      have bx8 := bx6.below hb7
      have S8 := S4.below B8
      clear ox6 ow6 bx6 B6 hb7 x0 x1
      obtain ⟨⟨_, c0, c1⟩, i8, _⟩ := S8.pair
      obtain ⟨_, x0, x1⟩ := bx8.pair
      go_upto_region 13 with fail
      go_region_with ((first
        | (go_at_call 13; refine (toSpace_any _ _ _ _ _ S8.drew.2.1 hn).mono ?_; rintro e w9 ⟨s9, rfl, own9, hb9⟩; have hb9' := bdrew hb9; have ⟨_, y0, y1⟩ := (bx8.below hb9').pair)
        | (go_at_call 17; refine (eqSpace_yes _ _ _ _ _ _ _ (ox8.below hb9').ints own9.ints hn).mono ?_; rintro e w10 ⟨rfl, hb10⟩)))
      all_goals
        have hbc := bnext hb9' hb10
        go_wp2_with fail
        refine (toIntS_any _ _ _ _ (S8.below hbc).2.2.1 hm').mono ?_
        rintro e w11 ⟨rfl, own11, hb11⟩
        go_wp2_with fail
        refine (eqIntS_yes _ _ _ _ _ _ ((ow8.below hbc).below hb11).ints own11.ints hm').mono ?_
        rintro e w12 ⟨rfl, hb12⟩
        go_wp2
        go_ret
        exact ⟨rfl, (((S8.below hbc).below hb11).below hb12).2.2.2⟩
end Go.Proofs.Ytccemllgglfgkaa
