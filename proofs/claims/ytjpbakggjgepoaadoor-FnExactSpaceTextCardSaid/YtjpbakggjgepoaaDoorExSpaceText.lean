/- The law FnExactSpaceText answers true at every argument: its walk. -/
import Derived.Test.YtjpbakggjgepoaaDoorTxtI
import Derived.Deep.RegionWith
namespace Go.Proofs.YtjpbakggjgepoaaDoor
open Go.RowKit Go.Joins

set_option maxHeartbeats 1000000 in
theorem walk_FnExactSpaceText (n : Int) (a : Option Addr) (zs : List Int) (cap : Nat) (w : World) (_wn : (Lit.int .i64 n).wf = true) (hi : Ints w a zs) (hl : zs.length ≤ maxLen) :
    Calls Tryd.prog 3 #[.agg #[.int .i64 n, .slice a zs.length cap]] w fun e w' => e = .returned (.bool true) ∧ Below w.heap.size w w' := by
  by_cases h : 1048576 < zs.length
  · have hlt : left 1048576 zs.length < 0 := by unfold left; rw [if_pos (by omega)]; omega
    go_enter Tryd.func3, Tryd.ntmps3
    go_wp2_with fail
    refine (szSpace_any _ _ _ _ _ _ hl (by omega) (by omega)).mono ?_
    rintro e w1 ⟨rfl, hb1⟩
    go_wp2
    go_ret
    exact ⟨rfl, (bel1 w _).trans (hb1.mono (by simp))⟩
  · have hn : zs.length ≤ 1048576 := by omega
    have hlt : 0 ≤ left 1048576 zs.length := by unfold left; rw [if_neg (by omega)]; omega
    clear h hl
    go_enter Tryd.func3, Tryd.ntmps3
    go_wp2_with fail
    have bx := Box.new w n a zs.length cap 24
    have ia := hi.below (bel1 w (.cells #[.int .i64 n, .slice a zs.length cap] 24))
    clear hi
    refine (szSpace_any _ _ _ _ _ _ (by unfold maxLen; omega) (by omega) (by omega)).mono ?_
    rintro e w1 ⟨rfl, B1⟩
    obtain ⟨_, c0, c1⟩ := bx.below B1
    go_wp2_with fail
    refine (toSpace_any _ _ _ _ _ (ia.below B1) hn).mono ?_
    rintro e w2 ⟨s2, rfl, own2, hb2⟩
    clear c0 c1
    go_wp2_with fail
    refine (specText_any _ _ _ _ _ own2.ints hn).mono ?_
    rintro e w3 ⟨rfl, hb3⟩
    have B3 := bnext (bnext B1 hb2) hb3
    clear hb2 hb3 own2 B1
    obtain ⟨_, c0, c1⟩ := bx.below B3
    go_wp2_with fail
    refine (toSpace_any _ _ _ _ _ (ia.below B3) hn).mono ?_
    rintro e w4 ⟨s4, rfl, own4, hb4⟩
    have B4 := bnext B3 hb4
    have i4 := own4.ints
    clear c0 c1 hb4 B3 own4
    go_wp2_with fail
    have bx4 := Box.new w4 n (some ⟨s4, 0, none⟩) zs.length zs.length 27
    have j4 := i4.below (bel1 w4 (.cells #[.int .i64 n, .slice (some ⟨s4, 0, none⟩) zs.length zs.length] 27))
    have B5 := bnext B4 (bel1 w4 (.cells #[.int .i64 n, .slice (some ⟨s4, 0, none⟩) zs.length zs.length] 27))
    clear i4 B4
    refine (implText_any _ _ _ _ _ j4 hn).mono ?_
    rintro e w5 ⟨rfl, hb5⟩
    have B6 := bnext B5 hb5
    obtain ⟨_, c0, c1⟩ := bx.below B6
    have bx4d := bx4.below hb5
    obtain ⟨_, d0, d1⟩ := bx4.below hb5
    obtain ⟨S, hS⟩ : ∃ S, spcS n zs = S := ⟨_, rfl⟩
    rw [hS]
    clear hS
    go_wp2_with fail
    go_region_with ((first
      | (go_at_call 9; refine (toSpace_any _ _ _ _ _ (ia.below (bdrew' B6)) hn).mono ?_; rintro e w6 ⟨s6, rfl, own6, hb6⟩; have hb7 := bdrew hb6; have dd := bx4d.below hb7; have d0' := dd.2.1; have d1' := dd.2.2; clear dd)
      | (go_at_call 11; refine (eqSpace_any _ _ _ _ _ _ _ _ _ (by exact (j4.below hb5).below hb7) (by exact own6.ints) hn).mono ?_; rintro e w7 ⟨rfl, hb8⟩)))
    all_goals
      go_wp2
      go_ret
      exact ⟨rfl, bnext (bnext (bnext (bel1 w _) B6) hb7) hb8⟩
end Go.Proofs.YtjpbakggjgepoaaDoor
