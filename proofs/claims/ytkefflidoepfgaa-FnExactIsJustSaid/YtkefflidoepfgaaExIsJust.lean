/- The law FnExactIsJust answers true at every argument: its walk. -/
import Derived.Test.YtkefflidoepfgaaWroJ
namespace Go.Proofs.Ytkefflidoepfgaa
open Go.RowKit Go.Joins

set_option maxHeartbeats 8000000 in
set_option maxRecDepth 100000 in
theorem walk_FnExactIsJust (s : ByteArray) (c : Int) (a : Option Addr) (bs : List Int) (cap : Nat) (k : Int) (x : Int) (w : World) (hs0 : s.size ≤ maxLen) (_w1 : (Lit.int .i64 c).wf = true) (hi : Ints w a bs) (hl : bs.length ≤ maxLen) (_w3 : (Lit.int .i64 k).wf = true) (_w4 : (Lit.int .i64 x).wf = true) :
    Calls Try.prog 10 #[.string s, .int .i64 c, .slice a bs.length cap, .int .i64 k, .int .i64 x] w fun e w' => e = .returned (.bool true) ∧ Below w.heap.size w w' := by
  by_cases hz0 : 1048576 < s.size
  · unfold maxLen at hs0
    go_enter Try.func10, Try.ntmps10
    go_wp2_with fail
    go_ret
    exact ⟨rfl, Below.refl _ _⟩
  have hsz0 : s.size ≤ 1048576 := by omega
  clear hz0 hs0
  by_cases h : 1048576 < bs.length
  · unfold maxLen at hl
    go_enter Try.func10, Try.ntmps10
    go_wp2_with fail
    go_ret
    exact ⟨rfl, Below.refl _ _⟩
  have hn : bs.length ≤ 1048576 := by omega
  clear h hl
  have hne0 : ((justB s c bs k x) != (justB s c bs k x)) = false := by simp
  go_enter Try.func10, Try.ntmps10
  go_wp2_with fail
  refine (toIntS_any _ _ _ _ hi hn).mono ?_
  rintro e w1 ⟨rfl, own1, hb1⟩
  go_wp2_with fail
  refine (specIsJust_any _ _ _ _ _ _ _ _ own1.ints hn).mono ?_
  rintro e w2 ⟨rfl, hb2⟩
  have B2 := bnext hb1 hb2
  clear own1 hb1 hb2
  go_wp2_with fail
  refine (toIntS_any _ _ _ _ (hi.below B2) hn).mono ?_
  rintro e w3 ⟨rfl, own3, hb3⟩
  have B3 := bnext B2 hb3
  clear B2 hb3
  go_wp2_with fail
  refine (implIsJust_any _ _ _ _ _ _ _ _ own3.ints hn).mono ?_
  rintro e w4 ⟨rfl, hb4⟩
  have B4 := bnext B3 hb4
  have own4 := own3.below hb4
  clear own3 B3 hb4
  go_wp2_with fail
  refine (toIntS_any _ _ _ _ (hi.below B4) hn).mono ?_
  rintro e w5 ⟨rfl, own5, hb5⟩
  go_wp2_with fail
  refine (eqIntS_yes _ _ _ _ _ _ (own4.below hb5).ints own5.ints hn).mono ?_
  rintro e w6 ⟨rfl, hb6⟩
  go_wp2
  go_ret
  exact ⟨rfl, bnext (bnext B4 hb5) hb6⟩
end Go.Proofs.Ytkefflidoepfgaa
