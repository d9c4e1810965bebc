/- The law FnExactSwapOf answers true at every argument: its walk. -/
import Derived.Test.YtkefflidoepfgaaSwap
namespace Go.Proofs.Ytkefflidoepfgaa
open Go.RowKit Go.Joins

set_option maxHeartbeats 8000000 in
set_option maxRecDepth 100000 in
theorem walk_FnExactSwapOf (c : Int) (a : Option Addr) (bs : List Int) (cap : Nat) (x : Int) (w : World) (_w0 : (Lit.int .i64 c).wf = true) (hi : Ints w a bs) (hl : bs.length ≤ maxLen) (_w2 : (Lit.int .i64 x).wf = true) :
    Calls Try.prog 13 #[.int .i64 c, .slice a bs.length cap, .int .i64 x] w fun e w' => e = .returned (.bool true) ∧ Below w.heap.size w w' := by
  by_cases h : 1048576 < bs.length
  · unfold maxLen at hl
    go_enter Try.func13, Try.ntmps13
    go_wp2_with fail
    go_ret
    exact ⟨rfl, Below.refl _ _⟩
  have hn : bs.length ≤ 1048576 := by omega
  clear h hl
  have hne0 : ((((scL (swapA c bs x) : Nat) : Int)) != (((scL (swapA c bs x) : Nat) : Int))) = false := by simp
  have hne1 : ((((scR (swapA c bs x) : Nat) : Int)) != (((scR (swapA c bs x) : Nat) : Int))) = false := by simp
  have hne2 : (((swapA c bs x).isSome) != ((swapA c bs x).isSome)) = false := by simp
  go_enter Try.func13, Try.ntmps13
  go_wp2_with fail
  refine (toIntS_any _ _ _ _ hi hn).mono ?_
  rintro e w1 ⟨rfl, own1, hb1⟩
  go_wp2_with fail
  refine (specSwap_ret _ _ _ _ _ _ own1.ints hn).mono ?_
  rintro e w2 ⟨rfl, hb2⟩
  have B2 := bnext hb1 hb2
  clear own1 hb1 hb2
  go_wp2_with fail
  refine (toIntS_any _ _ _ _ (hi.below B2) hn).mono ?_
  rintro e w3 ⟨rfl, own3, hb3⟩
  have B3 := bnext B2 hb3
  clear B2 hb3
  go_wp2_with fail
  refine (implSwap_ret _ _ _ _ _ _ own3.ints hn).mono ?_
  rintro e w4 ⟨rfl, hb4⟩
  have B4 := bnext B3 hb4
  have own4 := own3.below hb4
  clear own3 B3 hb4
  go_wp2_with fail
  refine (toIntS_any _ _ _ _ (hi.below B4) hn).mono ?_
  rintro e w5 ⟨rfl, own5, hb5⟩
  go_wp2_with fail
  refine (eqIntS_yes _ _ _ _ _ _ (own4.below hb5).ints own5.ints hn).mono ?_
  rintro e w6 ⟨rfl, hb6⟩
  go_wp2
  go_ret
  exact ⟨rfl, bnext (bnext B4 hb5) hb6⟩
end Go.Proofs.Ytkefflidoepfgaa
