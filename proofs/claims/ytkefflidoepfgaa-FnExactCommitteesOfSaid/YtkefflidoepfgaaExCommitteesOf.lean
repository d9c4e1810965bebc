/- The law FnExactCommitteesOf answers true at every argument: its walk. -/
import Derived.Test.YtkefflidoepfgaaCom
namespace Go.Proofs.Ytkefflidoepfgaa
open Go.RowKit Go.Joins

set_option maxHeartbeats 8000000 in
set_option maxRecDepth 100000 in
theorem walk_FnExactCommitteesOf (c : Int) (k : Int) (w : World) (_w0 : (Lit.int .i64 c).wf = true) (_w1 : (Lit.int .i64 k).wf = true) :
    Calls Try.prog 4 #[.int .i64 c, .int .i64 k] w fun e w' => e = .returned (.bool true) ∧ Below w.heap.size w w' := by
  have hL : (comA c k).length ≤ 1048576 := by have := comA_len c k; omega
  go_enter Try.func4, Try.ntmps4
  go_wp2_with fail
  refine (specCommitteesOf_any _ _ _).mono ?_
  rintro e wo ⟨vw, rfl, ow, B0⟩
  obtain ⟨aw, cw, rfl, iw, _⟩ := ow.form
  clear ow
  go_wp2_with fail
  refine (implCommitteesOf_any _ _ _).mono ?_
  rintro e w4 ⟨vg, rfl, og, B4⟩
  obtain ⟨ag, cg, rfl, ig, _⟩ := og.form
  go_wp2_with fail
  refine (eqIntS_yes _ _ _ _ _ _ ig (iw.below B4) hL).mono ?_
  rintro e w9 ⟨rfl, hb9⟩
  have B9 := bnext B4 hb9
  have og9 := og.below hb9
  clear hb9 og B4 ig
  go_wp2_with fail
  refine (markIntS_any _ _ _ _ _ og9 hL (by omega) (by omega)).mono ?_
  rintro e w10 ⟨rfl, og10, hg10⟩
  have B10 : Below wo.heap.size wo w10 := bgrown B9 hg10 B9.size (fun k hk => by have := own_ge og9 k hk; omega)
  clear hg10 og9 B9
  go_wp2_with fail
  refine (held_yes _ _ _ _ _ og10.ints hL (by omega) (by omega)).mono ?_
  rintro e w11 ⟨rfl, hb11⟩
  have B11 := bnext B10 hb11
  have og11 := og10.below hb11
  clear hb11 og10 B10
  go_wp2_with fail
  refine (implCommitteesOf_any _ _ _).mono ?_
  rintro e w13 ⟨vh, rfl, oh, hb13⟩
  obtain ⟨ah, ch, rfl, ih, _⟩ := oh.form
  have B13 := bnext B11 hb13
  have og13 := og11.below hb13
  clear hb13 oh B11 og11
  go_wp2_with fail
  refine (eqIntS_yes _ _ _ _ _ _ ih (iw.below B13) hL).mono ?_
  rintro e w14 ⟨rfl, hb14⟩
  have B14 := bnext B13 hb14
  have og14 := og13.below hb14
  clear B13 og13 hb14 ih
  go_wp2_with fail
  refine (held_yes _ _ _ _ _ og14.ints hL (by omega) (by omega)).mono ?_
  rintro e w15 ⟨rfl, hb15⟩
  go_wp2
  go_ret
  exact ⟨rfl, bnext B0 (bnext B14 hb15)⟩
end Go.Proofs.Ytkefflidoepfgaa
