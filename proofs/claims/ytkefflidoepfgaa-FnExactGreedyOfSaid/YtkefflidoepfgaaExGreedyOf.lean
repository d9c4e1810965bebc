/- The law FnExactGreedyOf answers true at every argument: its walk. -/
import Derived.Test.YtkefflidoepfgaaGreed
namespace Go.Proofs.Ytkefflidoepfgaa
open Go.RowKit Go.Joins

set_option maxHeartbeats 8000000 in
set_option maxRecDepth 100000 in
theorem walk_FnExactGreedyOf (s : ByteArray) (c : Int) (a : Option Addr) (bs : List Int) (cap : Nat) (k : Int) (w : World) (hs0 : s.size ≤ maxLen) (_w1 : (Lit.int .i64 c).wf = true) (hi : Ints w a bs) (hl : bs.length ≤ maxLen) (_w3 : (Lit.int .i64 k).wf = true) :
    Calls Try.prog 8 #[.string s, .int .i64 c, .slice a bs.length cap, .int .i64 k] w fun e w' => e = .returned (.bool true) ∧ Below w.heap.size w w' := by
  by_cases hz0 : 1048576 < s.size
  · unfold maxLen at hs0
    go_enter Try.func8, Try.ntmps8
    go_wp2_with fail
    go_ret
    exact ⟨rfl, Below.refl _ _⟩
  have hsz0 : s.size ≤ 1048576 := by omega
  clear hz0 hs0
  by_cases h : 1048576 < bs.length
  · unfold maxLen at hl
    go_enter Try.func8, Try.ntmps8
    go_wp2_with fail
    go_ret
    exact ⟨rfl, Below.refl _ _⟩
  have hn : bs.length ≤ 1048576 := by omega
  clear h hl
  have hL : (greedA s c bs k).length ≤ 1048576 := by have := greedA_len s c bs k; omega
  go_enter Try.func8, Try.ntmps8
  go_wp2_with fail
  refine (toIntS_any _ _ _ _ hi hn).mono ?_
  rintro e w1 ⟨rfl, own1, hb1⟩
  go_wp2_with fail
  refine (specGreed_any _ _ _ _ _ _ _ own1.ints hn).mono ?_
  rintro e wo ⟨vw, rfl, ow, hb2⟩
  obtain ⟨aw, cw, rfl, iw, _⟩ := ow.form
  have B0 := bnext hb1 hb2
  have io := hi.below B0
  clear own1 hb1 hb2 ow
  go_wp2_with fail
  refine (toIntS_any _ _ _ _ io hn).mono ?_
  rintro e w3 ⟨rfl, ox3, hb3⟩
  go_wp2_with fail
  refine (implGreed_any _ _ _ _ _ _ _ ox3.ints hn).mono ?_
  rintro e w4 ⟨vg, rfl, og, hb4⟩
  obtain ⟨ag, cg, rfl, ig, _⟩ := og.form
  have B4 := bnext hb3 hb4
  have ox4 := ox3.below hb4
  have hz3 := hb3.size
  have lx3 := own_lt ox3 _ rfl
  clear ox3 hb3 hb4
  go_wp2_with fail
  refine (eqIntS_yes _ _ _ _ _ _ ig (iw.below B4) hL).mono ?_
  rintro e w5 ⟨rfl, hb5⟩
  have B5 := bnext B4 hb5
  have og5 := og.below hb5
  have ox5 := ox4.below hb5
  clear og ig ox4 B4 hb5
  go_wp2_with fail
  refine (toIntS_any _ _ _ _ (io.below B5) hn).mono ?_
  rintro e w6 ⟨rfl, own6, hb6⟩
  go_wp2_with fail
  refine (eqIntS_yes _ _ _ _ _ _ (ox5.below hb6).ints own6.ints hn).mono ?_
  rintro e w7 ⟨rfl, hb7⟩
  have B7 := bnext (bnext B5 hb6) hb7
  have og7 := (og5.below hb6).below hb7
  have ox7 := (ox5.below hb6).below hb7
  clear own6 hb6 hb7 B5 og5 ox5
  go_wp2_with fail
  refine (markIntS_any _ _ _ _ _ ox7 hn (by omega) (by omega)).mono ?_
  rintro e w8 ⟨rfl, _, hg8⟩
  have og8 := own_kept og7 hg8 (fun k hk e => by have h1 := own_ge og7 k e; simp [Value.ownBlock] at hk; omega)
  have B8 : Below wo.heap.size wo w8 := bgrown B7 hg8 B7.size (fun k hk => by have := own_ge ox7 k hk; omega)
  clear hg8 og7 ox7 B7
  go_wp2_with fail
  refine (eqIntS_yes _ _ _ _ _ _ og8.ints (iw.below B8) hL).mono ?_
  rintro e w9 ⟨rfl, hb9⟩
  have B9 := bnext B8 hb9
  have og9 := og8.below hb9
  clear hb9 og8 B8
  go_wp2_with fail
  refine (markIntS_any _ _ _ _ _ og9 hL (by omega) (by omega)).mono ?_
  rintro e w10 ⟨rfl, og10, hg10⟩
  have B10 : Below wo.heap.size wo w10 := bgrown B9 hg10 B9.size (fun k hk => by have := own_ge og9 k hk; omega)
  clear hg10 og9 B9
  go_wp2_with fail
  refine (held_yes _ _ _ _ _ og10.ints hL (by omega) (by omega)).mono ?_
  rintro e w11 ⟨rfl, hb11⟩
  have B11 := bnext B10 hb11
  have og11 := og10.below hb11
  clear hb11 og10 B10
  go_wp2_with fail
  refine (toIntS_any _ _ _ _ (io.below B11) hn).mono ?_
  rintro e w12 ⟨rfl, own12, hb12⟩
  go_wp2_with fail
  refine (implGreed_any _ _ _ _ _ _ _ own12.ints hn).mono ?_
  rintro e w13 ⟨vh, rfl, oh, hb13⟩
  obtain ⟨ah, ch, rfl, ih, _⟩ := oh.form
  have B13 := bnext (bnext B11 hb12) hb13
  have og13 := (og11.below hb12).below hb13
  clear own12 hb12 hb13 oh B11 og11
  go_wp2_with fail
  refine (eqIntS_yes _ _ _ _ _ _ ih (iw.below B13) hL).mono ?_
  rintro e w14 ⟨rfl, hb14⟩
  have B14 := bnext B13 hb14
  have og14 := og13.below hb14
  clear B13 og13 hb14 ih
  go_wp2_with fail
  refine (held_yes _ _ _ _ _ og14.ints hL (by omega) (by omega)).mono ?_
  rintro e w15 ⟨rfl, hb15⟩
  go_wp2
  go_ret
  exact ⟨rfl, bnext B0 (bnext B14 hb15)⟩
end Go.Proofs.Ytkefflidoepfgaa
