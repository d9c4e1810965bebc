/- The law FnExactSpaceWithout answers true at every argument: its walk. -/
import Derived.Test.YtklfpbidbiippaaPtT
import Derived.Test.YtklfpbidbiippaaSwI
import Derived.Test.YtklfpbidbiippaaSpLaw
import Derived.Test.YtklfpbidbiippaaDrawS
namespace Go.Proofs.Ytklfpbidbiippaa
open Go.RowKit Go.Joins

theorem specSw_was (n : Int) (l : Option Addr) (capl : Nat) (ps : List (Int × Int)) (N : Int) (L : List Int) (B : Bool) (w : World) (hj : PInts w l ps) (hm : ps.length ≤ 1048576) (h1 : swN n ps = N) (h2 : swL n ps = L) (h3 : swB n ps = B) :
    Calls Try.prog 68 #[.int .i64 n, .slice l ps.length capl] w (GivesX N L B w) := by
  subst h1 h2 h3
  exact specSw_any n l capl ps w hj hm
theorem implSw_was (n : Int) (l : Option Addr) (capl : Nat) (ps : List (Int × Int)) (N : Int) (L : List Int) (B : Bool) (w : World) (hj : PInts w l ps) (hm : ps.length ≤ 1048576) (hwf : ∀ p ∈ ps, (Lit.int .i64 p.2).wf = true) (h1 : swN n ps = N) (h2 : swL n ps = L) (h3 : swB n ps = B) :
    Calls Try.prog 70 #[.int .i64 n, .slice l ps.length capl] w (GivesX N L B w) := by
  subst h1 h2 h3
  exact implSw_any n l capl ps w hj hm hwf
set_option maxHeartbeats 8000000 in
set_option maxRecDepth 100000 in
theorem walk_FnExactSpaceWithout (n : Int) (a : Option Addr) (ps : List (Int × Int)) (cap : Nat) (w : World) (_wn : (Lit.int .i64 n).wf = true) (hi : PInts w a ps) (hl : ps.length ≤ maxLen) (hw : ∀ q ∈ ps, (Lit.int .i64 q.1).wf = true ∧ (Lit.int .i64 q.2).wf = true) :
    Calls Try.prog 13 #[.int .i64 n, .slice a ps.length cap] w fun e w' => e = .returned (.bool true) ∧ Below w.heap.size w w' := by
  by_cases h : 1048576 < ps.length
  · have hlt : left 1048576 ps.length < 0 := by unfold left; rw [if_pos (by omega)]; omega
    go_enter Try.func13, Try.ntmps13
    go_wp2_with fail
    refine (szPartS_any _ _ _ _ _ hl (by omega) (by omega)).mono ?_
    rintro e w1 ⟨rfl, rfl⟩
    go_wp2
    go_ret
    exact ⟨rfl, Below.refl _ _⟩
  · have hn : ps.length ≤ 1048576 := by omega
    have hlt : 0 ≤ left 1048576 ps.length := by unfold left; rw [if_neg (by omega)]; omega
    have HW : Hid (∀ p ∈ ps, (Lit.int .i64 p.2).wf = true) := fun p hp => (hw p hp).2
    obtain ⟨N, hN⟩ : ∃ N, swN n ps = N := ⟨_, rfl⟩
    obtain ⟨L, hL⟩ : ∃ L, swL n ps = L := ⟨_, rfl⟩
    obtain ⟨B, hB⟩ : ∃ B, swB n ps = B := ⟨_, rfl⟩
    have hLl : L.length ≤ 1048576 := by have := swL_len n ps; rw [hL] at this; omega
    have HN := hide hN
    have HL := hide hL
    have HBB := hide hB
    have hbb : (B != B) = false := by simp
    have HI := hide hi
    clear h hl hi hN hL hB hw
    go_enter Try.func13, Try.ntmps13
    go_wp2_with fail
    refine (szPartS_any _ _ _ _ _ (by unfold maxLen; omega) (by omega) (by omega)).mono ?_
    rintro e w0 ⟨rfl, rfl⟩
    go_wp2_with fail
    refine (toPartS_any _ _ _ _ HI.out hn).mono ?_
    rintro e w1 ⟨rfl, o1, b1⟩
    go_wp2_with fail
    refine (specSw_was _ _ _ _ _ _ _ _ o1.pints hn HN.out HL.out HBB.out).mono ?_
    rintro e w2 ⟨vw, rfl, ow, b2⟩
    obtain ⟨aw, cw, rfl, iw0, _⟩ := ow.form
    have bb3 := bel1 w2 (.cells #[.int .i64 N, .slice aw L.length cw] 25)
    have bw := Box.new w2 N aw L.length cw 25
    have iw := iw0.below bb3
    have B3 := hide (bnext (bnext b1 b2) bb3)
    obtain ⟨W3, hW3⟩ : ∃ W3 : World, W3 = w2.alloc (.cells #[.int .i64 N, .slice aw L.length cw] 25) := ⟨_, rfl⟩
    obtain ⟨gw, hgw⟩ : ∃ gw, gw = w2.heap.size := ⟨_, rfl⟩
    clear o1 b1 ow b2 iw0 bb3
    go_upto_region 6 with fail
    rw [← hW3, ← hgw] at bw
    rw [← hW3] at iw B3
    rw [← hW3, ← hgw]
    clear hW3 hgw
    go_wp2_with fail
    refine (toPartS_any _ _ _ _ (HI.out.below B3.out) hn).mono ?_
    rintro e w4 ⟨rfl, ox, b4⟩
    have B4 := b4
    go_wp2_with fail
    refine (implSw_was _ _ _ _ _ _ _ _ ox.pints hn HW.out HN.out HL.out HBB.out).mono ?_
    rintro e w5 ⟨vg, rfl, og, b5⟩
    obtain ⟨ag, cg, rfl, ig0, _⟩ := og.form
    have bb6 := bel1 w5 (.cells #[.int .i64 N, .slice ag L.length cg] 25)
    have gb := Box.new w5 N ag L.length cg 25
    have og6 := og.below bb6
    have ox6 := (ox.below b5).below bb6
    have hgl : ∀ k, (Value.slice ag L.length cg).ownBlock = some k → W3.heap.size + 1 ≤ k ∧ k < w5.heap.size := fun k hk => ⟨by have h1 := own_ge og k hk; have h2 := pown_ge ox W3.heap.size rfl; omega, own_lt og k hk⟩
    have hx5 : W3.heap.size < w5.heap.size := by have := (pown_ge ox W3.heap.size rfl).2; have := b5.size; omega
    have B6 := bnext (bnext B4 b5) bb6
    obtain ⟨W6, hW6⟩ : ∃ W6 : World, W6 = w5.alloc (.cells #[.int .i64 N, .slice ag L.length cg] 25) := ⟨_, rfl⟩
    obtain ⟨gg, hgg⟩ : ∃ gg, gg = w5.heap.size := ⟨_, rfl⟩
    clear ox b4 og b5 ig0 bb6 B4
    go_upto_region 8 with fail
    rw [← hW6, ← hgg] at gb
    rw [← hW6] at og6 ox6 B6
    rw [← hgg] at hgl hx5
    rw [← hW6, ← hgg]
    clear hW6 hgg
    have bw6 := bw.below B6
    obtain ⟨_, p0, p1⟩ := gb.pair
    obtain ⟨_, q0, q1⟩ := bw6.pair
    go_wp2_with fail
    refine (eqSpace_yes _ _ _ _ _ _ _ og6.ints (iw.below B6) hLl).mono ?_
    rintro e w7 ⟨rfl, b7⟩
    have B7 := bnext B6 b7
    have og7 := og6.below b7
    have ox7 := ox6.below b7
    have gb7 := gb.below b7
    have HP7 := HI.out.below (bnext B3.out B7)
    clear og6 ox6 B6 b7 gb p0 p1 q0 q1 bw6
    go_wp2_with fail
    refine (toPartS_any _ _ _ _ HP7 hn).mono ?_
    rintro e w8 ⟨rfl, o8, b8⟩
    have ox8 := ox7.below b8
    have B8 := bnext B7 b8
    have og8 := og7.below b8
    have gb8 := gb7.below b8
    clear og7 ox7 B7 b8 gb7 HP7
    go_wp2_with fail
    refine (eqPartS_yes _ _ _ _ _ _ ox8.pints o8.pints hn).mono ?_
    rintro e w9 ⟨rfl, b9⟩
    have ox9 := ox8.below b9
    have B9 := bnext B8 b9
    have og9 := og8.below b9
    have gb9 := gb8.below b9
    clear og8 ox8 B8 b9 gb8 o8
    go_wp2_with fail
    refine (markPartS_any _ _ _ _ _ ox9 hn (by omega) (by omega)).mono ?_
    rintro e w10 ⟨rfl, _, g10⟩
    have og10 := own_kept og9 g10 (fun k hk e => by cases hk; have h1 : W3.heap.size + 1 ≤ W3.heap.size := (hgl _ e).1; omega)
    have gb10 := gb9.kept g10 (fun k hk => by cases hk; show W3.heap.size ≠ gg; omega)
    have B10 := bgrown B9 g10 B9.size (fun k hk => by cases hk; exact Nat.le_refl _)
    have bw10 := bw.below B10
    clear og9 ox9 B9 g10 gb9
    obtain ⟨_, p0, p1⟩ := gb10.pair
    obtain ⟨_, q0, q1⟩ := bw10.pair
    go_wp2_with fail
    refine (eqSpace_yes _ _ _ _ _ _ _ og10.ints (iw.below B10) hLl).mono ?_
    rintro e w11 ⟨rfl, b11⟩
    have B11 := bnext B10 b11
    have og11 := og10.below b11
    have gb11 := gb10.below b11
    clear og10 B10 b11 gb10 p0 p1 q0 q1 bw10
    obtain ⟨_, p0, p1⟩ := gb11.pair
    go_wp2_with fail
    refine (markSpaceO_any _ _ _ _ _ _ _ og11 hLl (by omega) (by omega)).mono ?_
    rintro e w12 ⟨rfl, og12, g12⟩
    have gb12 := gb11.kept g12 (fun k hk => by have := (hgl k hk).2; omega)
    have B12 := bgrown B11 g12 B11.size (fun k hk => by have := (hgl k hk).1; omega)
    clear og11 B11 g12 gb11 p0 p1
    obtain ⟨_, p0, p1⟩ := gb12.pair
    go_wp2_with fail
    refine (heldSpace_yes _ _ _ _ _ _ og12.ints hLl (by omega) (by omega)).mono ?_
    rintro e w13 ⟨rfl, b13⟩
    have B13 := bnext B12 b13
    have og13 := og12.below b13
    have gb13 := gb12.below b13
    have HP13 := HI.out.below (bnext B3.out B13)
    clear og12 B12 b13 gb12 p0 p1
    go_wp2_with fail
    refine (toPartS_any _ _ _ _ HP13 hn).mono ?_
    rintro e w14 ⟨rfl, o14, b14⟩
    have og14 := og13.below b14
    have gb14 := gb13.below b14
    have B14 := bnext B13 b14
    clear og13 gb13 B13 b14 HP13
    go_wp2_with fail
    refine (implSw_was _ _ _ _ _ _ _ _ o14.pints hn HW.out HN.out HL.out HBB.out).mono ?_
    rintro e w15 ⟨vh, rfl, oh, b15⟩
    obtain ⟨ah, ch, rfl, ih0, _⟩ := oh.form
    have bb16 := bel1 w15 (.cells #[.int .i64 N, .slice ah L.length ch] 25)
    have hb := Box.new w15 N ah L.length ch 25
    have ih := ih0.below bb16
    have og16 := (og14.below b15).below bb16
    have gb16 := (gb14.below b15).below bb16
    have B16 := bnext (bnext B14 b15) bb16
    have bw16 := bw.below B16
    clear og14 gb14 B14 b15 o14 oh ih0 bb16
    obtain ⟨_, p0, p1⟩ := hb.pair
    obtain ⟨_, q0, q1⟩ := bw16.pair
    go_wp2_with fail
    refine (eqSpace_yes _ _ _ _ _ _ _ ih (iw.below B16) hLl).mono ?_
    rintro e w17 ⟨rfl, b17⟩
    have B17 := bnext B16 b17
    have og17 := og16.below b17
    have gb17 := gb16.below b17
    clear og16 B16 b17 gb16 p0 p1 q0 q1 bw16 hb ih
    obtain ⟨_, p0, p1⟩ := gb17.pair
    go_wp2_with fail
    refine (heldSpace_yes _ _ _ _ _ _ og17.ints hLl (by omega) (by omega)).mono ?_
    rintro e w18 ⟨rfl, b18⟩
    go_wp2
    go_ret
    exact ⟨rfl, bnext B3.out (bnext B17 b18)⟩
end Go.Proofs.Ytklfpbidbiippaa
