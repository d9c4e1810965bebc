/- The law FnExactFlipIssue answers true at every argument: its walk. -/
import Derived.Test.YtbnnblfgpdfmpaaFlpI
import Derived.Test.YtbnnblfgpdfmpaaFlpS
import Derived.Test.YtbnnblfgpdfmpaaSpLaw
import Derived.Deep.RegionWith
import Derived.Deep.DeepCutAuto
namespace Go.Proofs.Ytbnnblfgpdfmpaa
open Go.RowKit Go.Joins

theorem specEx_was (n j : Int) (a : Option Addr) (cap : Nat) (zs : List Int) (N : Int) (L : List Int) (B : Bool) (w : World) (hi : Ints w a zs) (hn : zs.length ≤ 1048576) (h1 : fpN n zs j = N) (h2 : fpL n zs j = L) (h3 : hiB n zs j = B) :
    Calls Try.prog 12 #[.agg #[.int .i64 n, .slice a zs.length cap], .int .i64 j] w (GivesX N L B w) := by
  subst h1 h2 h3
  exact specFlipIssue_any n j a cap zs w hi hn
theorem implEx_was (n j : Int) (a : Option Addr) (cap : Nat) (zs : List Int) (N : Int) (L : List Int) (B : Bool) (w : World) (hi : Ints w a zs) (hn : zs.length ≤ 1048576) (h1 : fpN n zs j = N) (h2 : fpL n zs j = L) (h3 : hiB n zs j = B) :
    Calls Try.prog 14 #[.agg #[.int .i64 n, .slice a zs.length cap], .int .i64 j] w (GivesX N L B w) := by
  subst h1 h2 h3
  exact implFlipIssue_any n j a cap zs w hi hn
theorem fpL_len (n : Int) (zs : List Int) (j : Int) : (fpL n zs j).length ≤ zs.length := by
  unfold fpL
  split
  · exact Nat.le_trans (unq_len _) (by rw [List.length_map]; exact Nat.le_refl _)
  · simp
set_option maxHeartbeats 8000000 in
set_option maxRecDepth 100000 in
theorem walk_FnExactFlipIssue (n : Int) (a : Option Addr) (zs : List Int) (cap : Nat) (k : Int) (w : World) (_wn : (Lit.int .i64 n).wf = true) (hi : Ints w a zs) (hl : zs.length ≤ maxLen) (_wk : (Lit.int .i64 k).wf = true) :
    Calls Try.prog 3 #[.agg #[.int .i64 n, .slice a zs.length cap], .int .i64 k] w fun e w' => e = .returned (.bool true) ∧ Below w.heap.size w w' := by
  by_cases h : 1048576 < zs.length
  · have hlt : left 1048576 zs.length < 0 := by unfold left; rw [if_pos (by omega)]; omega
    go_enter Try.func3, Try.ntmps3
    go_wp2_with fail
    refine (szSpace_any _ _ _ _ _ _ hl (by omega) (by omega)).mono ?_
    rintro e w1 ⟨rfl, hb1⟩
    go_wp2
    go_ret
    exact ⟨rfl, bnext (bel1 w _) hb1⟩
  · have hn : zs.length ≤ 1048576 := by omega
    have hlt : 0 ≤ left 1048576 zs.length := by unfold left; rw [if_neg (by omega)]; omega
    have S0 := SV.new w n a zs cap none [] 24 hi (Ints.nil _ _)
    obtain ⟨N, hN⟩ : ∃ N, fpN n zs k = N := ⟨_, rfl⟩
    obtain ⟨L, hL⟩ : ∃ L, fpL n zs k = L := ⟨_, rfl⟩
    obtain ⟨B, hB⟩ : ∃ B, hiB n zs k = B := ⟨_, rfl⟩
    have hLl : L.length ≤ 1048576 := by have := fpL_len n zs k; rw [hL] at this; omega
    have HN := hide hN
    have HL := hide hL
    have HBB := hide hB
    have hbb : (B != B) = false := by simp
    clear h hl hi hN hL hB
    go_enter Try.func3, Try.ntmps3
    go_wp2_with fail
    refine (szSpace_any _ _ _ _ _ _ (by unfold maxLen; omega) (by omega) (by omega)).mono ?_
    rintro e w1 ⟨rfl, B1⟩
    have S1 := S0.below B1
    clear B1 S0
    obtain ⟨⟨_, c0, c1⟩, _⟩ := S1.pair
    go_wp2_with fail
    refine (toSpace_any _ _ _ _ _ S1.2.1 hn).mono ?_
    rintro e w2 ⟨s2, rfl, own2, hb2⟩
    clear c0 c1
    go_wp2_with fail
    refine (specEx_was _ _ _ _ _ _ _ _ _ own2.ints hn HN.out HL.out HBB.out).mono ?_
    rintro e w4 ⟨vw, rfl, ow, hb4⟩
    have S4' := (S1.below hb2).below hb4
    obtain ⟨aw, cw, rfl, iw0, _⟩ := ow.form
    have bb4 := bel1 w4 (.cells #[.int .i64 N, .slice aw L.length cw] 26)
    have bw := Box.new w4 N aw L.length cw 26
    have iw := iw0.below bb4
    have S4 := S4'.below bb4
    clear own2 hb2 hb4 S1 ow iw0 S4' bb4
    go_upto_region 6 with fail
    obtain ⟨W4, hW4⟩ : ∃ W4 : World, W4 = w4.alloc (.cells #[.int .i64 N, .slice aw L.length cw] 26) := ⟨_, rfl⟩
    obtain ⟨gw, hgw⟩ : ∃ gw, gw = w4.heap.size := ⟨_, rfl⟩
    rw [← hW4, ← hgw] at bw
    rw [← hW4] at iw S4
    rw [← hW4, ← hgw]
    clear hW4 hgw
    obtain ⟨⟨_, c0, c1⟩, _⟩ := S4.pair
    go_wp2_with fail
    refine (toSpace_any _ _ _ _ _ S4.2.1 hn).mono ?_
    rintro e w5 ⟨s5, rfl, own5, hb5⟩
    have bx5 := Box.new w5 n (some ⟨s5, 0, none⟩) zs.length zs.length 26
    have ow5 := own5.below (bel1 w5 (.cells #[.int .i64 n, .slice (some ⟨s5, 0, none⟩) zs.length zs.length] 26))
    have B5 := bnext hb5 (bel1 w5 (.cells #[.int .i64 n, .slice (some ⟨s5, 0, none⟩) zs.length zs.length] 26))
    have hs5 : s5 < w5.heap.size := own_lt own5 s5 rfl
    have hg5 : W4.heap.size ≤ s5 := own_ge own5 s5 rfl
    have hsz5 := lt_of_block (heap_alloc_new w5 (.cells #[.int .i64 n, .slice (some ⟨s5, 0, none⟩) zs.length zs.length] 26))
    clear own5 hb5 c0 c1
    go_upto_region 7 with fail
    obtain ⟨w6, hW6⟩ : ∃ w6 : World, w6 = w5.alloc (.cells #[.int .i64 n, .slice (some ⟨s5, 0, none⟩) zs.length zs.length] 26) := ⟨_, rfl⟩
    obtain ⟨gx, hgx⟩ : ∃ gx, gx = w5.heap.size := ⟨_, rfl⟩
    rw [← hW6, ← hgx] at bx5
    rw [← hW6] at ow5 B5 hsz5
    rw [← hgx] at hs5 hsz5
    rw [← hW6, ← hgx]
    clear hW6 hgx
    have B6 := B5
    have ox6 := ow5
    have bx6 := bx5
    clear B5 ow5 bx5
    obtain ⟨_, x0, x1⟩ := bx6.pair
    go_wp2_with fail
    refine (implEx_was _ _ _ _ _ _ _ _ _ ox6.ints hn HN.out HL.out HBB.out).mono ?_
    rintro e w7' ⟨vg, rfl, og', hb7'⟩
    obtain ⟨ag, cg, rfl, ig0, _⟩ := og'.form
    have bb7 := bel1 w7' (.cells #[.int .i64 N, .slice ag L.length cg] 26)
    have gb := Box.new w7' N ag L.length cg 26
    have og := og'.below bb7
    have hgl : ∀ k, (Value.slice ag L.length cg).ownBlock = some k → w6.heap.size ≤ k ∧ k < w7'.heap.size := fun k hk => ⟨own_ge og' k hk, own_lt og' k hk⟩
    have hb7 := bnext hb7' bb7
    have B7 := bnext B6 hb7
    have hs76 := hb7'.size
    clear x0 x1 B6 ig0 og' hb7' bb7
    go_upto_region 8 with fail
    obtain ⟨w7, hW7⟩ : ∃ w7 : World, w7 = w7'.alloc (.cells #[.int .i64 N, .slice ag L.length cg] 26) := ⟨_, rfl⟩
    obtain ⟨gg, hgg⟩ : ∃ gg, gg = w7'.heap.size := ⟨_, rfl⟩
    rw [← hW7, ← hgg] at gb
    rw [← hW7] at og hb7 B7
    rw [← hgg] at hgl hs76
    rw [← hW7, ← hgg]
    clear hW7 hgg
    have bw7 := bw.below B7
    obtain ⟨_, p0, p1⟩ := gb.pair
    obtain ⟨_, q0, q1⟩ := bw7.pair
    go_wp2_with fail
    refine (eqSpace_yes _ _ _ _ _ _ _ og.ints (iw.below B7) hLl).mono ?_
    rintro e w8 ⟨rfl, hb8⟩
    have B8 := bnext B7 hb8
    have og8 := og.below hb8
    have gb8 := gb.below hb8
    have ox8 := (ox6.below hb7).below hb8
    have bx8 := (bx6.below hb7).below hb8
    have S8 := S4.below B8
    clear og ox6 bx6 B7 hb8 hb7 gb bw7 p0 p1 q0 q1
    obtain ⟨⟨_, c0, c1⟩, i8, _⟩ := S8.pair
    obtain ⟨_, x0, x1⟩ := bx8.pair
    go_upto_region 10 with fail
    go_cut [49] (fun s49 wx => s49 = .bool false ∧ Below w8.heap.size w8 wx)
    case first =>
      go_region_with ((first
        | (go_at_call 13; refine (toSpace_any _ _ _ _ _ S8.drew.2.1 hn).mono ?_; rintro e w9 ⟨s9, rfl, own9, hb9⟩; have hb9' := bdrew hb9; have ⟨_, y0, y1⟩ := (bx8.below hb9').pair)
        | (go_at_call 15; refine (eqSpace_yes _ _ _ _ _ _ _ (ox8.below hb9').ints own9.ints hn).mono ?_; rintro e w10 ⟨rfl, hb10⟩)))
      all_goals
        go_wp2_with fail
        go_meet
        exact ⟨rfl, bnext hb9' hb10⟩
    case rest =>
      obtain ⟨rfl, hbc⟩ := hcut
      have hsz := B8.size
      have Bc := bnext B8 hbc
      have ogc := og8.below hbc
      have gbc := gb8.below hbc
      have oxc := ox8.below hbc
      have bxc := bx8.below hbc
      clear og8 gb8 ox8 bx8 c0 c1 x0 x1 i8 B8 S8
      have B12 := Bc
      have og12 := ogc
      have gb12 := gbc
      have ox12 := oxc
      have bx12 := bxc
      clear ogc gbc oxc bxc Bc
      obtain ⟨_, x0, x1⟩ := bx12.pair
      go_wp2_with fail
      refine (markSpace_any _ _ _ _ _ _ _ ox12 hn (by omega) (by omega)).mono ?_
      rintro e w13 ⟨rfl, hg13⟩
      have og13 := own_kept og12 hg13 (fun k hk e => by cases hk; have := (hgl s5 e).1; omega)
      have gb13 := gb12.kept hg13 (fun k hk => by cases hk; show s5 ≠ gg; omega)
      have B13 : Below W4.heap.size W4 w13 := bgrown B12 hg13 B12.size (fun k hk => by cases hk; exact hg5)
      clear hg13 B12 og12 gb12 ox12 bx12 x0 x1
      have B14 := B13
      have og14 := og13
      have gb14 := gb13
      have bw14 := bw.below B14
      clear B13 og13 gb13
      obtain ⟨_, p0, p1⟩ := gb14.pair
      obtain ⟨_, q0, q1⟩ := bw14.pair
      go_wp2_with fail
      refine (eqSpace_yes _ _ _ _ _ _ _ og14.ints (iw.below B14) hLl).mono ?_
      rintro e w15 ⟨rfl, hb15⟩
      have B15 := bnext B14 hb15
      have og15 := og14.below hb15
      have gb15 := gb14.below hb15
      clear B14 og14 gb14 hb15 p0 p1 q0 q1 bw14
      obtain ⟨_, p0, p1⟩ := gb15.pair
      go_wp2_with fail
      refine (markSpaceO_any _ _ _ _ _ _ _ og15 hLl (by omega) (by omega)).mono ?_
      rintro e w16 ⟨rfl, og16, hg16⟩
      have gb16 := gb15.kept hg16 (fun k hk => by have := (hgl k hk).2; omega)
      have B16 : Below W4.heap.size W4 w16 := bgrown B15 hg16 B15.size (fun k hk => by have := (hgl k hk).1; omega)
      clear B15 og15 hg16 gb15 p0 p1
      obtain ⟨_, p0, p1⟩ := gb16.pair
      go_wp2_with fail
      refine (heldSpace_yes _ _ _ _ _ _ og16.ints hLl (by omega) (by omega)).mono ?_
      rintro e w17 ⟨rfl, hb17⟩
      have B17 := bnext B16 hb17
      have og17 := og16.below hb17
      have gb17 := gb16.below hb17
      clear B16 og16 hb17 gb16 p0 p1
      have S17 := S4.below B17
      obtain ⟨⟨_, c0, c1⟩, i17, _⟩ := S17.pair
      go_wp2_with fail
      refine (toSpace_any _ _ _ _ _ i17 hn).mono ?_
      rintro e w18 ⟨s18, rfl, own18, hb18⟩
      clear c0 c1 i17
      go_wp2_with fail
      refine (implEx_was _ _ _ _ _ _ _ _ _ own18.ints hn HN.out HL.out HBB.out).mono ?_
      rintro e w20 ⟨vh, rfl, oh, hb20⟩
      obtain ⟨ah, ch, rfl, ih0, _⟩ := oh.form
      have bb21 := bel1 w20 (.cells #[.int .i64 N, .slice ah L.length ch] 26)
      have hbx := Box.new w20 N ah L.length ch 26
      have ih := ih0.below bb21
      have hb20' := bnext (bnext hb18 hb20) bb21
      have B20 := bnext B17 hb20'
      have og20 := og17.below hb20'
      have gb20 := gb17.below hb20'
      have bw20 := bw.below B20
      clear hb18 hb20 hb20' own18 oh B17 og17 gb17 S17 ih0 bb21
      obtain ⟨_, p0, p1⟩ := hbx.pair
      obtain ⟨_, q0, q1⟩ := bw20.pair
      go_wp2_with fail
      refine (eqSpace_yes _ _ _ _ _ _ _ ih (iw.below B20) hLl).mono ?_
      rintro e w21 ⟨rfl, hb21⟩
      have B21 := bnext B20 hb21
      have og21 := og20.below hb21
      have gb21 := gb20.below hb21
      clear B20 og20 gb20 hb21 ih p0 p1 q0 q1 bw20 hbx
      obtain ⟨_, p0, p1⟩ := gb21.pair
      go_wp2_with fail
      refine (heldSpace_yes _ _ _ _ _ _ og21.ints hLl (by omega) (by omega)).mono ?_
      rintro e w22 ⟨rfl, hb22⟩
      go_wp2
      go_ret
      exact ⟨rfl, (S4.below (bnext B21 hb22)).2.2.2⟩
end Go.Proofs.Ytbnnblfgpdfmpaa
