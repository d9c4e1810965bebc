/- Texts of this seat one behind the other: SpLaw, ExRuleOfQuotas. Conditions: none. -/
import Derived.Test.YtnmfhnieknckcaaListLaw
import Derived.Test.YtnmfhnieknckcaaMgD
import Derived.Test.YtnmfhnieknckcaaRule
import Derived.Deep.RegionWith
import Derived.Deep.DeepCutAuto

/- SpLaw: What the walks of the laws on spaces share. -/
namespace Go.Proofs.Ytnmfhnieknckcaa
open Go.RowKit Go.Joins

theorem Box.kept {w w' : World} {g : Nat} {n : Int} {a : Option Addr} {len cap : Nat} {row : Option Nat} (h : Box w g n a len cap) (hg : w.grownBy w' row) (hne : ∀ k, row = some k → k ≠ g) : Box w' g n a len cap := by
  have hb : w'.heap[g]? = w.heap[g]? := hg.block g h.1 (by
    rcases row with _ | k
    · simp
    · intro e
      exact hne k rfl (by simpa using e.symm))
  refine ⟨Nat.lt_of_lt_of_le h.1 hg.size, ?_, ?_⟩
  · rw [← h.2.1]
    simp only [World.cell?, hb]
  · rw [← h.2.2]
    simp only [World.cell?, hb]

theorem markSpaceO_any (n : Int) (a : Option Addr) (cap : Nat) (zs : List Int) (base : Nat) (k : Int) (w : World) (ho : Owns w base (.slice a zs.length cap) zs) (hn : zs.length ≤ 1048576) (h0 : 0 ≤ k) (h1 : k ≤ 4194304) :
    Calls Try.prog 43 #[.agg #[.int .i64 n, .slice a zs.length cap], .int .i64 k] w fun e w' => e = .returned (.int .i64 (k + zs.length)) ∧ Owns w' base (.slice a zs.length cap) (marks k zs.length) ∧ w.grownBy w' (Value.slice a zs.length cap).ownBlock := by
  have hg := World.grownBy_alloc w (.cells #[.int .i64 n, .slice a zs.length cap] 25) (Value.slice a zs.length cap).ownBlock
  have ho1 : Owns (w.alloc (.cells #[.int .i64 n, .slice a zs.length cap] 25)) base (.slice a zs.length cap) zs := ho.below (bel1 w _)
  go_enter Try.func43, Try.ntmps43
  go_wp2_with fail
  refine (markIntS_any _ _ _ _ _ ho1 hn h0 h1).mono ?_
  rintro e w1 ⟨rfl, om, hg1⟩
  go_wp2
  go_ret
  exact ⟨rfl, om, gtrans hg hg1⟩
end Go.Proofs.Ytnmfhnieknckcaa

/- ExRuleOfQuotas: The law FnExactRuleOfQuotas answers true at every argument: its walk. -/
namespace Go.Proofs.Ytnmfhnieknckcaa
open Go.RowKit Go.Joins

theorem specRq_was (n v : Int) (a l : Option Addr) (cap capl : Nat) (zs qs : List Int) (N : Int) (L : List Int) (B : Bool) (w : World) (hi : Ints w a zs) (hj : Ints w l qs) (hn : zs.length ≤ 1048576) (hm : qs.length ≤ 1048576) (h1 : rqV n zs v qs = N) (h2 : rqW n zs v qs = L) (h3 : rqO n zs v qs = B) :
    Calls Try.prog 33 #[.agg #[.int .i64 n, .slice a zs.length cap], .int .i64 v, .slice l qs.length capl] w (GivesR N L B w) := by
  subst h1 h2 h3
  exact specRuleOfQuotas_any n v a l cap capl zs qs w hi hj hn hm
theorem implRq_was (n v : Int) (a l : Option Addr) (cap capl : Nat) (zs qs : List Int) (N : Int) (L : List Int) (B : Bool) (w : World) (hi : Ints w a zs) (hj : Ints w l qs) (hn : zs.length ≤ 1048576) (hm : qs.length ≤ 1048576) (h1 : rqV n zs v qs = N) (h2 : rqW n zs v qs = L) (h3 : rqO n zs v qs = B) :
    Calls Try.prog 28 #[.agg #[.int .i64 n, .slice a zs.length cap], .int .i64 v, .slice l qs.length capl] w (GivesR N L B w) := by
  subst h1 h2 h3
  exact implRuleOfQuotas_any n v a l cap capl zs qs w hi hj hn hm
theorem rqW_len (n : Int) (zs : List Int) (v : Int) (qs : List Int) : (rqW n zs v qs).length ≤ 4 := by
  unfold rqW
  split
  · rename_i h
    have h1 := (quotas_in h.2.2).2
    have h2 := (valid_of h.1).1
    rw [ci_len]
    unfold rqL
    rw [List.length_map]
    omega
  · simp
theorem markRuleO_any (n : Int) (a : Option Addr) (cap : Nat) (zs : List Int) (base : Nat) (k : Int) (w : World) (ho : Owns w base (.slice a zs.length cap) zs) (hn : zs.length ≤ 1048576) (h0 : 0 ≤ k) (h1 : k ≤ 4194304) :
    Calls Try.prog 45 #[.agg #[.int .i64 n, .slice a zs.length cap], .int .i64 k] w fun e w' => e = .returned (.int .i64 (k + zs.length)) ∧ Owns w' base (.slice a zs.length cap) (marks k zs.length) ∧ w.grownBy w' (Value.slice a zs.length cap).ownBlock := by
  have hg := World.grownBy_alloc w (.cells #[.int .i64 n, .slice a zs.length cap] 27) (Value.slice a zs.length cap).ownBlock
  have ho1 : Owns (w.alloc (.cells #[.int .i64 n, .slice a zs.length cap] 27)) base (.slice a zs.length cap) zs := ho.below (bel1 w _)
  go_enter Try.func45, Try.ntmps45
  go_wp2_with fail
  refine (markIntS_any _ _ _ _ _ ho1 hn h0 h1).mono ?_
  rintro e w1 ⟨rfl, om, hg1⟩
  go_wp2
  go_ret
  exact ⟨rfl, om, gtrans hg hg1⟩
theorem heldRule_yes (m : Int) (a : Option Addr) (cap n : Nat) (k : Int) (w : World) (hi : Ints w a (marks k n)) (hn : n ≤ 1048576) (h0 : 0 ≤ k) (h1 : k ≤ 4194304) :
    Calls Try.prog 46 #[.agg #[.int .i64 m, .slice a n cap], .int .i64 k] w fun e w' => e = .returned (.int .i64 (k + n)) ∧ Below w.heap.size w w' := by
  have hi1 := hi.below (bel1 w (.cells #[.int .i64 m, .slice a n cap] 27))
  clear hi
  have hneg : decide (k + (n : Int) < 0) = false := by simp; omega
  go_enter Try.func46, Try.ntmps46
  go_wp2_with fail
  refine (held_yes _ _ _ _ _ hi1 hn h0 h1).mono ?_
  rintro e w1 ⟨rfl, hb⟩
  go_wp2
  go_ret
  exact ⟨rfl, bnext (bel1 w _) hb⟩
set_option maxHeartbeats 8000000 in
set_option maxRecDepth 100000 in
theorem walk_FnExactRuleOfQuotas (n : Int) (a : Option Addr) (zs : List Int) (cap : Nat) (k : Int) (l : Option Addr) (ls : List Int) (capl : Nat) (w : World) (_wn : (Lit.int .i64 n).wf = true) (hi : Ints w a zs) (hl : zs.length ≤ maxLen) (_wk : (Lit.int .i64 k).wf = true) (hj : Ints w l ls) (hm : ls.length ≤ maxLen) :
    Calls Try.prog 9 #[.agg #[.int .i64 n, .slice a zs.length cap], .int .i64 k, .slice l ls.length capl] w fun e w' => e = .returned (.bool true) ∧ Below w.heap.size w w' := by
  by_cases h1 : 1048576 < ls.length
  · unfold maxLen at hm
    go_enter Try.func9, Try.ntmps9
    go_wp2_with fail
    go_ret
    exact ⟨rfl, bel1 w _⟩
  · have hm' : ls.length ≤ 1048576 := by omega
    clear h1 hm
    by_cases h : 1048576 < zs.length
    · have hlt : left 1048576 zs.length < 0 := by unfold left; rw [if_pos (by omega)]; omega
      go_enter Try.func9, Try.ntmps9
      go_wp2_with fail
      refine (szSpace_any _ _ _ _ _ _ hl (by omega) (by omega)).mono ?_
      rintro e w1 ⟨rfl, hb1⟩
      go_wp2
      go_ret
      exact ⟨rfl, bnext (bel1 w _) hb1⟩
    · have hn : zs.length ≤ 1048576 := by omega
      have hlt : 0 ≤ left 1048576 zs.length := by unfold left; rw [if_neg (by omega)]; omega
      have S0 := SV.new w n a zs cap l ls 46 hi hj
      obtain ⟨N, hN⟩ : ∃ N, rqV n zs k ls = N := ⟨_, rfl⟩
      obtain ⟨L, hL⟩ : ∃ L, rqW n zs k ls = L := ⟨_, rfl⟩
      obtain ⟨B, hB⟩ : ∃ B, rqO n zs k ls = B := ⟨_, rfl⟩
      have hLl : L.length ≤ 1048576 := by have := rqW_len n zs k ls; rw [hL] at this; omega
      have HN := hide hN
      have HL := hide hL
      have HBB := hide hB
      have hbb : (B != B) = false := by simp
      clear h hl hi hj hN hL hB
      go_enter Try.func9, Try.ntmps9
      go_wp2_with fail
      refine (szSpace_any _ _ _ _ _ _ (by unfold maxLen; omega) (by omega) (by omega)).mono ?_
      rintro e w1 ⟨rfl, B1⟩
      have S1 := S0.below B1
      clear B1 S0
      obtain ⟨⟨_, c0, c1⟩, _⟩ := S1.pair
      go_wp2_with fail
      refine (toSpace_any _ _ _ _ _ S1.2.1 hn).mono ?_
      rintro e w2 ⟨s2, rfl, own2, hb2⟩
      have S2 := S1.below hb2
      clear c0 c1 S1
      go_wp2_with fail
      refine (toIntS_any _ _ _ _ S2.2.2.1 hm').mono ?_
      rintro e w3 ⟨rfl, own3, hb3⟩
      go_wp2_with fail
      refine (specRq_was _ _ _ _ _ _ _ _ _ _ _ _ (own2.ints.below hb3) own3.ints hn hm' HN.out HL.out HBB.out).mono ?_
      rintro e w4 ⟨vw, rfl, ow, hb4⟩
      have S4' := (S2.below hb3).below hb4
      obtain ⟨aw, cw, rfl, iw0, _⟩ := ow.form
      have bb4 := bel1 w4 (.cells #[.int .i64 N, .slice aw L.length cw] 27)
      have bw := Box.new w4 N aw L.length cw 27
      have iw := iw0.below bb4
      have S4 := S4'.below bb4
      clear own2 own3 hb2 hb3 hb4 S2 ow iw0 S4' bb4
      go_upto_region 8 with fail
      obtain ⟨W4, hW4⟩ : ∃ W4 : World, W4 = w4.alloc (.cells #[.int .i64 N, .slice aw L.length cw] 27) := ⟨_, rfl⟩
      obtain ⟨gw, hgw⟩ : ∃ gw, gw = w4.heap.size := ⟨_, rfl⟩
      rw [← hW4, ← hgw] at bw
      rw [← hW4] at iw S4
      rw [← hW4, ← hgw]
      clear hW4 hgw
      obtain ⟨⟨_, c0, c1⟩, _⟩ := S4.pair
      go_wp2_with fail
      refine (toSpace_any _ _ _ _ _ S4.2.1 hn).mono ?_
      rintro e w5 ⟨s5, rfl, own5, hb5⟩
      have bx5 := Box.new w5 n (some ⟨s5, 0, none⟩) zs.length zs.length 25
      have ow5 := own5.below (bel1 w5 (.cells #[.int .i64 n, .slice (some ⟨s5, 0, none⟩) zs.length zs.length] 25))
      have B5 := bnext hb5 (bel1 w5 (.cells #[.int .i64 n, .slice (some ⟨s5, 0, none⟩) zs.length zs.length] 25))
      have hs5 : s5 < w5.heap.size := own_lt own5 s5 rfl
      have hg5 : W4.heap.size ≤ s5 := own_ge own5 s5 rfl
      clear own5 hb5 c0 c1
      go_wp2_with fail
      refine (toIntS_any _ _ _ _ (S4.below B5).2.2.1 hm').mono ?_
      rintro e w6 ⟨rfl, ow6, hb6⟩
      have B6 := bnext B5 hb6
      have ox6 := ow5.below hb6
      have bx6 := bx5.below hb6
      simp only [World.size_alloc] at ow6 hb6
      have hz6 := hb6.size
      simp only [World.size_alloc] at hz6
      have hz6' := own_lt ow6 (w5.heap.size + 1) rfl
      clear B5 ow5 bx5 hb6
      obtain ⟨_, x0, x1⟩ := bx6.pair
      go_wp2_with fail
      refine (implRq_was _ _ _ _ _ _ _ _ _ _ _ _ ox6.ints ow6.ints hn hm' HN.out HL.out HBB.out).mono ?_
      rintro e w7' ⟨vg, rfl, og', hb7'⟩
      obtain ⟨ag, cg, rfl, ig0, _⟩ := og'.form
      have bb7 := bel1 w7' (.cells #[.int .i64 N, .slice ag L.length cg] 27)
      have gb := Box.new w7' N ag L.length cg 27
      have og := og'.below bb7
      have hgl : ∀ k, (Value.slice ag L.length cg).ownBlock = some k → w6.heap.size ≤ k ∧ k < w7'.heap.size := fun k hk => ⟨own_ge og' k hk, own_lt og' k hk⟩
      have hb7 := bnext hb7' bb7
      have B7 := bnext B6 hb7
      have hs76 := hb7'.size
      clear x0 x1 B6 ig0 og' hb7' bb7
      go_upto_region 11 with fail
      obtain ⟨w7, hW7⟩ : ∃ w7 : World, w7 = w7'.alloc (.cells #[.int .i64 N, .slice ag L.length cg] 27) := ⟨_, rfl⟩
      obtain ⟨gg, hgg⟩ : ∃ gg, gg = w7'.heap.size := ⟨_, rfl⟩
      rw [← hW7, ← hgg] at gb
      rw [← hW7] at og hb7 B7
      rw [← hgg] at hgl hs76
      rw [← hW7, ← hgg]
      clear hW7 hgg
      have bw7 := bw.below B7
      obtain ⟨_, p0, p1⟩ := gb.pair
      obtain ⟨_, q0, q1⟩ := bw7.pair
      go_wp2_with fail
      refine (eqRule_yes _ _ _ _ _ _ _ og.ints (iw.below B7) hLl).mono ?_
      rintro e w8 ⟨rfl, hb8⟩
      have B8 := bnext B7 hb8
      have og8 := og.below hb8
      have gb8 := gb.below hb8
      have ox8 := (ox6.below hb7).below hb8
      have ow8 := (ow6.below hb7).below hb8
      have bx8 := (bx6.below hb7).below hb8
      have S8 := S4.below B8
      clear og ox6 ow6 bx6 B7 hb8 hb7 gb bw7 p0 p1 q0 q1
      obtain ⟨⟨_, c0, c1⟩, i8, _⟩ := S8.pair
      obtain ⟨_, x0, x1⟩ := bx8.pair
      go_upto_region 13 with fail
      go_cut [60] (fun s60 wx => s60 = .bool false ∧ Below w8.heap.size w8 wx)
      case first =>
        go_region_with ((first
          | (go_at_call 38; refine (toSpace_any _ _ _ _ _ S8.drew.2.1 hn).mono ?_; rintro e w9 ⟨s9, rfl, own9, hb9⟩; have hb9' := bdrew hb9; have ⟨_, y0, y1⟩ := (bx8.below hb9').pair)
          | (go_at_call 41; refine (eqSpace_yes _ _ _ _ _ _ _ (ox8.below hb9').ints own9.ints hn).mono ?_; rintro e w10 ⟨rfl, hb10⟩)))
        all_goals
          go_wp2_with fail
          go_meet
          exact ⟨rfl, bnext hb9' hb10⟩
      case rest =>
        obtain ⟨rfl, hbc⟩ := hcut
        have hsz := B8.size
        have Bc := bnext B8 hbc
        have ogc := og8.below hbc
        have gbc := gb8.below hbc
        have oxc := ox8.below hbc
        have owc := ow8.below hbc
        have bxc := bx8.below hbc
        clear og8 gb8 ox8 ow8 bx8 c0 c1 x0 x1 i8 B8 S8
        go_wp2_with fail
        refine (toIntS_any _ _ _ _ (S4.below Bc).2.2.1 hm').mono ?_
        rintro e w11 ⟨rfl, own11, hb11⟩
        go_wp2_with fail
        refine (eqIntS_yes _ _ _ _ _ _ (owc.below hb11).ints own11.ints hm').mono ?_
        rintro e w12 ⟨rfl, hb12⟩
        have hb12' := bnext hb11 hb12
        have B12 := bnext Bc hb12'
        have og12 := ogc.below hb12'
        have gb12 := gbc.below hb12'
        have ox12 := oxc.below hb12'
        have ow12 := owc.below hb12'
        have bx12 := bxc.below hb12'
        clear ogc gbc oxc owc bxc hb11 hb12 hb12' own11 Bc
        obtain ⟨_, x0, x1⟩ := bx12.pair
        go_wp2_with fail
        refine (markSpace_any _ _ _ _ _ _ _ ox12 hn (by omega) (by omega)).mono ?_
        rintro e w13 ⟨rfl, hg13⟩
        have ow13 := own_kept ow12 hg13 (fun k hk e => by cases hk; have := own_ge ow12 s5 e; omega)
        have og13 := own_kept og12 hg13 (fun k hk e => by cases hk; have := (hgl s5 e).1; omega)
        have gb13 := gb12.kept hg13 (fun k hk => by cases hk; show s5 ≠ gg; omega)
        have B13 : Below W4.heap.size W4 w13 := bgrown B12 hg13 B12.size (fun k hk => by cases hk; exact hg5)
        clear hg13 B12 og12 gb12 ox12 ow12 bx12 x0 x1
        go_wp2_with fail
        refine (markIntS_any _ _ _ _ _ ow13 hm' (by omega) (by omega)).mono ?_
        rintro e w14 ⟨rfl, _, hg14⟩
        have og14 := own_kept og13 hg14 (fun k hk e => by cases hk; have h2 := (hgl _ e).1; dsimp only at h2; omega)
        have gb14 := gb13.kept hg14 (fun k hk => by cases hk; show w5.heap.size + 1 ≠ gg; omega)
        have B14 : Below W4.heap.size W4 w14 := bgrown B13 hg14 B13.size (fun k hk => by have := own_ge ow13 k hk; have := B13.size; omega)
        have bw14 := bw.below B14
        clear hg14 B13 og13 gb13 ow13
        obtain ⟨_, p0, p1⟩ := gb14.pair
        obtain ⟨_, q0, q1⟩ := bw14.pair
        go_wp2_with fail
        refine (eqRule_yes _ _ _ _ _ _ _ og14.ints (iw.below B14) hLl).mono ?_
        rintro e w15 ⟨rfl, hb15⟩
        have B15 := bnext B14 hb15
        have og15 := og14.below hb15
        have gb15 := gb14.below hb15
        clear B14 og14 gb14 hb15 p0 p1 q0 q1 bw14
        obtain ⟨_, p0, p1⟩ := gb15.pair
        go_wp2_with fail
        refine (markRuleO_any _ _ _ _ _ _ _ og15 hLl (by omega) (by omega)).mono ?_
        rintro e w16 ⟨rfl, og16, hg16⟩
        have gb16 := gb15.kept hg16 (fun k hk => by have := (hgl k hk).2; omega)
        have B16 : Below W4.heap.size W4 w16 := bgrown B15 hg16 B15.size (fun k hk => by have := (hgl k hk).1; omega)
        clear B15 og15 hg16 gb15 p0 p1
        obtain ⟨_, p0, p1⟩ := gb16.pair
        go_wp2_with fail
        refine (heldRule_yes _ _ _ _ _ _ og16.ints hLl (by omega) (by omega)).mono ?_
        rintro e w17 ⟨rfl, hb17⟩
        have B17 := bnext B16 hb17
        have og17 := og16.below hb17
        have gb17 := gb16.below hb17
        clear B16 og16 hb17 gb16 p0 p1
        have S17 := S4.below B17
        obtain ⟨⟨_, c0, c1⟩, i17, l17, _⟩ := S17.pair
        go_wp2_with fail
        refine (toSpace_any _ _ _ _ _ i17 hn).mono ?_
        rintro e w18 ⟨s18, rfl, own18, hb18⟩
        clear c0 c1 i17
        go_wp2_with fail
        refine (toIntS_any _ _ _ _ (l17.below hb18) hm').mono ?_
        rintro e w19 ⟨rfl, own19, hb19⟩
        go_wp2_with fail
        refine (implRq_was _ _ _ _ _ _ _ _ _ _ _ _ (own18.ints.below hb19) own19.ints hn hm' HN.out HL.out HBB.out).mono ?_
        rintro e w20 ⟨vh, rfl, oh, hb20⟩
        obtain ⟨ah, ch, rfl, ih0, _⟩ := oh.form
        have bb21 := bel1 w20 (.cells #[.int .i64 N, .slice ah L.length ch] 27)
        have hbx := Box.new w20 N ah L.length ch 27
        have ih := ih0.below bb21
        have hb20' := bnext (bnext (bnext hb18 hb19) hb20) bb21
        have B20 := bnext B17 hb20'
        have og20 := og17.below hb20'
        have gb20 := gb17.below hb20'
        have bw20 := bw.below B20
        clear hb18 hb19 hb20 hb20' own18 own19 oh B17 og17 gb17 S17 ih0 bb21
        obtain ⟨_, p0, p1⟩ := hbx.pair
        obtain ⟨_, q0, q1⟩ := bw20.pair
        go_wp2_with fail
        refine (eqRule_yes _ _ _ _ _ _ _ ih (iw.below B20) hLl).mono ?_
        rintro e w21 ⟨rfl, hb21⟩
        have B21 := bnext B20 hb21
        have og21 := og20.below hb21
        have gb21 := gb20.below hb21
        clear B20 og20 gb20 hb21 ih p0 p1 q0 q1 bw20 hbx
        obtain ⟨_, p0, p1⟩ := gb21.pair
        go_wp2_with fail
        refine (heldRule_yes _ _ _ _ _ _ og21.ints hLl (by omega) (by omega)).mono ?_
        rintro e w22 ⟨rfl, hb22⟩
        go_wp2
        go_ret
        exact ⟨rfl, (S4.below (bnext B21 hb22)).2.2.2⟩
end Go.Proofs.Ytnmfhnieknckcaa
