/- The law FnExactSafeRules answers true at every argument: its walk. -/
import Derived.Test.YtbmodiobgkmngaaSfI
import Derived.Test.YtbmodiobgkmngaaRlw
import Derived.Deep.RegionWith
import Derived.Deep.DeepCutAuto
namespace Go.Proofs.Ytbmodiobgkmngaa
open Go.RowKit Go.Joins

theorem sfL_len (n v : Int) (zs : List Int) : (sfL n zs v).length ≤ 256 := by
  unfold sfL
  split
  · rename_i h
    unfold sfB at h
    rw [Bool.and_eq_true] at h
    have hV := valid_of h.1
    obtain ⟨N, rfl⟩ : ∃ N : Nat, n = (N : Int) := ⟨n.toNat, by have := hV.1; omega⟩
    exact rules_len hV (by have := hV.1; omega)
  · simp
theorem specSr_was (n v : Int) (a : Option Addr) (cap : Nat) (zs : List Int) (L : List (List Int)) (w : World) (hi : Ints w a zs) (hn : zs.length ≤ 1048576) (hL : sfL n zs v = L) :
    Calls Try.prog 8 #[.agg #[.int .i64 n, .slice a zs.length cap], .int .i64 v] w (GivesL v L w) := by
  subst hL
  exact specSafeRules_any n v a cap zs w hi hn
theorem implSr_was (n v : Int) (a : Option Addr) (cap : Nat) (zs : List Int) (L : List (List Int)) (w : World) (hi : Ints w a zs) (hn : zs.length ≤ 1048576) (hL : sfL n zs v = L) :
    Calls Try.prog 6 #[.agg #[.int .i64 n, .slice a zs.length cap], .int .i64 v] w (GivesO v L w) := by
  subst hL
  exact implSafeRules_any n v a cap zs w hi hn
set_option maxHeartbeats 8000000 in
set_option maxRecDepth 100000 in
theorem walk_FnExactSafeRules (n : Int) (a : Option Addr) (zs : List Int) (cap : Nat) (v : Int) (w : World) (_wn : (Lit.int .i64 n).wf = true) (hi : Ints w a zs) (hl : zs.length ≤ maxLen) (_wv : (Lit.int .i64 v).wf = true) :
    Calls Try.prog 4 #[.agg #[.int .i64 n, .slice a zs.length cap], .int .i64 v] w fun e w' => e = .returned (.bool true) ∧ Below w.heap.size w w' := by
  by_cases h : 1048576 < zs.length
  · have hlt : left 1048576 zs.length < 0 := by unfold left; rw [if_pos (by omega)]; omega
    go_enter Try.func4, Try.ntmps4
    go_wp2_with fail
    refine (szSpace_any _ _ _ _ _ _ hl (by omega) (by omega)).mono ?_
    rintro e w1 ⟨rfl, hb1⟩
    go_wp2
    go_ret
    exact ⟨rfl, bnext (bel1 w _) hb1⟩
  · have hn : zs.length ≤ 1048576 := by omega
    have hlt : 0 ≤ left 1048576 zs.length := by unfold left; rw [if_neg (by omega)]; omega
    have S0 := SV.new w n a zs cap none [] 37 hi (Ints.nil _ _)
    obtain ⟨L, hL⟩ : ∃ L, sfL n zs v = L := ⟨_, rfl⟩
    have hL256 : L.length ≤ 256 := by rw [← hL]; exact sfL_len n v zs
    have HL := hide hL
    clear h hl hi hL
    go_enter Try.func4, Try.ntmps4
    go_wp2_with fail
    refine (szSpace_any _ _ _ _ _ _ (by unfold maxLen; omega) (by omega) (by omega)).mono ?_
    rintro e w1 ⟨rfl, hb1⟩
    have S1 := S0.below hb1
    clear S0 hb1
    obtain ⟨⟨_, c0, c1⟩, i1, _⟩ := S1.pair
    go_wp2_with fail
    refine (toSpace_any _ _ _ _ _ i1 hn).mono ?_
    rintro e w2 ⟨s2, rfl, own2, hb2⟩
    have S2 := S1.below hb2
    clear S1 hb2 c0 c1 i1
    go_wp2_with fail
    refine (specSr_was _ _ _ _ _ L _ own2.ints hn HL.out).mono ?_
    rintro e w3 ⟨vw, tw, rfl, kw, rlw, hb3⟩
    have hlw := keys_len kw
    have S3 := S2.below hb3
    have HS3 := hide S3
    have HRW := hide rlw
    have HKW := hide kw
    obtain ⟨⟨_, c0, c1⟩, i3, _⟩ := S3.pair
    clear S2 hb3 own2 S3 rlw kw
    go_wp2_with fail
    refine (toSpace_any _ _ _ _ _ i3 hn).mono ?_
    rintro e w4 ⟨s4, rfl, own4, hb4⟩
    have bx4 := Box.new w4 n (some ⟨s4, 0, none⟩) zs.length zs.length 25
    have ow4 := own4.below (bel1 w4 (.cells #[.int .i64 n, .slice (some ⟨s4, 0, none⟩) zs.length zs.length] 25))
    have B4 := bnext hb4 (bel1 w4 (.cells #[.int .i64 n, .slice (some ⟨s4, 0, none⟩) zs.length zs.length] 25))
    have hs4 : s4 < w4.heap.size := own_lt own4 s4 rfl
    have hg4 : w3.heap.size ≤ s4 := own_ge own4 s4 rfl
    clear own4 hb4 c0 c1 i3
    have HB4 := hide B4
    have HOW4 := hide ow4
    have HBX4 := hide bx4
    obtain ⟨_, x0, x1⟩ := bx4.pair
    clear B4 ow4 bx4
    go_wp2_with fail
    refine (implSr_was _ _ _ _ _ L _ HOW4.out.ints hn HL.out).mono ?_
    rintro e w5 ⟨vg, tg, rfl, kg, rog, htl, hb5⟩
    have hlg := keys_len kg
    have htg : tg.length ≤ 256 := by omega
    have hkk : keys tg = keys tw := kg.trans HKW.out.symm
    have HKK := hide hkk
    have HTL := hide htl
    have hW4 : w4.heap.size < (w4.alloc (.cells #[.int .i64 n, .slice (some ⟨s4, 0, none⟩) zs.length zs.length] 25)).heap.size := by simp
    obtain ⟨G, hG⟩ : ∃ G, G = (w4.alloc (.cells #[.int .i64 n, .slice (some ⟨s4, 0, none⟩) zs.length zs.length] 25)).heap.size := ⟨_, rfl⟩
    have hsG : s4 < G := by omega
    rw [← hG] at rog
    have HRO := hide rog
    have B5 := hide (bnext HB4.out hb5)
    have OW5 := hide (HOW4.out.below hb5)
    have BX5 := hide (HBX4.out.below hb5)
    have hGw : G ≤ w5.heap.size := by rw [hG]; exact hb5.size
    clear kg rog htl hb5 x0 x1 hlw hlg hkk HB4 HOW4 HBX4 hW4 hG
    go_wp2_with fail
    refine (eqRuleS_yes _ _ _ _ tg tw _ HRO.out.1 (HRW.out.below B5.out) HKK.out (by omega) HTL.out).mono ?_
    rintro e w6 ⟨rfl, hb6⟩
    have B6 := hide (bnext B5.out hb6)
    have OW6 := hide (OW5.out.below hb6)
    have BX6 := hide (BX5.out.below hb6)
    have RO6 := hide (HRO.out.below hb6)
    have S6 := hide (HS3.out.below B6.out)
    have hGw6 : G ≤ w6.heap.size := Nat.le_trans hGw hb6.size
    clear hb6 B5 OW5 BX5 HRO hGw
    obtain ⟨⟨_, c0, c1⟩, _⟩ := S6.out.pair
    obtain ⟨_, x0, x1⟩ := BX6.out.pair
    go_upto_region 10 with fail
    go_cut [35] (fun s35 wx => s35 = .bool false ∧ Below w6.heap.size w6 wx)
    case first =>
      go_region_with ((first
        | (go_at_call 16; refine (toSpace_any _ _ _ _ _ S6.out.drew.2.1 hn).mono ?_; rintro e w9 ⟨s9, rfl, own9, hb9⟩; have hb9' := bdrew hb9; have ⟨_, y0, y1⟩ := (BX6.out.below hb9').pair)
        | (go_at_call 18; refine (eqSpace_yes _ _ _ _ _ _ _ (OW6.out.below hb9').ints own9.ints hn).mono ?_; rintro e w10 ⟨rfl, hb10⟩)))
      all_goals
        go_wp2_with fail
        go_meet
        exact ⟨rfl, bnext hb9' hb10⟩
    case rest =>
      obtain ⟨rfl, hbc⟩ := hcut
      have B7 := hide (bnext B6.out hbc)
      have OW7 := hide (OW6.out.below hbc)
      have BX7 := hide (BX6.out.below hbc)
      have RO7 := hide (RO6.out.below hbc)
      have hGw7 := Nat.le_trans hGw6 hbc.size
      clear hbc B6 OW6 BX6 RO6 S6 c0 c1 x0 x1 hGw6
      obtain ⟨_, x0, x1⟩ := BX7.out.pair
      go_wp2_with fail
      refine (markSpaceO_any _ _ _ _ _ _ _ OW7.out hn (by omega) (by omega)).mono ?_
      rintro e w8 ⟨rfl, _, hg8⟩
      have B8 := hide (bgrown B7.out hg8 B7.out.size (fun k hk => by cases hk; exact hg4))
      have RO8 := hide (RO7.out.other hg8 (fun g e => by cases e; exact hsG))
      have hGw8 := Nat.le_trans hGw7 hg8.size
      clear hg8 B7 OW7 BX7 RO7 x0 x1 hGw7
      go_wp2_with fail
      refine (eqRuleS_yes _ _ _ _ tg tw _ RO8.out.1 (HRW.out.below B8.out) HKK.out (by omega) HTL.out).mono ?_
      rintro e w9 ⟨rfl, hb9⟩
      have B9 := hide (bnext B8.out hb9)
      have RO9 := hide (RO8.out.below hb9)
      have hGw9 := Nat.le_trans hGw8 hb9.size
      clear hb9 B8 RO8 hGw8
      go_wp2_with fail
      refine (markRuleS_any G _ tg _ _ RO9.out hGw9 (by omega) HTL.out (by omega) (by omega)).mono ?_
      rintro e w10 ⟨rfl, rom, hb10⟩
      have hG3 : w3.heap.size ≤ G := by omega
      have B10 := hide (B9.out.trans (hb10.mono hG3))
      have RM := hide rom
      clear rom hb10 B9 RO9
      go_wp2_with fail
      refine (heldRuleS_yes G _ tg _ _ RM.out.1 (by omega) HTL.out (by omega) (by omega)).mono ?_
      rintro e w11 ⟨rfl, hb11⟩
      have B11 := hide (bnext B10.out hb11)
      have RM11 := hide (RM.out.below hb11)
      clear hb11 B10 RM
      obtain ⟨⟨_, c0, c1⟩, i11, _⟩ := (HS3.out.below B11.out).pair
      go_wp2_with fail
      refine (toSpace_any _ _ _ _ _ i11 hn).mono ?_
      rintro e w12 ⟨s12, rfl, own12, hb12⟩
      clear c0 c1 i11
      go_wp2_with fail
      refine (implSr_was _ _ _ _ _ L _ own12.ints hn HL.out).mono ?_
      rintro e w13 ⟨vh, th, rfl, kh, roh, hth, hb13⟩
      have hkh : keys th = keys tw := kh.trans HKW.out.symm
      have hlh := keys_len kh
      have hth256 : th.length ≤ 256 := by omega
      have B13' := hide (bnext hb12 hb13)
      have B13 := hide (bnext B11.out B13'.out)
      have RM13 := hide (RM11.out.below B13'.out)
      have HKH := hide hkh
      have HROH := hide roh
      have HTH := hide hth
      clear own12 hb12 hb13 B13' kh hlh roh hth hkh
      go_wp2_with fail
      refine (eqRuleS_yes _ _ _ _ th tw _ HROH.out.1 (HRW.out.below B13.out) HKH.out (by omega) HTH.out).mono ?_
      rintro e w14 ⟨rfl, hb14⟩
      have B14 := hide (bnext B13.out hb14)
      have RM14 := hide (RM13.out.below hb14)
      clear hb14 B13 RM13
      go_wp2_with fail
      refine (heldRuleS_yes G _ tg _ _ RM14.out.1 (by omega) HTL.out (by omega) (by omega)).mono ?_
      rintro e w15 ⟨rfl, hb15⟩
      go_wp2
      go_ret
      exact ⟨rfl, (HS3.out.below (bnext B14.out hb15)).2.2.2⟩
end Go.Proofs.Ytbmodiobgkmngaa
