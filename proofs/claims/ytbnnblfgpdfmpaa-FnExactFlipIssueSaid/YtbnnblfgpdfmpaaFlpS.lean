/- FlipIssue and DropIssue of the model. -/
import Derived.Test.YtbnnblfgpdfmpaaFlp
import Derived.Test.YtbnnblfgpdfmpaaRule
import Derived.Test.YtbnnblfgpdfmpaaSp
import Derived.Deep.RegionHeld3
import Derived.Deep.QuietTactic
import Derived.BigQuiet
namespace Go.Proofs.Ytbnnblfgpdfmpaa
open Go.RowKit Go.Joins

/-- the space under way -/
def SuI (w4 : World) (G : Nat) (v : Int) (vv : Value) (os : List Int) (wq : World) : Prop :=
  wq.heap[G]? = some (.cells #[.int .i64 v, vv] 26 (0, 0)) ∧ Owns wq (G + 1) vv os ∧ Below w4.heap.size w4 wq ∧ w4.heap.size ≤ G
theorem SuI.below {w4 : World} {G : Nat} {v : Int} {vv : Value} {os : List Int} {wq w' : World} (h : SuI w4 G v vv os wq) (hb : Below wq.heap.size wq w') : SuI w4 G v vv os w' :=
  ⟨(hb.block _ (lt_of_block h.1)).trans h.1, h.2.1.below hb, bnext h.2.2.1 hb, h.2.2.2⟩
theorem SuI.push {w4 : World} {G : Nat} {v z : Int} {vv v' : Value} {os : List Int} {wq w5 : World} (h : SuI w4 G v vv os wq) (hg : wq.grownBy w5 vv.ownBlock)
    (ho : w5.ownsRow (G + 1) 3 1 v' (os.length + 1) (os.map (Value.int .i64) ++ [.int .i64 z])) : SuI w4 G v v' (os ++ [z]) (w5.setCell ⟨G, 1, none⟩ v') ∧ w5.heap[G]? = some (.cells #[.int .i64 v, vv] 26 (0, 0)) := by
  obtain ⟨h1, h2, h3, h4⟩ := h
  have hge := own_ge h2
  have hl := lt_of_block h1
  have hb : w5.heap[G]? = some (.cells #[.int .i64 v, vv] 26 (0, 0)) := (hg.block _ hl (fun e => by have := hge _ e.symm; omega)).trans h1
  exact ⟨⟨block_setCell (i := 1) hb _, (Owns.push ho).setBelow (p := ⟨G, 1, none⟩) (by show G < G + 1; omega) _, (bgrown h3 hg h3.size (fun k hk => by have := hge k hk; omega)).setCell (p := ⟨G, 1, none⟩) (by show w4.heap.size ≤ G; omega) _, h4⟩, hb⟩
theorem givesX_noS {n : Int} {zs : List Int} {o : Bool} {w W : World} (h0 : n = 0) (h1 : zs = []) (h2 : o = false) (hb : Below w.heap.size w W) : GivesX n zs o w (.returned (.tuple #[.agg #[.int .i64 0, .slice none 0 0], .bool false])) W := by
  subst h0 h1 h2
  exact ⟨_, rfl, World.ownsRow_nil _ _ _ _, hb⟩
theorem specVSf_was (n : Int) (a : Option Addr) (cap : Nat) (zs : List Int) (r : Bool) (w : World) (hi : Ints w a zs) (hn : zs.length ≤ 1048576) (h : vsB n zs = r) :
    Calls Try.prog 37 #[.agg #[.int .i64 n, .slice a zs.length cap]] w fun e w' => e = .returned (.bool r) ∧ Below w.heap.size w w' := by
  subst h
  exact validSpace_any n a cap zs w hi hn
theorem inRf_was (n l h : Int) (r : Bool) (w : World) (hr : decide (l ≤ n ∧ n ≤ h) = r) : Calls Try.prog 38 #[.int .i64 n, .int .i64 l, .int .i64 h] w fun e w' => e = .returned (.bool r) ∧ w = w' := by
  subst hr
  exact inRange_any n l h w
theorem hasZ_was (n : Int) (a : Option Addr) (cap : Nat) (zs : List Int) (u : Nat) (y : Int) (r : Bool) (w : World) (hy : y = (u : Int)) (hi : Ints w a zs) (hn : zs.length ≤ 1048576) (h : hasB zs (u : Int) = r) :
    Calls Try.prog 40 #[.agg #[.int .i64 n, .slice a zs.length cap], .int .i64 y] w fun e w' => e = .returned (.bool r) ∧ Below w.heap.size w w' := by
  subst hy h
  exact has_any n u a cap zs w hi hn
theorem powerZ_was (t p : Nat) (w : World) (ht : t ≤ 8) (h : 2 ^ t = p) : Calls Try.prog 39 #[.int .i64 (t : Int)] w fun e w' => e = .returned (.int .i64 (p : Int)) ∧ w = w' := by
  subst h
  refine (powerL_any (t : Int) w (by omega) (by omega)).mono ?_
  rintro e w' ⟨rfl, rfl⟩
  exact ⟨by unfold pw; rw [Int.toNat_natCast], rfl⟩
set_option maxHeartbeats 2000000 in
set_option maxRecDepth 100000 in
theorem specFlipIssue_any (n j : Int) (a : Option Addr) (cap : Nat) (zs : List Int) (w : World) (hi : Ints w a zs) (hn : zs.length ≤ 1048576) :
    Calls Try.prog 12 #[.agg #[.int .i64 n, .slice a zs.length cap], .int .i64 j] w (GivesX (fpN n zs j) (fpL n zs j) (hiB n zs j) w) := by
  obtain ⟨i0, hi0, hz0, hz1, hz2⟩ := info_parts info_int
  have S0 := (SV.new w n a zs cap none [] 26 hi (Ints.nil _ _)).below (bel1 _ (.cells #[.int .i64 0, .slice none 0 0] 26))
  have hres := heap_alloc_new (w.alloc (.cells #[.int .i64 n, .slice a zs.length cap] 26)) (.cells #[.int .i64 0, .slice none 0 0] 26)
  simp only [World.size_alloc] at hres
  have HRES := hide hres
  have HS0 := hide S0
  obtain ⟨⟨_, c0, c1⟩, _⟩ := S0.pair
  clear hi hres S0
  by_cases hs : vsB n zs = false
  · have HH := hide (show hiB n zs j = false by unfold hiB; rw [hs]; rfl)
    have HV := hide hs
    clear hs
    go_enter Try.func12, Try.ntmps12
    go_wp2_with fail
    refine (specVSf_was _ _ _ _ false _ HS0.out.2.1 hn HV.out).mono ?_
    rintro e w1 ⟨rfl, hb⟩
    have hr1 := (hb.block _ (lt_of_block HRES.out)).trans HRES.out
    have f0 := unfrozen_of_block hr1 0
    have f1 := unfrozen_of_block hr1 1
    have r0 := cell_of_block hr1 0
    have r1 := cell_of_block hr1 1
    have HR1 := hide hr1
    have HB := hide (HS0.out.below hb).2.2.2
    clear hr1 hb HS0 HRES c0 c1
    go_wp2
    refine bodyPost_ret (ret_cross rfl _ _ _ _ _ rfl (block_setCell (i := 1) (block_setCell (i := 0) HR1.out _) _)) rfl ?_
    exact givesX_noS (by unfold fpN; rw [if_neg (by rw [HH.out]; decide)]) (by unfold fpL; rw [if_neg (by rw [HH.out]; decide)]) HH.out ((HB.out.setCell (p := ⟨w.heap.size + 1, 0, none⟩) (by show w.heap.size ≤ w.heap.size + 1; omega) _).setCell (p := ⟨w.heap.size + 1, 1, none⟩) (by show w.heap.size ≤ w.heap.size + 1; omega) _)
  · have hs : vsB n zs = true := by simpa using hs
    have HVS := hide hs
    have hV := valid_of hs
    have hn4 := hV.1
    by_cases hr : 0 ≤ j ∧ j ≤ n - 1
    · have hh : hiB n zs j = true := hiB_iff.2 ⟨hs, hr.1, by omega⟩
      have HH := hide hh
      obtain ⟨N, rfl⟩ : ∃ N : Nat, n = (N : Int) := ⟨n.toNat, by omega⟩
      obtain ⟨jN, rfl⟩ : ∃ jN : Nat, j = (jN : Int) := ⟨j.toNat, by omega⟩
      have hN : 1 ≤ N ∧ N ≤ 4 := by omega
      have hjN : jN < N := by omega
      have HRR := hide (decide_eq_true hr)
      have HN := hide (show fpN (N : Int) zs (jN : Int) = (N : Int) by unfold fpN; rw [if_pos hh])
      have HL := hide (show fpL (N : Int) zs (jN : Int) = pkK (flP zs jN) (2 ^ N) by unfold fpL; rw [if_pos hh, Int.toNat_natCast, flip_pk hV hjN])
      have p16 : 2 ^ N ≤ 2 ^ 4 := Nat.pow_le_pow_right (by omega) hN.2
      have p8 : 2 ^ jN ≤ 2 ^ 3 := Nat.pow_le_pow_right (by omega) (by omega)
      obtain ⟨T, hT⟩ : ∃ T, 2 ^ N = T := ⟨_, rfl⟩
      obtain ⟨pt, hpt⟩ : ∃ pt, 2 ^ jN = pt := ⟨_, rfl⟩
      rw [hT] at p16 HL
      rw [hpt] at p8
      have HTE := hide hT
      have HPT := hide hpt
      clear hs hV hn4 hr hh hT hpt
      go_enter Try.func12, Try.ntmps12
      go_wp2_with fail
      refine (specVSf_was _ _ _ _ true _ HS0.out.2.1 hn HVS.out).mono ?_
      rintro e w1 ⟨rfl, hb⟩
      have HR1 := hide ((hb.block _ (lt_of_block HRES.out)).trans HRES.out)
      have HS1 := hide (HS0.out.below hb)
      clear hb HS0 HRES c0 c1
      obtain ⟨⟨_, c0, c1⟩, _⟩ := HS1.out.pair
      have hw1 : w.heap.size + 1 < w1.heap.size := lt_of_block HR1.out
      go_wp2_with (go_at_call 38; refine (inRf_was _ _ _ true _ HRR.out).mono ?_; rintro e w' ⟨rfl, rfl⟩)
      have O0 : SuI w1 w1.heap.size (N : Int) (.slice none 0 0) [] (w1.alloc (.cells #[.int .i64 (N : Int), .slice none 0 0] 26)) := ⟨heap_alloc_new w1 _, World.ownsRow_nil _ _ _ _, bel1 _ _, Nat.le_refl _⟩
      obtain ⟨G, hG⟩ : ∃ G, G = w1.heap.size := ⟨_, rfl⟩
      rw [← hG] at O0 ⊢
      have hGw : w.heap.size + 1 < G := by omega
      clear hG hw1 c0 c1
      go_loopw [7] (fun i wq => ∃ (t : Nat) (vv : Value) (os : List Int), t ≤ T ∧ i = .int .i64 t ∧ os = pkK (flP zs jN) t ∧ SuI w1 G (N : Int) vv os wq) (fun i _ => T - (intOf i).toNat)
      case atStart => exact ⟨0, _, [], Nat.zero_le _, rfl, rfl, O0⟩
      case round =>
        clear O0
        obtain ⟨t, vv, os, ht, rfl, hos, hsu⟩ := hrel
        have hsr := HS1.out.below hsu.2.2.1
        have hol : os.length ≤ 16 := by have := pkK_len (flP zs jN) t; rw [hos]; omega
        have HOS := hide hos
        obtain ⟨va, vc, rfl, _, _⟩ := hsu.2.1.form
        clear hos
        obtain ⟨⟨_, c0, c1⟩, _⟩ := hsr.pair
        by_cases hlt : t < T
        · obtain ⟨u, hu⟩ : ∃ u, t ^^^ pt = u := ⟨_, rfl⟩
          have hxor := hide (show bits .xor .i64 (t : Int) (pt : Int) = (u : Int) from by
            have h1 := flip_bits ⟨jN, by omega⟩ ⟨t, by omega⟩
            simp only at h1
            rw [HPT.out] at h1
            rw [h1, hu])
          obtain ⟨r, hr⟩ : ∃ r, hasB zs (u : Int) = r := ⟨_, rfl⟩
          have HRE := hide hr
          have HP := hide (show flP zs jN t = r by unfold flP; rw [HPT.out, hu]; exact hr)
          have HSU := hide hsu
          have HSD := hide (hsr.below (bdrew' (Below.refl wr.heap.size wr)))
          obtain ⟨⟨_, y0, y1⟩, _⟩ := HSD.out.pair
          have K0 := hide (show wr.drew.cell? ⟨w.heap.size, 0, none⟩ = some (.int .i64 (N : Int)) ∧ wr.drew.cell? ⟨w.heap.size, 1, none⟩ = some (.slice a zs.length cap) from ⟨y0, y1⟩)
          have HID := hide HSD.out.2.1
          clear hr hu hsu hsr y0 y1
          go_wp2_with (go_at_call 39; refine (powerZ_was N T _ (by omega) HTE.out).mono ?_; rintro e w' ⟨rfl, rfl⟩)
          clear c0 c1
          go_region_held3 (fun w' => w'.cell? ⟨w.heap.size, 0, none⟩ = some (.int .i64 (N : Int)) ∧ w'.cell? ⟨w.heap.size, 1, none⟩ = some (.slice a zs.length cap)) (first | exact K0.out | exact K5.out | go_keep)
            ((first
              | (go_at_call 39; (with_reducible refine (powerZ_was jN pt _ (by omega) HPT.out).mono ?_); rintro e w' ⟨rfl, rfl⟩)
              | (go_at_call 40; refine (hasZ_was _ _ _ _ u _ r _ hxor.out HID.out hn HRE.out).mono ?_; rintro e w5 ⟨rfl, b5⟩; have S5 := hide (HSD.out.below b5); have K5 := hide (show w5.cell? ⟨w.heap.size, 0, none⟩ = some (.int .i64 (N : Int)) ∧ w5.cell? ⟨w.heap.size, 1, none⟩ = some (.slice a zs.length cap) from ⟨S5.out.pair.1.2.1, S5.out.pair.1.2.2⟩); have U5 := hide ((HSU.out.below (bdrew' (Below.refl wr.heap.size wr))).below b5); clear b5)))
          all_goals
            cases r with
            | false =>
              have HPK := hide (pkK_no HP.out)
              go_wp2
              go_roundw
              case rel => exact ⟨t + 1, _, os, by omega, by go_num, by rw [HPK.out]; exact HOS.out, U5.out⟩
              case measure => simp only [intOf]; omega
            | true =>
              have HPK := hide (pkK_yes HP.out)
              have u5 := U5.out
              have g1 := cell_of_block u5.1 1
              have f1 := unfrozen_of_block u5.1 1
              have hown := u5.2.1
              have hGl2 := lt_of_block u5.1
              clear u5
              go_wp2_with (at_builtin; refine wpList_append_own _ rfl _ _ 22 rfl (G + 1) 3 i0 (.int .i64 0) 1 8 Try.underlying22 hi0 hz0 hz1 hz2 rfl (by decide) _ _ _ rfl (hown.alloc _) ⟨w5.heap.size, 0, none⟩ 1 1 [.int .i64 (t : Int)] rfl rfl (cell_one_new w5 _ _) (by intro x hx; simp at hx; subst hx; rfl) (by unfold maxLen; omega) (by omega) (by first | omega | (simp; omega)) ?_)
              intro v' w6 hown' hgrow _
              obtain ⟨HP6, hb6⟩ := (U5.out.below (bel1 w5 (.cells #[.int .i64 (t : Int)] 3))).push hgrow hown'
              obtain ⟨zz, hzz⟩ : ∃ zz : List Int, zz = os ++ [(t : Int)] := ⟨_, rfl⟩
              rw [← hzz] at HP6
              have HZ : Hid (zz = pkK (flP zs jN) (t + 1)) := by
                unfold Hid
                rw [hzz, HPK.out, HOS.out]
              obtain ⟨av', cv', rfl, _, _⟩ := HP6.2.1.form
              have f5 := unfrozen_of_block hb6 1
              have g5 := cell_of_block hb6 1
              have HQ2 := hide HP6
              clear hown hown' hgrow hb6 HP6 hzz g1 f1
              go_wp2
              go_roundw
              case rel => exact ⟨t + 1, _, zz, by omega, by go_num, HZ.out, HQ2.out⟩
              case measure => simp only [intOf]; omega
        · obtain rfl : t = T := by omega
          have q0 := cell_of_block hsu.1 0
          have q1 := cell_of_block hsu.1 1
          have hr5 := (hsu.2.2.1.block _ (lt_of_block HR1.out)).trans HR1.out
          have f0 := unfrozen_of_block hr5 0
          have f1 := unfrozen_of_block hr5 1
          have r0 := cell_of_block hr5 0
          have r1 := cell_of_block hr5 1
          have HR5 := hide hr5
          have HSU := hide hsu
          clear hr5 hsu hsr
          go_wp2_with (go_at_call 39; refine (powerZ_was N t _ (by omega) HTE.out).mono ?_; rintro e w' ⟨rfl, rfl⟩)
          refine bodyPost_ret (ret_cross rfl _ _ _ _ _ rfl (block_setCell (i := 1) (block_setCell (i := 0) HR5.out _) _)) rfl ?_
          rw [HN.out, HL.out, HH.out, ← HOS.out]
          exact ⟨_, rfl, ((HSU.out.2.1.setBelow (p := ⟨w.heap.size + 1, 0, none⟩) (by show w.heap.size + 1 < G + 1; omega) _).setBelow (p := ⟨w.heap.size + 1, 1, none⟩) (by show w.heap.size + 1 < G + 1; omega) _).le (by omega), ((bnext HS1.out.2.2.2 HSU.out.2.2.1).setCell (p := ⟨w.heap.size + 1, 0, none⟩) (by show w.heap.size ≤ w.heap.size + 1; omega) _).setCell (p := ⟨w.heap.size + 1, 1, none⟩) (by show w.heap.size ≤ w.heap.size + 1; omega) _⟩
    · have HH := hide (show hiB n zs j = false by
        rcases Bool.eq_false_or_eq_true (hiB n zs j) with h | h
        · have := hiB_iff.1 h
          exact absurd ⟨this.2.1, by omega⟩ hr
        · exact h)
      have HRR := hide (decide_eq_false hr)
      clear hs hV hr
      go_enter Try.func12, Try.ntmps12
      go_wp2_with fail
      refine (specVSf_was _ _ _ _ true _ HS0.out.2.1 hn HVS.out).mono ?_
      rintro e w1 ⟨rfl, hb⟩
      have hr1 := (hb.block _ (lt_of_block HRES.out)).trans HRES.out
      have f0 := unfrozen_of_block hr1 0
      have f1 := unfrozen_of_block hr1 1
      have r0 := cell_of_block hr1 0
      have r1 := cell_of_block hr1 1
      have HR1 := hide hr1
      have S1 := HS0.out.below hb
      have HB := hide S1.2.2.2
      clear hr1 hb HS0 HRES c0 c1
      obtain ⟨⟨_, c0, c1⟩, _⟩ := S1.pair
      go_wp2_with (go_at_call 38; refine (inRf_was _ _ _ false _ HRR.out).mono ?_; rintro e w' ⟨rfl, rfl⟩)
      refine bodyPost_ret (ret_cross rfl _ _ _ _ _ rfl (block_setCell (i := 1) (block_setCell (i := 0) HR1.out _) _)) rfl ?_
      exact givesX_noS (by unfold fpN; rw [if_neg (by rw [HH.out]; decide)]) (by unfold fpL; rw [if_neg (by rw [HH.out]; decide)]) HH.out ((HB.out.setCell (p := ⟨w.heap.size + 1, 0, none⟩) (by show w.heap.size ≤ w.heap.size + 1; omega) _).setCell (p := ⟨w.heap.size + 1, 1, none⟩) (by show w.heap.size ≤ w.heap.size + 1; omega) _)
end Go.Proofs.Ytbnnblfgpdfmpaa
