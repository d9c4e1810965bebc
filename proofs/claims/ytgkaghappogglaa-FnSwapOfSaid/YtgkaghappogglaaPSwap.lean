/- The promise of SwapOf: committees without a better swap are just. -/
import Derived.Test.YtgkaghappogglaaDrawB5
import Derived.Test.YtgkaghappogglaaSwap
import Derived.Test.YtgkaghappogglaaPSco
import Derived.Test.YtgkaghappogglaaPWro
namespace Go.Proofs.Ytgkaghappogglaa
open Go.RowKit Go.Joins

/-- what a swap that is found is -/
theorem swap_facts {c : Int} {bs : List Int} {x : Int} {a b : Nat} (h : swapA c bs x = some (a, b)) :
    ∃ m y : Nat, c = (m : Int) ∧ x = (y : Int) ∧ m ≤ 5 ∧ a < m ∧ b < m ∧ y < 2 ^ m ∧ balB c bs = true ∧ bitN y a = 1 ∧ bitN y b = 0 ∧ scoreV 1 bs y < scoreV 1 bs (swN y a b) ∧ swN y a b < 2 ^ m ∧ 2 ^ a ≤ y ∧ swN y a b = y - 2 ^ a + 2 ^ b := by
  unfold swapA at h
  split at h
  · rename_i hc
    obtain ⟨hb, hx0, hx1⟩ := hc
    have hok := bal_of hb
    obtain ⟨m, rfl⟩ := Int.eq_ofNat_of_zero_le (show 0 ≤ c from by have := hok.1.1; omega)
    obtain ⟨y, rfl⟩ := Int.eq_ofNat_of_zero_le hx0
    have hm5 : m ≤ 5 := by have := hok.1; omega
    rw [pw_nat] at hx1
    have h32 : 2 ^ m ≤ 32 := pow_le5 (m : Int) (by omega)
    obtain ⟨_, h2, h3, h4⟩ := scan_some _ _ h
    rw [Int.toNat_natCast] at h2 h3 h4
    unfold swapP at h4
    rw [decide_eq_true_eq] at h4
    have hw := swN_eq y a b (by omega) (by omega) (by omega)
    have hw2 := hw.2.2 h4.1 h4.2.1
    have hlt : y < 2 ^ m := by omega
    exact ⟨m, y, rfl, rfl, hm5, by omega, h3, hlt, hb, h4.1, h4.2.1, h4.2.2, swap_lt hlt (by omega) h3, hw2.1, hw2.2⟩
  · cases h
/-- where no swap is found the committee is just -/
theorem swap_just {c : Int} {bs : List Int} {y : Nat} (hb : balB c bs = true) (hy : (y : Int) ≤ pw c - 1) (h0 : 0 < y) (h : swapA c bs (y : Int) = none) : justB somS c bs (pc y : Int) (y : Int) = true := by
  have hok := bal_of hb
  obtain ⟨m, rfl⟩ := Int.eq_ofNat_of_zero_le (show 0 ≤ c from by have := hok.1.1; omega)
  have hm5 : m ≤ 5 := by have := hok.1; omega
  have hy' := hy
  rw [pw_nat] at hy
  have h32 : 2 ^ m ≤ 32 := pow_le5 (m : Int) (by omega)
  have hpm := pc_of_lt hm5 (show y < 2 ^ m from by omega)
  have hpp : 1 ≤ pc y := by
    rcases Nat.eq_zero_or_pos (pc y) with e | e
    · rw [pc_zero_iff y (by omega)] at e; omega
    · exact e
  have hS : seatsB (m : Int) bs (pc y : Int) = true := by rw [seatsB_yes hb]; exact decide_eq_true (by omega)
  have hseat : seatedB (m : Int) bs (pc y : Int) (y : Int) = true := seatedB_yes hS ⟨by omega, hy'⟩ (by rw [Int.toNat_natCast]; omega)
  refine stable_just (q := 1) hseat (.inl ⟨rfl, claim_som⟩) (by rw [Int.toNat_natCast]) fun a b ha hb' h1 h2 => ?_
  rw [swapA_yes hb ⟨by omega, hy'⟩, Int.toNat_natCast, Int.toNat_natCast, scan_none] at h
  rw [Int.toNat_natCast] at ha hb' h1 h2 ⊢
  have h3 := h a (Nat.zero_le _) (by omega) b hb'
  unfold swapP at h3
  rw [decide_eq_false_iff_not] at h3
  have h4 : ¬ scoreV 1 bs y < scoreV 1 bs (swN y a b) := fun hh => h3 ⟨h1, h2, hh⟩
  unfold swN at h4
  omega
set_option maxHeartbeats 2000000 in
set_option maxRecDepth 100000 in
theorem walk_FnSwapOf (a : Option Addr) (zs : List Nat) (cap : Nat) (w : World) (hi : Byts w a zs) (hl : zs.length ≤ maxLen) (hc : zs.length ≤ cap) :
    Calls Try.prog 13 #[.slice a zs.length cap] w fun e w' => e = .returned (.bool true) ∧ Below w.heap.size w w' := by
  by_cases h : 1048576 < zs.length
  · unfold maxLen at hl
    go_enter Try.func13, Try.ntmps13
    go_wp2
    go_ret
    exact ⟨rfl, Below.refl _ _⟩
  · have hl' : zs.length ≤ 1048576 := by omega
    clear h hl
    go_enter Try.func13, Try.ntmps13
    go_wp2_with fail
    refine (drawX_any _ _ _ _ hi hl' hc).mono ?_
    rintro e w1 ⟨c, ab, bs, cb, x, rfl, hc6, ib, hb6, hx, hb1⟩
    have hn : bs.length ≤ 1048576 := by omega
    clear hi
    go_wp2_with fail
    refine (implSwap_ret _ _ _ _ _ _ ib hn).mono ?_
    rintro e w2 ⟨rfl, hb2⟩
    have ib2 := ib.below hb2
    have B2 := bnext hb1 hb2
    clear ib hb1 hb2
    go_wp2_with fail
    refine (specSwap_ret _ _ _ _ _ _ ib2 hn).mono ?_
    rintro e w3 ⟨rfl, hb3⟩
    have ib3 := ib2.below hb3
    have B3 := bnext B2 hb3
    clear ib2 B2 hb3
    cases hs : swapA c bs x with
    | some ab' =>
      obtain ⟨t, u⟩ := ab'
      obtain ⟨m, y, rfl, rfl, hm5, ht, hu, hy, hbal, ht1, hu0, hless, hsw, hty, hswe⟩ := swap_facts hs
      have h32 : 2 ^ m ≤ 32 := pow_le5 (m : Int) (by omega)
      have hpw : pw (m : Int) = ((2 ^ m : Nat) : Int) := pw_nat m
      have hy1 : 1 ≤ y := by have := Nat.two_pow_pos t; omega
      have hxr : (0 : Int) ≤ (y : Int) ∧ (y : Int) ≤ pw (m : Int) - 1 := by rw [hpw]; omega
      have hxr2 : (0 : Int) ≤ (swN y t u : Int) ∧ (swN y t u : Int) ≤ pw (m : Int) - 1 := by rw [hpw]; omega
      obtain ⟨b1, v1⟩ := sc_lit (s := ⟨#[104, 97, 114, 109, 111, 110, 105, 99]⟩) kind_hrm (by omega) hbal hxr
      obtain ⟨b2, v2⟩ := sc_lit (s := ⟨#[104, 97, 114, 109, 111, 110, 105, 99]⟩) kind_hrm (by omega) hbal hxr2
      rw [Int.toNat_natCast] at v1 v2
      have u1 := score_882 1 hb6 y
      have u2 := score_882 1 hb6 (swN y t u)
      obtain ⟨S1, hS1⟩ : ∃ S, S = scoreV 1 bs y := ⟨_, rfl⟩
      obtain ⟨S2, hS2⟩ : ∃ S, S = scoreV 1 bs (swN y t u) := ⟨_, rfl⟩
      rw [← hS1] at v1 u1 hless
      rw [← hS2] at v2 u2 hless
      have hpt : pw (t : Int) = ((2 ^ t : Nat) : Int) := pw_nat t
      have hpu : pw (u : Int) = ((2 ^ u : Nat) : Int) := pw_nat u
      have htl : 2 ^ t ≤ 2 ^ 5 := Nat.pow_le_pow_right (by omega) (by omega)
      have hul : 2 ^ u ≤ 2 ^ 5 := Nat.pow_le_pow_right (by omega) (by omega)
      obtain ⟨Z, hZ⟩ : ∃ Z, Z = swN y t u := ⟨_, rfl⟩
      rw [← hZ] at b2 v2 hswe
      obtain ⟨T2, hT2⟩ : ∃ T, T = 2 ^ t := ⟨_, rfl⟩
      obtain ⟨U2, hU2⟩ : ∃ T, T = 2 ^ u := ⟨_, rfl⟩
      obtain ⟨M2, hM2⟩ : ∃ T, T = 2 ^ m := ⟨_, rfl⟩
      rw [← hT2] at hpt htl hswe hty
      rw [← hU2] at hpu hul hswe
      rw [← hM2] at hpw h32 hy
      have hze : (y : Int) - (T2 : Int) + (U2 : Int) = (Z : Int) := by omega
      have B1 := hide b1
      have B2' := hide b2
      have V1 := hide v1
      have V2 := hide v2
      have HPM := hide hpw
      have HPT := hide hpt
      have HPU := hide hpu
      have HB := hide hbal
      have HZE := hide hze
      have hT1 := hide ht1
      have hU0 := hide hu0
      rw [show scL (some (t, u)) = t from rfl, show scR (some (t, u)) = u from rfl]
      clear b1 b2 v1 v2 hS1 hS2 hs hZ hT2 hU2 hM2 hpt hpu hpw hbal hswe hxr hxr2 hsw ht1 hu0 hx hze
      go_wp2_with (first
        | (go_at_call 16; refine (implBal_any _ _ _ _ _ ib3 hn).mono ?_; rintro e w4 ⟨rfl, hb4⟩; rw [HB.out])
        | (go_at_call 23; refine (lawPower_any _ _ (by omega) (by omega)).mono ?_; rintro e w' ⟨rfl, rfl⟩; rw [HPM.out]))
      have ib4 := ib3.below hb4
      have B4 := bnext B3 hb4
      clear ib3 B3 hb4
      refine (implScoreOf_any _ _ _ _ _ _ _ ib4 hn).mono ?_
      rintro e w5 ⟨rfl, hb5⟩
      rw [B1.out, V1.out]
      have ib5 := ib4.below hb5
      have B5 := bnext B4 hb5
      clear ib4 B4 hb5
      go_wp2_with (go_at_call 23; refine (lawPower_any _ _ (by omega) (by omega)).mono ?_; rintro e w' ⟨rfl, rfl⟩; first | rw [HPT.out] | rw [HPU.out])
      rw [HZE.out]
      refine (implScoreOf_any _ _ _ _ _ _ _ ib5 hn).mono ?_
      rintro e w6 ⟨rfl, hb6'⟩
      rw [B2'.out, V2.out]
      have B6 := bnext B5 hb6'
      clear ib5 B5 hb6'
      go_wp2_with (first
        | (go_at_call 45; (with_reducible refine (lawBit_any y t _ (by omega) (by omega)).mono ?_); rintro e w' ⟨rfl, rfl⟩; rw [hT1.out])
        | (go_at_call 45; (with_reducible refine (lawBit_any y u _ (by omega) (by omega)).mono ?_); rintro e w' ⟨rfl, rfl⟩; rw [hU0.out]))
      go_ret
      exact ⟨rfl, B6⟩
    | none =>
      by_cases hbal : balB c bs = true
      · have hok := bal_of hbal
        obtain ⟨m, rfl⟩ := Int.eq_ofNat_of_zero_le (show 0 ≤ c from by have := hok.1.1; omega)
        obtain ⟨y, rfl⟩ := Int.eq_ofNat_of_zero_le hx.1
        have hm5 : m ≤ 5 := by have := hok.1; omega
        have hpw : pw (m : Int) = ((2 ^ m : Nat) : Int) := pw_nat m
        have hy31 : y < 32 := by omega
        have HB := hide hbal
        have HJ : Hid (0 < y → (y : Int) ≤ pw (m : Int) - 1 → justB somS (m : Int) bs (pc y : Int) (y : Int) = true) := fun h1 h2 => swap_just hbal h2 h1 hs
        have HBS : Hid ((y : Int) ≤ pw (m : Int) - 1 → scB ⟨#[104, 97, 114, 109, 111, 110, 105, 99]⟩ (m : Int) bs (y : Int) = true ∧ scV ⟨#[104, 97, 114, 109, 111, 110, 105, 99]⟩ (m : Int) bs (y : Int) = (scoreV 1 bs y : Int)) := fun h1 => by
          have := sc_lit (s := ⟨#[104, 97, 114, 109, 111, 110, 105, 99]⟩) (q := 1) kind_hrm (by omega) hbal ⟨by omega, h1⟩
          rw [Int.toNat_natCast] at this
          exact this
        have u1 := score_882 1 hb6 y
        clear hok hbal hs hx
        obtain ⟨S1, hS1⟩ : ∃ S, S = scoreV 1 bs y := ⟨_, rfl⟩
        rw [← hS1] at HBS u1
        obtain ⟨M2, hM2⟩ : ∃ T, T = 2 ^ m := ⟨_, rfl⟩
        rw [← hM2] at hpw
        have hM32 : M2 ≤ 32 := by rw [hM2]; exact pow_le5 (m : Int) (by omega)
        have HPM := hide hpw
        clear hS1 hM2 hpw
        by_cases hy0 : 0 < y
        · by_cases hyM : y < M2
          · have HJ2 := hide (HJ.out hy0 (by rw [HPM.out]; omega))
            obtain ⟨b1, v1⟩ := HBS.out (by rw [HPM.out]; omega)
            have B1 := hide b1
            have V1 := hide v1
            clear b1 v1
            go_wp2_with (first
              | (go_at_call 16; refine (implBal_any _ _ _ _ _ ib3 hn).mono ?_; rintro e w4 ⟨rfl, hb4⟩; rw [HB.out])
              | (go_at_call 23; refine (lawPower_any _ _ (by omega) (by omega)).mono ?_; rintro e w' ⟨rfl, rfl⟩; rw [HPM.out]))
            have ib4 := ib3.below hb4
            have B4 := bnext B3 hb4
            clear ib3 B3 hb4
            refine (implScoreOf_any _ _ _ _ _ _ _ ib4 hn).mono ?_
            rintro e w5 ⟨rfl, hb5⟩
            rw [B1.out, V1.out]
            have ib5 := ib4.below hb5
            have B5 := bnext B4 hb5
            clear ib4 B4 hb5
            go_wp2_with (go_at_call 22; refine (lawWeight_any y _ (by omega)).mono ?_; rintro e w' ⟨rfl, rfl⟩)
            refine (implIsJust_any somS _ _ _ _ _ _ _ ib5 hn).mono ?_
            rintro e w6 ⟨rfl, hb6'⟩
            rw [HJ2.out]
            go_wp2
            go_ret
            exact ⟨rfl, bnext B5 hb6'⟩
          · go_wp2_with (first
              | (go_at_call 16; refine (implBal_any _ _ _ _ _ ib3 hn).mono ?_; rintro e w4 ⟨rfl, hb4⟩; rw [HB.out])
              | (go_at_call 23; refine (lawPower_any _ _ (by omega) (by omega)).mono ?_; rintro e w' ⟨rfl, rfl⟩; rw [HPM.out]))
            go_ret
            exact ⟨rfl, bnext B3 hb4⟩
        · go_wp2_with (go_at_call 16; refine (implBal_any _ _ _ _ _ ib3 hn).mono ?_; rintro e w4 ⟨rfl, hb4⟩; rw [HB.out])
          go_ret
          exact ⟨rfl, bnext B3 hb4⟩
      · have hbal : balB c bs = false := by simpa using hbal
        have HB := hide hbal
        clear hbal hs
        go_wp2_with (go_at_call 16; refine (implBal_any _ _ _ _ _ ib3 hn).mono ?_; rintro e w4 ⟨rfl, hb4⟩; rw [HB.out])
        go_ret
        exact ⟨rfl, bnext B3 hb4⟩
end Go.Proofs.Ytgkaghappogglaa
