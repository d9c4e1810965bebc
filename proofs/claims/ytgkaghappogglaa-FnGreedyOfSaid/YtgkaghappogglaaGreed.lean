/- GreedyOf in the model and in the program. -/
import Derived.Test.YtgkaghappogglaaGreedM
import Derived.Test.YtgkaghappogglaaApp
namespace Go.Proofs.Ytgkaghappogglaa
open Go.RowKit Go.Joins

set_option maxHeartbeats 4000000 in
set_option maxRecDepth 100000 in
theorem specGreed_any (s : ByteArray) (c : Int) (a : Option Addr) (cap : Nat) (bs : List Int) (k : Int) (w : World) (hi : Ints w a bs) (hn : bs.length ≤ 1048576) :
    Calls Try.prog 40 #[.string s, .int .i64 c, .slice a bs.length cap, .int .i64 k] w (Gives (greedA s c bs k) w) := by
  obtain ⟨i0, hi0, hz0, hz1, hz2⟩ := info_parts info_int
  by_cases hv : seatsB c bs k = true
  · have hS := seats_of hv
    have hl6 : bs.length ≤ 6 := by have := hS.1.2.1; omega
    have hl1 : 1 ≤ bs.length := by have := hS.1.2.1; omega
    have HR := hide (bal_range hS.1)
    by_cases hk : kindN s < 4
    · have HN := hide (greedA_yes hv hk)
      have his : isScore s = true := by unfold isScore; exact decide_eq_true hk
      have HK := hide hk
      obtain ⟨m, rfl⟩ := Int.eq_ofNat_of_zero_le (show 0 ≤ c from by have := hS.1.1; omega)
      obtain ⟨K, rfl⟩ := Int.eq_ofNat_of_zero_le (show 0 ≤ k from by have := hS.2; omega)
      have hm5 : m ≤ 5 := by have := hS.1.1; omega
      have hKm : K ≤ m := by have := hS.2; omega
      rw [Int.toNat_natCast, Int.toNat_natCast] at HN
      clear hS hk
      go_enter Try.func40, Try.ntmps40
      go_wp2_with fail
      refine (specSeats_any _ _ _ _ _ _ hi hn).mono ?_
      rintro e wo ⟨rfl, B0⟩
      have hio := hi.below B0
      have ho0 : Owns (wo.alloc (.cells #[] 3)) wo.heap.size (.slice (some ⟨wo.heap.size, 0, none⟩) 0 0) (gl (kindN s) bs m 0) := World.ownsRow_lit wo #[] 0 (Nat.le_refl _) (by simp) rfl
      have BA := bel1 wo (.cells #[] 3)
      clear hi
      go_wp2_with (go_at_call 78; refine (specScore_any _ _ _ _ 0 _ hio hl6 hl1 HR.out (by omega)).mono ?_; rintro e w' ⟨rfl, rfl⟩)
      go_loopw [11, 12] (fun v u wr => ∃ j : Nat, j ≤ K ∧ u = .int .i64 (gw (kindN s) bs m j) ∧ Owns wr wo.heap.size v (gl (kindN s) bs m j) ∧ Below wo.heap.size wo wr) (fun v _ _ => K - lenV v)
      case atStart => exact ⟨0, Nat.zero_le _, rfl, ho0, BA⟩
      case round =>
        clear ho0 BA
        obtain ⟨j, hj, rfl, hown, BR⟩ := hrel
        have iol := hio.below BR
        have hgl := gl_length (kindN s) bs m j
        obtain ⟨av, cv, rfl, _, _⟩ := hown.form
        have HGL := hide hgl
        rw [hgl] at hown ⊢
        clear hgl
        by_cases hlt : j < K
        · have hgi := gw_inv (kindN s) bs m hm5 j (by omega)
          have hgn := gw_next (kindN s) bs m hm5 j (by omega)
          have h32 : 2 ^ m ≤ 2 ^ 5 := Nat.pow_le_pow_right (by omega) hm5
          have hg32 : gw (kindN s) bs m j < 32 := by omega
          obtain ⟨wq, hwq⟩ : ∃ wq : World, wq = wr := ⟨_, rfl⟩
          subst hwq
          obtain ⟨g, hg⟩ : ∃ g, g = gw (kindN s) bs m j := ⟨_, rfl⟩
          have HG := hide hg
          rw [← hg] at hgi hgn hg32 ⊢
          have HGN := hide hgn
          clear hgi hgn hg h32
          go_wp2
          go_loop [13, 14, 15] (fun b at' i => ∃ t : Nat, t ≤ m ∧ i = .int .i64 t ∧ b = .int .i64 (nextS (kindN s) bs g t).1 ∧ at' = .int .i64 ((nextS (kindN s) bs g t).2 : Nat)) (fun _ _ i => m - (intOf i).toNat)
          case atStart => exact ⟨0, Nat.zero_le _, rfl, rfl, rfl⟩
          case round =>
            obtain ⟨t, ht, rfl, rfl, rfl⟩ := hrel
            have hlo := nextS_lo (kindN s) bs g t
            have hhi := nextS_hi (kindN s) bs g t
            have hat := nextS_at (kindN s) bs g t
            by_cases htm : t < m
            · obtain ⟨u, hu⟩ : ∃ u, u = g ||| 2 ^ t := ⟨_, rfl⟩
              have hu32 : u < 32 := by rw [hu]; exact Nat.or_lt_two_pow (n := 5) hg32 (Nat.pow_lt_pow_right (by omega) (by omega))
              have hor := or_pw g t u hg32 (by omega) hu
              have HOR := hide hor
              have HSC := hide (scoreR_yes bs u HK.out)
              have hsl : scoreV (kindN s) bs u ≤ 147 * bs.length := scoreK_le _ _ _ _
              have HY := hide (fun h1 h2 => nextS_yes (q := kindN s) (bs := bs) (w := g) (t := t) h1 h2)
              have HNO := hide (fun h => nextS_no (q := kindN s) (bs := bs) (w := g) (t := t) h)
              rw [← hu] at HY HNO
              obtain ⟨sv, hsv⟩ : ∃ sv, sv = scoreV (kindN s) bs u := ⟨_, rfl⟩
              rw [← hsv] at HSC hsl HY HNO
              obtain ⟨bst, hbst⟩ : ∃ b, b = (nextS (kindN s) bs g t).1 := ⟨_, rfl⟩
              obtain ⟨ats, hats⟩ : ∃ b, b = (nextS (kindN s) bs g t).2 := ⟨_, rfl⟩
              have HB := hide hbst
              have HT := hide hats
              rw [← hbst] at hlo hhi HY HNO ⊢
              rw [← hats] at hat ⊢
              clear hor hu hsv hbst hats
              by_cases hbit : bitN g t = 0
              · have HBI := hide hbit
                clear hbit
                by_cases hgt : bst < (sv : Int)
                · have HYY := hide (HY.out HBI.out hgt)
                  go_wp2_with (first
                    | (go_at_call 77; refine (power_any _ _ (by omega) (by omega)).mono ?_; rintro e w' ⟨rfl, rfl⟩; have hor := HOR.out)
                    | (go_at_call 78; refine (specScore_any s _ _ _ u _ iol hl6 hl1 HR.out hu32).mono ?_; rintro e w' ⟨rfl, rfl⟩; rw [HSC.out])
                    | (go_at_call 86; refine (bit_any g t _ (by omega) (by omega)).mono ?_; rintro e w' ⟨rfl, rfl⟩; rw [HBI.out]))
                  go_round
                  case rel => exact ⟨t + 1, by omega, by go_num, by rw [HYY.out], by rw [HYY.out]⟩
                  case measure => simp only [intOf]; omega
                · have HNN := hide (HNO.out (fun h => hgt h.2))
                  go_wp2_with (first
                    | (go_at_call 77; refine (power_any _ _ (by omega) (by omega)).mono ?_; rintro e w' ⟨rfl, rfl⟩; have hor := HOR.out)
                    | (go_at_call 78; refine (specScore_any s _ _ _ u _ iol hl6 hl1 HR.out hu32).mono ?_; rintro e w' ⟨rfl, rfl⟩; rw [HSC.out])
                    | (go_at_call 86; refine (bit_any g t _ (by omega) (by omega)).mono ?_; rintro e w' ⟨rfl, rfl⟩; rw [HBI.out]))
                  go_round
                  case rel => exact ⟨t + 1, by omega, by go_num, by rw [HNN.out, HB.out], by rw [HNN.out, HT.out]⟩
                  case measure => simp only [intOf]; omega
              · have HNN := hide (HNO.out (fun h => hbit h.1))
                have hb1 : bitN g t = 1 := by have := bitN_le g t; omega
                have HBI := hide hb1
                clear hbit hb1
                go_wp2_with (first
                  | (go_at_call 77; refine (power_any _ _ (by omega) (by omega)).mono ?_; rintro e w' ⟨rfl, rfl⟩; have hor := HOR.out)
                  | (go_at_call 78; refine (specScore_any s _ _ _ u _ iol hl6 hl1 HR.out hu32).mono ?_; rintro e w' ⟨rfl, rfl⟩; rw [HSC.out])
                  | (go_at_call 86; refine (bit_any g t _ (by omega) (by omega)).mono ?_; rintro e w' ⟨rfl, rfl⟩; rw [HBI.out]))
                go_round
                case rel => exact ⟨t + 1, by omega, by go_num, by rw [HNN.out, HB.out], by rw [HNN.out, HT.out]⟩
                case measure => simp only [intOf]; omega
            · obtain rfl : m = t := by omega
              obtain ⟨ats, hats⟩ : ∃ b, b = (nextS (kindN s) bs g m).2 := ⟨_, rfl⟩
              have HT := hide hats
              have hat5 : ats < 5 := by have := HGN.out.1; omega
              have hpw : (1 : Int) ≤ pw ats ∧ pw ats ≤ 32 := ⟨pw_pos _, pw_le5 _ (by omega)⟩
              obtain ⟨hpw1, hpw2⟩ := hpw
              have HPN := hide (pw_nat ats)
              rw [← hats] at hat ⊢
              have hsz := BR.size
              have hown' : wq.ownsRow wo.heap.size 3 1 (.slice av j cv) j ((gl (kindN s) bs m j).map (Value.int .i64)) := by
                have h : wq.ownsRow wo.heap.size 3 1 (.slice av j cv) (gl (kindN s) bs m j).length ((gl (kindN s) bs m j).map (Value.int .i64)) := hown
                rw [HGL.out] at h
                exact h
              clear hats hlo hhi
              go_wp2_with ((at_builtin; refine wpList_append_own _ rfl _ _ 23 rfl wo.heap.size 3 i0 (.int .i64 0) 1 8 Try.underlying23 hi0 hz0 hz1 hz2 rfl (by decide) _ _ _ rfl (hown'.alloc _) ⟨wq.heap.size, 0, none⟩ 1 1 [.int .i64 ats] rfl rfl (cell_one_new _ _ _) (by intro u hu; simp at hu; subst hu; rfl) (by unfold maxLen; omega) (by omega) (by simp; omega) ?_))
              intro v' w2 hown2 hgrow _
              have hbel : Below wo.heap.size wo w2 := (BR.alloc hsz _).grown hgrow (by simp; omega) (fun j hj => own_ge hown j hj)
              have HPU : Hid (Owns w2 wo.heap.size v' (gl (kindN s) bs m (j + 1))) := by
                have h : Owns w2 wo.heap.size v' (gl (kindN s) bs m j ++ [(ats : Int)]) := Owns.push (by rw [HGL.out]; exact hown2)
                unfold Hid gl
                rw [← HG.out, ← HT.out]
                exact h
              obtain ⟨av2, cv2, hv2, _, _⟩ := HPU.out.form
              rw [gl_length] at hv2
              have HV2 := hide hv2
              clear hown2 hgrow hown hown' hv2
              go_wp2_with (go_at_call 77; refine (power_any _ _ (by omega) (by omega)).mono ?_; rintro e w' ⟨rfl, rfl⟩)
              go_roundw
              case rel => exact ⟨j + 1, by omega, by
                have h2 := HGN.out.2
                rw [← HT.out] at h2
                rw [h2, HPN.out]
                go_num, HPU.out, hbel⟩
              case measure => rw [HV2.out]; simp only [lenV]; omega
        · obtain rfl : j = K := by omega
          go_wp2
          go_ret
          exact ⟨_, rfl, by rw [HN.out]; exact hown.le B0.size, bnext B0 BR⟩
    · have HN := hide (greedA_name (c := c) (bs := bs) (k := k) hk)
      have his : isScore s = false := by unfold isScore; exact decide_eq_false hk
      clear hk
      go_enter Try.func40, Try.ntmps40
      go_wp2_with fail
      refine (specSeats_any _ _ _ _ _ _ hi hn).mono ?_
      rintro e w1 ⟨rfl, hb1⟩
      have hi1 := hi.below hb1
      go_wp2_with (go_at_call 78; refine (specScore_any _ _ _ _ 0 _ hi1 hl6 hl1 HR.out (by omega)).mono ?_; rintro e w' ⟨rfl, rfl⟩)
      go_ret
      exact gives_nil HN.out hb1
  · have hv : seatsB c bs k = false := by simpa using hv
    have HN := hide (greedA_seats (s := s) hv)
    go_enter Try.func40, Try.ntmps40
    go_wp2_with fail
    refine (specSeats_any _ _ _ _ _ _ hi hn).mono ?_
    rintro e w1 ⟨rfl, hb1⟩
    go_wp2
    go_ret
    exact gives_nil HN.out hb1

set_option maxHeartbeats 4000000 in
theorem bestNext_any (q : Nat) (hq : q < 4) (m : Nat) (a : Option Addr) (cap : Nat) (bs : List Int) (g : Nat) (w : World) (hi : Ints w a bs) (hl6 : bs.length ≤ 6) (hl1 : 1 ≤ bs.length) (hr : ∀ b ∈ bs, 0 ≤ b ∧ b ≤ 31) (hm : m ≤ 5) (hg32 : g < 32) :
    Calls Try.prog 85 #[.iface (kindT q) (.agg #[]), .int .i64 m, .slice a bs.length cap, .int .i64 g] w fun e w' => e = .returned (.int .i64 ((nextS q bs g m).2 : Nat)) ∧ Below w.heap.size w w' := by
  have HQ := hide hq
  have HR := hide hr
  clear hq hr
  go_enter Try.func85, Try.ntmps85
  go_wp2
  go_loopw [9, 10, 14] (fun at' b i wr => ∃ t : Nat, t ≤ m ∧ i = .int .i64 t ∧ b = .int .i64 (nextS q bs g t).1 ∧ at' = .int .i64 ((nextS q bs g t).2 : Nat) ∧ Below w.heap.size w wr) (fun _ _ i _ => m - (intOf i).toNat)
  case atStart => exact ⟨0, Nat.zero_le _, rfl, rfl, rfl, Below.refl _ _⟩
  case round =>
    obtain ⟨t, ht, rfl, rfl, rfl, BR⟩ := hrel
    have hlo := nextS_lo q bs g t
    have hhi := nextS_hi q bs g t
    have hat := nextS_at q bs g t
    have iol := hi.below BR
    by_cases htm : t < m
    · obtain ⟨u, hu⟩ : ∃ u, u = g ||| 2 ^ t := ⟨_, rfl⟩
      have hu32 : u < 32 := by rw [hu]; exact Nat.or_lt_two_pow (n := 5) hg32 (Nat.pow_lt_pow_right (by omega) (by omega))
      have hor := or_pow g t u hg32 (by omega) hu
      have hwp := wrap_pow2 t (by omega)
      have hsh := shr_bit (g : Int) t (by omega) (by omega)
      rw [Int.toNat_natCast] at hsh
      have hsl : scoreV q bs u ≤ 147 * bs.length := scoreK_le _ _ _ _
      have HY := hide (fun h1 h2 => nextS_yes (q := q) (bs := bs) (w := g) (t := t) h1 h2)
      have HNO := hide (fun h => nextS_no (q := q) (bs := bs) (w := g) (t := t) h)
      rw [← hu] at HY HNO
      obtain ⟨sv, hsv⟩ : ∃ sv, sv = scoreV q bs u := ⟨_, rfl⟩
      have HSC := hide hsv
      rw [← hsv] at hsl HY HNO
      obtain ⟨bst, hbst⟩ : ∃ b, b = (nextS q bs g t).1 := ⟨_, rfl⟩
      obtain ⟨ats, hats⟩ : ∃ b, b = (nextS q bs g t).2 := ⟨_, rfl⟩
      have HB := hide hbst
      have HT := hide hats
      rw [← hbst] at hlo hhi HY HNO ⊢
      rw [← hats] at hat ⊢
      clear hu hsv hbst hats
      by_cases hbit : bitN g t = 0
      · have HBI := hide hbit
        rw [hbit] at hsh
        clear hbit
        by_cases hgt : bst < (sv : Int)
        · have HYY := hide (HY.out HBI.out hgt)
          go_wp2_with (go_at_call 74; refine (scored_any _ HQ.out _ _ _ _ _ iol hl6 hl1 HR.out hu32).mono ?_; rintro e w3 ⟨rfl, hb3⟩; rw [← HSC.out])
          go_roundw
          case rel => exact ⟨t + 1, by omega, by go_num, by rw [HYY.out], by rw [HYY.out], bnext BR hb3⟩
          case measure => simp only [intOf]; omega
        · have HNN := hide (HNO.out (fun h => hgt h.2))
          go_wp2_with (go_at_call 74; refine (scored_any _ HQ.out _ _ _ _ _ iol hl6 hl1 HR.out hu32).mono ?_; rintro e w3 ⟨rfl, hb3⟩; rw [← HSC.out])
          go_roundw
          case rel => exact ⟨t + 1, by omega, by go_num, by rw [HNN.out, HB.out], by rw [HNN.out, HT.out], bnext BR hb3⟩
          case measure => simp only [intOf]; omega
      · have HNN := hide (HNO.out (fun h => hbit h.1))
        have hb1 : bitN g t = 1 := by have := bitN_le g t; omega
        rw [hb1] at hsh
        clear hbit hb1
        go_wp2
        go_roundw
        case rel => exact ⟨t + 1, by omega, by go_num, by rw [HNN.out, HB.out], by rw [HNN.out, HT.out], BR⟩
        case measure => simp only [intOf]; omega
    · obtain rfl : m = t := by omega
      go_wp2
      go_ret
      exact ⟨rfl, BR⟩
set_option maxHeartbeats 4000000 in
set_option maxRecDepth 100000 in
theorem implGreed_any (s : ByteArray) (c : Int) (a : Option Addr) (cap : Nat) (bs : List Int) (k : Int) (w : World) (hi : Ints w a bs) (hn : bs.length ≤ 1048576) :
    Calls Try.prog 39 #[.string s, .int .i64 c, .slice a bs.length cap, .int .i64 k] w (Gives (greedA s c bs k) w) := by
  obtain ⟨i0, hi0, hz0, hz1, hz2⟩ := info_parts info_int
  by_cases hk : kindN s < 4
  · have HK := hide hk
    by_cases hv : balB c bs = true
    · by_cases hs : 1 ≤ k ∧ k ≤ c
      · have hsb : seatsB c bs k = true := (seatsB_yes hv).trans (decide_eq_true hs)
        have hS := seats_of hsb
        have hl6 : bs.length ≤ 6 := by have := hS.1.2.1; omega
        have hl1 : 1 ≤ bs.length := by have := hS.1.2.1; omega
        have HR := hide (bal_range hS.1)
        have HN := hide (greedA_yes hsb hk)
        have HS := hide hs
        obtain ⟨m, rfl⟩ := Int.eq_ofNat_of_zero_le (show 0 ≤ c from by have := hS.1.1; omega)
        obtain ⟨K, rfl⟩ := Int.eq_ofNat_of_zero_le (show 0 ≤ k from by have := hS.2; omega)
        have hm5 : m ≤ 5 := by have := hS.1.1; omega
        have hKm : K ≤ m := by have := hS.2; omega
        rw [Int.toNat_natCast, Int.toNat_natCast] at HN
        clear hS hk hsb hs
        go_enter Try.func39, Try.ntmps39
        go_wp2_with (go_at_call 73; refine (scoreNamed_yes _ _ HK.out).mono ?_; rintro e w' ⟨rfl, rfl⟩)
        refine (implBal_any _ _ _ _ _ hi hn).mono ?_
        rintro e wo ⟨rfl, B0⟩
        have hio := hi.below B0
        clear hi
        go_wp2_with (first
          | (go_at_call 68; refine (validSeats_yes _ _ _ HS.out).mono ?_; rintro e w' ⟨rfl, rfl⟩)
          | (at_make; refine wpList_make_own _ rfl _ _ 23 rfl wo.heap.size 3 i0 (.int .i64 0) 1 Try.underlying23 hi0 hz0 hz1 _ _ _ K rfl rfl (by omega) ?b2 ?b3 (Nat.le_refl _) ?_))
        case b2 => rw [hz2]; omega
        case b3 => unfold maxLen; omega
        intro w0 hown0 hgrow0
        have hb0 : Below wo.heap.size wo w0 := (Below.refl _ _).grown hgrow0 (Nat.le_refl _) (fun k h => by cases h)
        have ho0 : Owns w0 wo.heap.size (.slice (some ⟨wo.heap.size, 0, none⟩) 0 K) (gl (kindN s) bs m 0) := hown0
        clear hgrow0 hown0
        go_wp2
        go_loopw [11, 12] (fun v u wr => ∃ j : Nat, j ≤ K ∧ u = .int .i64 (gw (kindN s) bs m j) ∧ Owns wr wo.heap.size v (gl (kindN s) bs m j) ∧ Below wo.heap.size wo wr) (fun v _ _ => K - lenV v)
        case atStart => exact ⟨0, Nat.zero_le _, rfl, ho0, hb0⟩
        case round =>
          clear ho0 hb0
          obtain ⟨j, hj, rfl, hown, BR⟩ := hrel
          have iol := hio.below BR
          have hgl := gl_length (kindN s) bs m j
          obtain ⟨av, cv, rfl, _, _⟩ := hown.form
          have HGL := hide hgl
          rw [hgl] at hown ⊢
          clear hgl
          by_cases hlt : j < K
          · have hgi := gw_inv (kindN s) bs m hm5 j (by omega)
            have hgn := gw_next (kindN s) bs m hm5 j (by omega)
            have h32 : 2 ^ m ≤ 2 ^ 5 := Nat.pow_le_pow_right (by omega) hm5
            have hg32 : gw (kindN s) bs m j < 32 := by omega
            obtain ⟨g, hg⟩ : ∃ g, g = gw (kindN s) bs m j := ⟨_, rfl⟩
            have HG := hide hg
            have HGS := hide (show gw (kindN s) bs m (j + 1) = gw (kindN s) bs m j ||| 2 ^ (nextS (kindN s) bs (gw (kindN s) bs m j) m).2 from rfl)
            rw [← hg] at hgi hgn hg32 HGS ⊢
            obtain ⟨ats, hats⟩ : ∃ b, b = (nextS (kindN s) bs g m).2 := ⟨_, rfl⟩
            have HT := hide hats
            have hat5 : ats < 5 := by have := hgn.1; omega
            rw [← hats] at HGS
            obtain ⟨u, hu⟩ : ∃ u, u = g ||| 2 ^ ats := ⟨_, rfl⟩
            have hor := or_pow g ats u hg32 (by omega) hu
            have hwp := wrap_pow2 ats (by omega)
            rw [← hu] at HGS
            have hsz := BR.size
            clear hgi hgn hg h32 hats hu
            go_wp2_with fail
            refine (bestNext_any _ HK.out m _ _ _ g _ iol hl6 hl1 HR.out hm5 hg32).mono ?_
            rintro e w3 ⟨rfl, hb3⟩
            rw [← HT.out]
            have ow3 := hown.below hb3
            have B3 := bnext BR hb3
            have hsz3 := B3.size
            have hown' : w3.ownsRow wo.heap.size 3 1 (.slice av j cv) j ((gl (kindN s) bs m j).map (Value.int .i64)) := by
              have h : w3.ownsRow wo.heap.size 3 1 (.slice av j cv) (gl (kindN s) bs m j).length ((gl (kindN s) bs m j).map (Value.int .i64)) := ow3
              rw [HGL.out] at h
              exact h
            clear hb3
            go_wp2_with ((at_builtin; refine wpList_append_own _ rfl _ _ 23 rfl wo.heap.size 3 i0 (.int .i64 0) 1 8 Try.underlying23 hi0 hz0 hz1 hz2 rfl (by decide) _ _ _ rfl (hown'.alloc _) ⟨w3.heap.size, 0, none⟩ 1 1 [.int .i64 ats] rfl rfl (cell_one_new _ _ _) (by intro u hu; simp at hu; subst hu; rfl) (by unfold maxLen; omega) (by omega) (by simp; omega) ?_))
            intro v' w2 hown2 hgrow _
            have hbel : Below wo.heap.size wo w2 := (B3.alloc hsz3 _).grown hgrow (by simp; omega) (fun j hj => own_ge ow3 j hj)
            have HPU : Hid (Owns w2 wo.heap.size v' (gl (kindN s) bs m (j + 1))) := by
              have h : Owns w2 wo.heap.size v' (gl (kindN s) bs m j ++ [(ats : Int)]) := Owns.push (by rw [HGL.out]; exact hown2)
              unfold Hid gl
              rw [← HG.out, ← HT.out]
              exact h
            obtain ⟨av2, cv2, hv2, _, _⟩ := HPU.out.form
            rw [gl_length] at hv2
            have HV2 := hide hv2
            clear hown2 hgrow hown hown' hv2
            go_wp2
            go_roundw
            case rel => exact ⟨j + 1, by omega, by rw [HGS.out], HPU.out, hbel⟩
            case measure => rw [HV2.out]; simp only [lenV]; omega
          · obtain rfl : j = K := by omega
            go_wp2
            go_ret
            exact ⟨_, rfl, by rw [HN.out]; exact hown.le B0.size, bnext B0 BR⟩
      · have HN := hide (greedA_seats (s := s) ((seatsB_yes hv).trans (decide_eq_false hs)))
        have HS := hide hs
        clear hs hk
        go_enter Try.func39, Try.ntmps39
        go_wp2_with (go_at_call 73; refine (scoreNamed_yes _ _ HK.out).mono ?_; rintro e w' ⟨rfl, rfl⟩)
        refine (implBal_any _ _ _ _ _ hi hn).mono ?_
        rintro e w1 ⟨rfl, hb1⟩
        go_wp2_with (go_at_call 68; refine (validSeats_no _ _ _ HS.out).mono ?_; rintro e w' ⟨rfl, rfl⟩)
        go_ret
        exact gives_nil HN.out hb1
    · have hv : balB c bs = false := by simpa using hv
      have HN := hide (greedA_seats (s := s) (seatsB_no (k := k) hv))
      clear hk
      go_enter Try.func39, Try.ntmps39
      go_wp2_with (go_at_call 73; refine (scoreNamed_yes _ _ HK.out).mono ?_; rintro e w' ⟨rfl, rfl⟩)
      refine (implBal_any _ _ _ _ _ hi hn).mono ?_
      rintro e w1 ⟨rfl, hb1⟩
      go_wp2
      go_ret
      exact gives_nil HN.out hb1
  · have HN := hide (greedA_name (c := c) (bs := bs) (k := k) hk)
    have HK := hide hk
    clear hk
    go_enter Try.func39, Try.ntmps39
    go_wp2_with (go_at_call 73; refine (scoreNamed_no _ _ HK.out).mono ?_; rintro e w' ⟨rfl, rfl⟩)
    go_ret
    exact gives_nil HN.out (Below.refl _ _)
end Go.Proofs.Ytgkaghappogglaa
