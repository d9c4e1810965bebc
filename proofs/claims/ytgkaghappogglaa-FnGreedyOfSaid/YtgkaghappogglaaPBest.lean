/- The promise of BestOf: the best harmonic committees are just to all groups. -/
import Derived.Test.YtgkaghappogglaaDrawB4
import Derived.Test.YtgkaghappogglaaBestM
import Derived.Test.YtgkaghappogglaaBestI
import Derived.Test.YtgkaghappogglaaPSco
import Derived.Test.YtgkaghappogglaaPJust
namespace Go.Proofs.Ytgkaghappogglaa
open Go.RowKit Go.Joins

theorem comL_pair (m : Nat) (k : Int) : (comL m k).Pairwise (· < ·) := by
  unfold comL
  rw [List.pairwise_map]
  refine List.Pairwise.filter _ (List.Pairwise.imp ?_ List.pairwise_lt_range)
  intro a b h
  omega
theorem pair_ups {zs : List Int} (h : zs.Pairwise (· < ·)) : Ups zs := by
  intro i hi h0
  rw [getD_lt hi, getD_lt (by omega)]
  exact List.pairwise_iff_getElem.1 h (i - 1) i (by omega) hi (by omega)
theorem bestL_ups (q : Nat) (bs : List Int) (m : Nat) (k : Int) : Ups (bestL q bs (comL m k)) := by
  unfold bestL outK
  rw [List.take_length]
  exact pair_ups (List.Pairwise.filter _ (comL_pair m k))
/-- what the best committees are -/
theorem best_facts {s : ByteArray} {c : Int} {bs : List Int} {k : Int} (h : 0 < (bestA s c bs k).length) : ∃ m K q : Nat, c = (m : Int) ∧ k = (K : Int) ∧ m ≤ 5 ∧ 1 ≤ K ∧ K ≤ m ∧ kindN s = q ∧ q < 4 ∧ balB c bs = true ∧ seatsB c bs k = true ∧ bestA s c bs k = bestL q bs (comL (2 ^ m) (K : Int)) := by
  unfold bestA at h
  split at h
  · rename_i hc
    obtain ⟨hS, hk⟩ := hc
    obtain ⟨hok, hk1, hkc⟩ := seats_of hS
    obtain ⟨m, rfl⟩ := Int.eq_ofNat_of_zero_le (show 0 ≤ c from by omega)
    obtain ⟨K, rfl⟩ := Int.eq_ofNat_of_zero_le (show 0 ≤ k from by omega)
    refine ⟨m, K, kindN s, rfl, rfl, by have := hok.1; omega, by omega, by omega, rfl, hk, balB_true hok, hS, ?_⟩
    rw [bestA_yes hS hk, Int.toNat_natCast]
  · simp at h
theorem kind_harm_of {s : ByteArray} (h : s.toList = [104, 97, 114, 109, 111, 110, 105, 99]) : kindN s = 1 := by
  unfold kindN
  rw [if_neg (by rw [h]; decide), if_pos (by rw [h]; decide)]
theorem kind_cover_of {s : ByteArray} (h : s.toList = [99, 111, 118, 101, 114]) : kindN s = 2 := by
  unfold kindN
  rw [if_neg (by rw [h]; decide), if_neg (by rw [h]; decide), if_pos (by rw [h]; decide)]
/-- a best committee is just -/
theorem best_just {q : Nat} {s : ByteArray} {m K : Nat} {bs : List Int} {z : Int} (hm : m ≤ 5) (hS : seatsB (m : Int) bs (K : Int) = true) (hq : (q = 1 ∧ claimN s = 3) ∨ (q = 2 ∧ claimN s = 1)) (hz : z ∈ bestL q bs (comL (2 ^ m) (K : Int))) : justB s (m : Int) bs (K : Int) z = true := by
  obtain ⟨y, rfl, hy, hp, hst⟩ := best_stable hm hz
  refine stable_just (q := q) (seatedB_yes hS ⟨by omega, by rw [pw_nat]; omega⟩ (by rw [Int.toNat_natCast]; omega)) hq (by rw [Int.toNat_natCast]; exact hp) ?_
  rw [Int.toNat_natCast, Int.toNat_natCast]
  exact hst
set_option maxHeartbeats 2000000 in
set_option maxRecDepth 100000 in
theorem walk_FnBestOf (a : Option Addr) (zs : List Nat) (cap : Nat) (w : World) (hi : Byts w a zs) (hl : zs.length ≤ maxLen) (hc : zs.length ≤ cap) :
    Calls Try.prog 7 #[.slice a zs.length cap] w fun e w' => e = .returned (.bool true) ∧ Below w.heap.size w w' := by
  by_cases h : 1048576 < zs.length
  · unfold maxLen at hl
    go_enter Try.func7, Try.ntmps7
    go_wp2
    go_ret
    exact ⟨rfl, Below.refl _ _⟩
  · have hl' : zs.length ≤ 1048576 := by omega
    clear h hl
    go_enter Try.func7, Try.ntmps7
    go_wp2_with fail
    refine (drawBst_any _ _ _ _ hi hl' hc).mono ?_
    rintro e w1 ⟨s, c, ab, bs, cb, k, rfl, hc6, ib, hb6, hk32, hb1⟩
    have hn : bs.length ≤ 1048576 := by omega
    have hlen := bestA_len s c bs k
    clear hi
    go_wp2_with fail
    refine (implBest_any _ _ _ _ _ _ _ ib hn).mono ?_
    rintro e w2 ⟨v2, rfl, own2, hb2⟩
    obtain ⟨a2, c2, rfl, i2, _⟩ := own2.form
    have ib2 := ib.below hb2
    have B2 := bnext hb1 hb2
    clear ib hb1 hb2 own2
    go_wp2_with fail
    refine (specBest_any _ _ _ _ _ _ _ ib2 hn).mono ?_
    rintro e w3 ⟨v3, rfl, own3, hb3⟩
    obtain ⟨a3, c3, rfl, i3, _⟩ := own3.form
    have ib3 := ib2.below hb3
    have B3 := bnext B2 hb3
    have j3 := i2.below hb3
    clear ib2 B2 hb3 own3 i2
    go_wp2_with fail
    refine (equalInts_yes _ _ _ _ _ _ j3 i3 (by omega)).mono ?_
    rintro e w4 ⟨rfl, hb4⟩
    have ib4 := ib3.below hb4
    have B4 := bnext B3 hb4
    have i4 := j3.below hb4
    clear ib3 B3 hb4 j3 i3
    by_cases hz : (bestA s c bs k).length = 0
    · have hzz : (((bestA s c bs k).length : Int) == 0) = true := by rw [hz]; rfl
      clear hz
      go_wp2_with fail
      refine (specBest_any _ _ _ _ _ _ _ ib4 hn).mono ?_
      rintro e w5 ⟨v5, rfl, own5, hb5⟩
      obtain ⟨a5, c5, rfl, i5, _⟩ := own5.form
      go_wp2_with fail
      refine (equalInts_yes _ _ _ _ _ _ (i4.below hb5) i5 (by omega)).mono ?_
      rintro e w6 ⟨rfl, hb6'⟩
      go_wp2
      go_ret
      exact ⟨rfl, bnext (bnext B4 hb5) hb6'⟩
    · obtain ⟨m, K, q, rfl, rfl, hm5, hK1, hKm, hkq, hq4, hbal, hS, hA⟩ := best_facts (s := s) (c := c) (bs := bs) (k := k) (by omega)
      have hzz : (((bestA s (m : Int) bs (K : Int)).length : Int) == 0) = false := by simpa using hz
      have h32 : 2 ^ m ≤ 32 := pow_le5 (m : Int) (by omega)
      have hCA := comA_yes (c := (m : Int)) (k := (K : Int)) (by omega)
      rw [Int.toNat_natCast] at hCA
      have hpos : 0 < (comL (2 ^ m) (K : Int)).length := by
        have := comL_pos (c := (m : Int)) (k := (K : Int)) (by omega) (by omega)
        rwa [Int.toNat_natCast] at this
      have hclen := comL_len (2 ^ m) (K : Int)
      have hUPS := hide (bestL_ups q bs (2 ^ m) (K : Int))
      have HSC : Hid (∀ z ∈ comL (2 ^ m) (K : Int), ∃ N : Nat, N = scF q bs z ∧ N ≤ 882 ∧ scB s (m : Int) bs z = true ∧ scV s (m : Int) bs z = (N : Int)) := fun z hz => by
        obtain ⟨y, rfl, hy, _⟩ := comL_iff.1 hz
        have h1 := sc_lit (s := s) (q := q) hkq hq4 hbal (x := (y : Int)) (by rw [pw_nat]; omega)
        exact ⟨scF q bs (y : Int), rfl, score_882 q hb6 _, h1.1, h1.2⟩
      obtain ⟨z0, hz0m, hz0⟩ := mxI_at (scF q bs) (comL (2 ^ m) (K : Int)) (comL (2 ^ m) (K : Int)).length hpos (Nat.le_refl _)
      have HIFF : Hid (∀ z ∈ comL (2 ^ m) (K : Int), scF q bs z ≤ scF q bs z0 ∧ (z ∈ bestL q bs (comL (2 ^ m) (K : Int)) ↔ scF q bs z = scF q bs z0)) := fun z hz => by
        have hge : ∀ y ∈ comL (2 ^ m) (K : Int), scF q bs y ≤ scF q bs z0 := by
          intro y hy
          obtain ⟨j, hj, e⟩ := List.getElem_of_mem hy
          have := mxI_ge (scF q bs) (comL (2 ^ m) (K : Int)) (comL (2 ^ m) (K : Int)).length j hj
          rw [getD_lt hj, e] at this
          omega
        refine ⟨hge z hz, ?_⟩
        rw [bestL_iff hpos]
        constructor
        · rintro ⟨_, h2⟩
          have h3 := h2 z0 hz0m
          have h4 := hge z hz
          omega
        · intro e
          exact ⟨hz, fun y hy => by rw [e]; exact hge y hy⟩
      have HSUB : Hid (∀ z ∈ bestL q bs (comL (2 ^ m) (K : Int)), z ∈ comL (2 ^ m) (K : Int)) := fun z hz => ((bestL_iff hpos).1 hz).1
      have HJ1 : Hid (s.toList = [104, 97, 114, 109, 111, 110, 105, 99] → ∀ z ∈ bestL q bs (comL (2 ^ m) (K : Int)), justB somS (m : Int) bs (K : Int) z = true) := fun e z hz => best_just hm5 hS (.inl ⟨by rw [← hkq]; exact kind_harm_of e, claim_som⟩) hz
      have HJ2 : Hid (s.toList = [99, 111, 118, 101, 114] → ∀ z ∈ bestL q bs (comL (2 ^ m) (K : Int)), justB oneS (m : Int) bs (K : Int) z = true) := fun e z hz => best_just hm5 hS (.inr ⟨by rw [← hkq]; exact kind_cover_of e, claim_one⟩) hz
      have hMax : scF q bs z0 ≤ 882 := score_882 q hb6 _
      rw [hA] at i4 hlen hzz hz ⊢
      obtain ⟨C, hC⟩ : ∃ C, C = comL (2 ^ m) (K : Int) := ⟨_, rfl⟩
      rw [← hC] at hclen hUPS HSC HIFF HSUB HJ1 HJ2 i4 hlen hzz hz hCA ⊢
      obtain ⟨L, hL⟩ : ∃ L, L = bestL q bs C := ⟨_, rfl⟩
      rw [← hL] at hUPS HIFF HSUB HJ1 HJ2 i4 hlen hzz hz ⊢
      obtain ⟨T, hT⟩ : ∃ T, T = scF q bs z0 := ⟨_, rfl⟩
      rw [← hT] at hMax HIFF
      have HCA := hide hCA
      have hclen' : C.length ≤ 32 := by omega
      clear hz0 hz0m hT hA hL hC hbal hS hCA hclen hkq hpos
      obtain ⟨b2, o2, rfl, hbl2, hcc2⟩ := i4 (by omega)
      have hck0 := hcc2 0 (by omega)
      rw [getD_lt (show 0 < L.length from by omega), Nat.add_zero] at hck0
      obtain ⟨N0, hN0, hN08, hb0, hv0⟩ := HSC.out _ (HSUB.out _ (mem_of_at (zs := L) (k := 0) (by omega)))
      have hN0T : N0 = T := by rw [hN0]; exact ((HIFF.out _ (HSUB.out _ (mem_of_at (zs := L) (k := 0) (by omega)))).2).1 (mem_of_at (zs := L) (k := 0) (by omega))
      rw [hN0T] at hv0
      have HB0 := hide hb0
      have HV0 := hide hv0
      have hL0 : decide (0 < L.length) = true := by simpa using (show 0 < L.length from by omega)
      clear hcc2 hb0 hv0 hN0 hN08 hN0T
      go_wp2_with fail
      refine (implScoreOf_any _ _ _ _ _ _ _ ib4 hn).mono ?_
      rintro e w5 ⟨rfl, hb5⟩
      rw [HB0.out, HV0.out]
      have ib5 := ib4.below hb5
      have B5 := bnext B4 hb5
      have i5 := i4.below hb5
      clear ib4 B4 hb5 i4 hck0
      go_wp2_with fail
      refine (implCommitteesOf_any _ _ _).mono ?_
      rintro e w6 ⟨v6, rfl, own6, hb6'⟩
      rw [HCA.out] at own6
      obtain ⟨a6, c6, rfl, i6, _⟩ := own6.form
      have ib6 := ib5.below hb6'
      have B6 := bnext B5 hb6'
      have j6 := i5.below hb6'
      clear ib5 B5 hb6' i5 own6
      go_wp2_with fail
      go_loopw [11] (fun i wr => ∃ t : Nat, t ≤ C.length ∧ i = .int .i64 t ∧ Below w.heap.size w wr ∧ Ints wr a6 C ∧ Ints wr (some ⟨b2, o2, none⟩) L ∧ Ints wr ab bs) (fun i _ => C.length - (intOf i).toNat)
      case atStart => exact ⟨0, Nat.zero_le _, rfl, B6, i6, j6, ib6⟩
      case round =>
        clear B6 i6 j6 ib6
        obtain ⟨t, ht, rfl, BR, iC, iL, iB⟩ := hrel
        by_cases hlt : t < C.length
        · obtain ⟨bc, oc, rfl, hbc, hcc⟩ := iC (by omega)
          have hck := hcc t hlt
          rw [getD_lt hlt] at hck
          obtain ⟨N, hN, hN8, hbz, hvz⟩ := HSC.out _ (mem_of_at hlt)
          obtain ⟨hge, hif⟩ := HIFF.out _ (mem_of_at hlt)
          rw [← hN] at hge hif
          have HBZ := hide hbz
          have HVZ := hide hvz
          have HIC := hide iC
          have HIL := hide iL
          have HIB := hide iB
          by_cases hin : C[t] ∈ L
          · have e := hif.1 hin
            have HH := hide (hasB_true hin)
            subst e
            clear hif hin hbz hvz hcc hN iC iL iB
            go_wp2_with fail
            refine (implScoreOf_any _ _ _ _ _ _ _ HIB.out hn).mono ?_
            rintro e w7 ⟨rfl, hb7⟩
            rw [HBZ.out, HVZ.out]
            have hck7 := (hb7.cell (p := ⟨bc, oc + t, none⟩) hbc).trans hck
            clear hck
            have HB7 := hide hb7
            clear hb7
            go_wp2_with (go_at_call 36; refine (isIn_any _ _ _ _ _ (HIL.out.below HB7.out) (by omega)).mono ?_; rintro e w' ⟨rfl, rfl⟩; rw [HH.out])
            go_roundw
            case rel => exact ⟨t + 1, by omega, by go_num, bnext BR HB7.out, HIC.out.below HB7.out, HIL.out.below HB7.out, HIB.out.below HB7.out⟩
            case measure => simp only [intOf]; omega
          · have hne : N ≠ T := fun hh => hin (hif.2 hh)
            have HH := hide (hasB_false hin)
            have hE : ((N : Int) == (T : Int)) = false := by rw [beq_eq_false_iff_ne]; omega
            have hE2 : ¬ ((N : Int) = (T : Int)) := by omega
            clear hif hin hbz hvz hcc hN iC iL iB hne
            go_wp2_with fail
            refine (implScoreOf_any _ _ _ _ _ _ _ HIB.out hn).mono ?_
            rintro e w7 ⟨rfl, hb7⟩
            rw [HBZ.out, HVZ.out]
            have hck7 := (hb7.cell (p := ⟨bc, oc + t, none⟩) hbc).trans hck
            clear hck
            have HB7 := hide hb7
            clear hb7
            go_wp2_with (go_at_call 36; refine (isIn_any _ _ _ _ _ (HIL.out.below HB7.out) (by omega)).mono ?_; rintro e w' ⟨rfl, rfl⟩; rw [HH.out])
            go_roundw
            case rel => exact ⟨t + 1, by omega, by go_num, bnext BR HB7.out, HIC.out.below HB7.out, HIL.out.below HB7.out, HIB.out.below HB7.out⟩
            case measure => simp only [intOf]; omega
        · obtain rfl : t = C.length := by omega
          clear iC HSC HIFF
          go_wp2_with fail
          go_loopw [14] (fun i wr => ∃ t : Nat, t ≤ L.length ∧ i = .int .i64 t ∧ Below w.heap.size w wr ∧ Ints wr (some ⟨b2, o2, none⟩) L ∧ Ints wr ab bs) (fun i _ => L.length - (intOf i).toNat)
          case atStart => exact ⟨0, Nat.zero_le _, rfl, BR, iL, iB⟩
          case round =>
            clear BR iL iB
            obtain ⟨t, ht, rfl, BR, iL, iB⟩ := hrel
            by_cases hlt : t < L.length
            · obtain ⟨bc, oc, ee, hbc, hcc⟩ := iL (by omega)
              have hck := hcc t hlt
              cases ee
              rw [getD_lt hlt] at hck
              have HIL := hide iL
              have HIB := hide iB
              clear hcc iL iB
              by_cases hsH : s.toList = [104, 97, 114, 109, 111, 110, 105, 99]
              · have HJ := hide (HJ1.out hsH _ (mem_of_at hlt))
                have hsC : ¬ s.toList = [99, 111, 118, 101, 114] := by rw [hsH]; decide
                go_wp2_with (go_at_call 37; refine (implIsJust_any somS _ _ _ _ _ _ _ HIB.out hn).mono ?_; rintro e w7 ⟨rfl, hb7⟩; rw [HJ.out])
                go_roundw
                case rel => exact ⟨t + 1, by omega, by go_num, bnext BR hb7, HIL.out.below hb7, HIB.out.below hb7⟩
                case measure => simp only [intOf]; omega
              · by_cases hsC : s.toList = [99, 111, 118, 101, 114]
                · have HJ := hide (HJ2.out hsC _ (mem_of_at hlt))
                  go_wp2_with (go_at_call 37; refine (implIsJust_any oneS _ _ _ _ _ _ _ HIB.out hn).mono ?_; rintro e w7 ⟨rfl, hb7⟩; rw [HJ.out])
                  go_roundw
                  case rel => exact ⟨t + 1, by omega, by go_num, bnext BR hb7, HIL.out.below hb7, HIB.out.below hb7⟩
                  case measure => simp only [intOf]; omega
                · go_wp2
                  go_roundw
                  case rel => exact ⟨t + 1, by omega, by go_num, BR, HIL.out, HIB.out⟩
                  case measure => simp only [intOf]; omega
            · obtain rfl : t = L.length := by omega
              go_wp2_with fail
              refine (ascends_yes _ _ _ _ iL (by omega) hUPS.out).mono ?_
              rintro e w8 ⟨rfl, hb8⟩
              go_wp2
              go_ret
              exact ⟨rfl, bnext BR hb8⟩
end Go.Proofs.Ytgkaghappogglaa
