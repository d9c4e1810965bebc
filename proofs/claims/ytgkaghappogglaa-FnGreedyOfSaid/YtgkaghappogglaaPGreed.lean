/- The promise of GreedyOf: greedy committees leave no great group without a name. -/
import Derived.Test.YtgkaghappogglaaDrawB4
import Derived.Test.YtgkaghappogglaaGreedP
import Derived.Test.YtgkaghappogglaaGreed
import Derived.Test.YtgkaghappogglaaPBest
namespace Go.Proofs.Ytgkaghappogglaa
open Go.RowKit Go.Joins

theorem greed_facts {s : ByteArray} {c : Int} {bs : List Int} {k : Int} (h : (greedA s c bs k).length ≠ 0) : ∃ m K q : Nat, c = (m : Int) ∧ k = (K : Int) ∧ m ≤ 5 ∧ 1 ≤ K ∧ K ≤ m ∧ kindN s = q ∧ q < 4 ∧ seatsB c bs k = true ∧ greedA s c bs k = gl q bs m K := by
  unfold greedA at h
  split at h
  · rename_i hc
    obtain ⟨hS, hk⟩ := hc
    obtain ⟨hok, hk1, hkc⟩ := seats_of hS
    obtain ⟨m, rfl⟩ := Int.eq_ofNat_of_zero_le (show 0 ≤ c from by omega)
    obtain ⟨K, rfl⟩ := Int.eq_ofNat_of_zero_le (show 0 ≤ k from by omega)
    refine ⟨m, K, kindN s, rfl, rfl, by have := hok.1; omega, by omega, by omega, rfl, hk, hS, ?_⟩
    rw [greedA_yes hS hk, Int.toNat_natCast, Int.toNat_natCast]
  · simp at h
theorem kind_appr_of {s : ByteArray} (h : s.toList = [97, 112, 112, 114, 111, 118, 97, 108]) : kindN s = 0 := by
  unfold kindN
  rw [if_pos (by rw [h]; decide)]
set_option maxHeartbeats 2000000 in
set_option maxRecDepth 100000 in
theorem walk_FnGreedyOf (a : Option Addr) (zs : List Nat) (cap : Nat) (w : World) (hi : Byts w a zs) (hl : zs.length ≤ maxLen) (hc : zs.length ≤ cap) :
    Calls Try.prog 8 #[.slice a zs.length cap] w fun e w' => e = .returned (.bool true) ∧ Below w.heap.size w w' := by
  by_cases h : 1048576 < zs.length
  · unfold maxLen at hl
    go_enter Try.func8, Try.ntmps8
    go_wp2
    go_ret
    exact ⟨rfl, Below.refl _ _⟩
  · have hl' : zs.length ≤ 1048576 := by omega
    clear h hl
    go_enter Try.func8, Try.ntmps8
    go_wp2_with fail
    refine (drawGr_any _ _ _ _ hi hl' hc).mono ?_
    rintro e w1 ⟨s, c, ab, bs, cb, k, rfl, hc6, ib, hb6, hk32, hb1⟩
    have hn : bs.length ≤ 1048576 := by omega
    have hlen := greedA_len s c bs k
    clear hi
    go_wp2_with fail
    refine (implGreed_any _ _ _ _ _ _ _ ib hn).mono ?_
    rintro e w2 ⟨v2, rfl, own2, hb2⟩
    obtain ⟨a2, c2, rfl, i2, _⟩ := own2.form
    have ib2 := ib.below hb2
    have B2 := bnext hb1 hb2
    clear ib hb1 hb2 own2
    go_wp2_with fail
    refine (specGreed_any _ _ _ _ _ _ _ ib2 hn).mono ?_
    rintro e w3 ⟨v3, rfl, own3, hb3⟩
    obtain ⟨a3, c3, rfl, i3, _⟩ := own3.form
    have ib3 := ib2.below hb3
    have B3 := bnext B2 hb3
    have j3 := i2.below hb3
    clear ib2 B2 hb3 own3 i2
    go_wp2_with fail
    refine (equalInts_yes _ _ _ _ _ _ j3 i3 (by omega)).mono ?_
    rintro e w4 ⟨rfl, hb4⟩
    have ib4 := ib3.below hb4
    have B4 := bnext B3 hb4
    have i4 := j3.below hb4
    clear ib3 B3 hb4 j3 i3
    by_cases hz : (greedA s c bs k).length = 0
    · have hzz : (((greedA s c bs k).length : Int) == 0) = true := by rw [hz]; rfl
      clear hz
      go_wp2_with fail
      refine (specGreed_any _ _ _ _ _ _ _ ib4 hn).mono ?_
      rintro e w5 ⟨v5, rfl, own5, hb5⟩
      obtain ⟨a5, c5, rfl, i5, _⟩ := own5.form
      go_wp2_with fail
      refine (equalInts_yes _ _ _ _ _ _ (i4.below hb5) i5 (by omega)).mono ?_
      rintro e w6 ⟨rfl, hb6'⟩
      go_wp2
      go_ret
      exact ⟨rfl, bnext (bnext B4 hb5) hb6'⟩
    · obtain ⟨m, K, q, rfl, rfl, hm5, hK1, hKm, hkq, hq4, hS, hA⟩ := greed_facts (s := s) (c := c) (bs := bs) (k := k) hz
      have h32 : 2 ^ m ≤ 32 := pow_le5 (m : Int) (by omega)
      have hmask := maskV_gl q bs hm5 hKm
      have hgl := gl_length q bs m K
      obtain ⟨hw, hp⟩ := gw_inv q bs m hm5 K (by omega)
      have HJ : Hid (s.toList = [104, 97, 114, 109, 111, 110, 105, 99] ∨ s.toList = [99, 111, 118, 101, 114] → justB oneS (m : Int) bs (K : Int) (gw q bs m K : Int) = true) := fun e => by
        refine greedy_just ?_ hS claim_one
        rcases e with e | e
        · rw [← hkq, kind_harm_of e]; omega
        · rw [← hkq, kind_cover_of e]; omega
      have HB : Hid (s.toList = [97, 112, 112, 114, 111, 118, 97, 108] → (gw q bs m K : Int) ∈ bestA s (m : Int) bs (K : Int)) := fun e => by
        have hq0 : q = 0 := by rw [← hkq, kind_appr_of e]
        rw [bestA_yes hS (by omega), Int.toNat_natCast, hkq, hq0]
        exact greedy_best hS
      have hbl := bestA_len s (m : Int) bs (K : Int)
      rw [hA] at i4 hlen hz ⊢
      have hg1 : (((gl q bs m K).length : Int) == 0) = false := by rw [hgl, beq_eq_false_iff_ne]; omega
      obtain ⟨L, hL⟩ : ∃ L, L = gl q bs m K := ⟨_, rfl⟩
      rw [← hL] at i4 hlen hz hmask hgl hg1 ⊢
      obtain ⟨W, hW⟩ : ∃ W, W = gw q bs m K := ⟨_, rfl⟩
      rw [← hW] at hmask hw hp HJ HB
      have hg2 : ((L.length : Int) != (K : Int)) = false := by rw [hgl]; simp
      have hW64 : W < 64 := by omega
      have HMK := hide hmask
      have HPC := hide hp
      have hLn : L.length ≤ 1048576 := by omega
      clear hmask hp hL hW hA hS hkq hgl hz hw
      go_wp2_with fail
      refine (implMask_any _ _ _ _ i4 hLn).mono ?_
      rintro e w5 ⟨rfl, hb5⟩
      rw [HMK.out]
      have ib5 := ib4.below hb5
      have B5 := bnext B4 hb5
      clear ib4 B4 hb5 i4
      by_cases hsH : s.toList = [104, 97, 114, 109, 111, 110, 105, 99]
      · have hsA : ¬ s.toList = [97, 112, 112, 114, 111, 118, 97, 108] := by rw [hsH]; decide
        have hJ := hide (HJ.out (.inl hsH))
        go_wp2_with (first
            | (go_at_call 22; refine (lawWeight_any W _ hW64).mono ?_; rintro e w' ⟨rfl, rfl⟩; rw [HPC.out])
            | (go_at_call 37; refine (implIsJust_any oneS _ _ _ _ _ _ _ ib5 hn).mono ?_; rintro e w7 ⟨rfl, hb7⟩; rw [hJ.out]))
        go_ret
        exact ⟨rfl, bnext B5 hb7⟩
      · by_cases hsC : s.toList = [99, 111, 118, 101, 114]
        · have hsA : ¬ s.toList = [97, 112, 112, 114, 111, 118, 97, 108] := by rw [hsC]; decide
          have hJ := hide (HJ.out (.inr hsC))
          go_wp2_with (first
            | (go_at_call 22; refine (lawWeight_any W _ hW64).mono ?_; rintro e w' ⟨rfl, rfl⟩; rw [HPC.out])
            | (go_at_call 37; refine (implIsJust_any oneS _ _ _ _ _ _ _ ib5 hn).mono ?_; rintro e w7 ⟨rfl, hb7⟩; rw [hJ.out]))
          go_ret
          exact ⟨rfl, bnext B5 hb7⟩
        · by_cases hsA : s.toList = [97, 112, 112, 114, 111, 118, 97, 108]
          · have hH := hide (hasB_true (HB.out hsA))
            go_wp2_with (go_at_call 22; refine (lawWeight_any W _ hW64).mono ?_; rintro e w' ⟨rfl, rfl⟩; rw [HPC.out])
            refine (implBest_any _ _ _ _ _ _ _ ib5 hn).mono ?_
            rintro e w7 ⟨v7, rfl, own7, hb7⟩
            obtain ⟨a7, c7, rfl, i7, _⟩ := own7.form
            go_wp2_with (go_at_call 36; refine (isIn_any _ _ _ _ _ i7 (by omega)).mono ?_; rintro e w' ⟨rfl, rfl⟩; rw [hH.out])
            go_ret
            exact ⟨rfl, bnext B5 hb7⟩
          · go_wp2_with (go_at_call 22; refine (lawWeight_any W _ hW64).mono ?_; rintro e w' ⟨rfl, rfl⟩; rw [HPC.out])
            go_ret
            exact ⟨rfl, B5⟩
end Go.Proofs.Ytgkaghappogglaa
