/- The promise of WrongedBy: its law's walk. -/
import Derived.Test.YtgkaghappogglaaPJust
import Derived.Test.YtgkaghappogglaaGrp
namespace Go.Proofs.Ytgkaghappogglaa
open Go.RowKit Go.Joins

theorem scan_some {p : Nat → Nat → Bool} {M : Nat} : ∀ f l0 {l g : Nat}, scan p M f l0 = some (l, g) → l0 ≤ l ∧ l < l0 + f ∧ g < M ∧ p l g = true
  | 0, _, _, _, h => by cases h
  | f + 1, l0, l, g, h => by
    unfold scan at h
    cases hf : (List.range M).find? (p l0) with
    | none =>
      rw [hf] at h
      obtain ⟨h1, h2, h3, h4⟩ := scan_some f (l0 + 1) h
      exact ⟨by omega, by omega, h3, h4⟩
    | some x =>
      rw [hf] at h
      have h1 := List.find?_some hf
      have h2 := List.mem_of_find?_eq_some hf
      cases h
      exact ⟨Nat.le_refl _, by omega, by simpa using h2, h1⟩
theorem memK_at {bs : List Int} {g j : Nat} (hj : bitN g j = 1) : ∀ k, j < k → bs.getD j 0 ∈ memK bs g k
  | 0, h => by omega
  | k + 1, h => by
    rcases Nat.lt_or_ge j k with h1 | h1
    · have ih := memK_at (bs := bs) hj k h1
      by_cases hb : bitN g k = 1
      · rw [memK_yes hb, List.mem_append]; exact Or.inl ih
      · rw [memK_no hb]; exact ih
    · obtain rfl : k = j := by omega
      rw [memK_yes hj, List.mem_append]; exact Or.inr (by simp)
/-- what the group that is found is -/
theorem wro_facts {s : ByteArray} {c : Int} {bs : List Int} {k x : Int} (h : wroG s c bs k x ≠ 0) :
    ∃ m K l g : Nat, c = (m : Int) ∧ k = (K : Int) ∧ BalOk c bs ∧ m ≤ 5 ∧ K ≤ 5 ∧ 1 ≤ l ∧ l ≤ K ∧ g < 2 ^ bs.length ∧ 0 < g ∧ wroG s c bs k x = (g : Int) ∧ wroL s c bs k x = (l : Int) ∧ l * bs.length ≤ (memL bs g).length * K ∧ l ≤ pc (andL (memL bs g) (2 ^ m - 1)) ∧ (∀ b ∈ memL bs g, pc (b.toNat &&& x.toNat) < l) ∧ justB s c bs k x = false ∧ 0 ≤ x ∧ x ≤ 31 := by
  by_cases hc : claimN s = 0
  · exact absurd (wroG_none (wroA_claim hc)).1 h
  cases hs : seatedB c bs k x with
  | false => exact absurd (wroG_none (wroA_seat (s := s) hs)).1 h
  | true =>
    have hj : justB s c bs k x = false := by rw [just_eq hc hs]; simpa using h
    have hx := seated_lt hs
    obtain ⟨hS, hxr, _⟩ := seated_of hs
    obtain ⟨hok, hk1, hkc⟩ := seats_of hS
    obtain ⟨m, rfl⟩ := Int.eq_ofNat_of_zero_le (show 0 ≤ c from by omega)
    obtain ⟨K, rfl⟩ := Int.eq_ofNat_of_zero_le (show 0 ≤ k from by omega)
    have hm5 : m ≤ 5 := by have := hok.1; omega
    have hA := wroA_yes (s := s) hc hs
    cases hsc : wroA s (m : Int) bs (K : Int) x with
    | none => exact absurd (wroG_none hsc).1 h
    | some lg =>
      obtain ⟨l, g⟩ := lg
      rw [hsc] at hA
      obtain ⟨h1, h2, h3, h4⟩ := scan_some _ _ hA.symm
      rw [Int.toNat_natCast] at h2
      rw [Int.toNat_natCast, Int.toNat_natCast] at h4
      unfold badB at h4
      rw [Bool.and_eq_true, due_iff] at h4
      obtain ⟨⟨h5, h6⟩, h7⟩ := h4
      have h8 : wrongB 3 (memL bs g) l x.toNat = true := by
        rcases claim_cases s with ⟨hq, _⟩ | ⟨hq, _⟩ | ⟨hq, _⟩ | ⟨hq, _⟩
        · rw [hq] at h7; exact two_three hx (one_two hx h7)
        · rw [hq] at h7; exact two_three hx h7
        · rw [hq] at h7; exact h7
        · exact absurd hq hc
      have hG : wroG s (m : Int) bs (K : Int) x = (g : Int) := by unfold wroG; rw [hsc]; rfl
      have hL : wroL s (m : Int) bs (K : Int) x = (l : Int) := by unfold wroL; rw [hsc]; rfl
      exact ⟨m, K, l, g, rfl, rfl, hok, hm5, by omega, h1, by omega, h3, by rw [hG] at h; omega, hG, hL, h5, h6, (wrong3_iff h1).1 h8, hj, hxr.1, by omega⟩
set_option maxHeartbeats 1000000 in
set_option maxRecDepth 100000 in
theorem walk_FnWrongedBy (a : Option Addr) (zs : List Nat) (cap : Nat) (w : World) (hi : Byts w a zs) (hl : zs.length ≤ maxLen) (hc : zs.length ≤ cap) :
    Calls Try.prog 9 #[.slice a zs.length cap] w fun e w' => e = .returned (.bool true) ∧ Below w.heap.size w w' := by
  by_cases h : 1048576 < zs.length
  · unfold maxLen at hl
    go_enter Try.func9, Try.ntmps9
    go_wp2
    go_ret
    exact ⟨rfl, Below.refl _ _⟩
  · have hl' : zs.length ≤ 1048576 := by omega
    clear h hl
    go_enter Try.func9, Try.ntmps9
    go_wp2_with fail
    refine (drawW_any _ _ _ _ hi hl' hc).mono ?_
    rintro e w1 ⟨s, c, ab, bs, cb, k, x, rfl, hc6, ib, hb6, hx, hb1⟩
    have hn : bs.length ≤ 1048576 := by omega
    clear hi
    go_wp2_with fail
    refine (implWrongedBy_any _ _ _ _ _ _ _ _ ib hn).mono ?_
    rintro e w2 ⟨rfl, hb2⟩
    have ib2 := ib.below hb2
    have B2 := bnext hb1 hb2
    clear ib hb1 hb2
    go_wp2_with fail
    refine (specWrongedBy_any _ _ _ _ _ _ _ _ ib2 hn).mono ?_
    rintro e w3 ⟨rfl, hb3⟩
    have ib3 := ib2.below hb3
    have B3 := bnext B2 hb3
    clear ib2 B2 hb3
    by_cases hv : wroG s c bs k x = 0
    · obtain ⟨G, hG⟩ : ∃ G, G = wroG s c bs k x := ⟨_, rfl⟩
      obtain ⟨L, hL⟩ : ∃ L, L = wroL s c bs k x := ⟨_, rfl⟩
      rw [← hG] at hv ⊢
      rw [← hL]
      subst hv
      clear hG hL
      go_wp2
      go_ret
      exact ⟨rfl, B3⟩
    · obtain ⟨m, K, l, g, rfl, rfl, hok, hm5, hK5, hl1, hlK, hg, hg0, hG, hL, hd1, hd2, hw, hj, hx0, hx31⟩ := wro_facts hv
      rw [hG, hL]
      clear hv hG hL
      obtain ⟨y, rfl⟩ := Int.eq_ofNat_of_zero_le hx0
      have hmem := bal_mem hok
      rw [pw_nat] at hmem
      have h32 : 2 ^ m ≤ 32 := pow_le5 (m : Int) (by omega)
      have p1 : 0 < 2 ^ m := Nat.two_pow_pos m
      have hg64 : g < 64 := by have := pow_le6 bs.length hb6; omega
      rw [memL_len hb6 hg] at hd1
      rw [Int.toNat_natCast] at hw
      have HD1 := hide hd1
      have HD2 := hide hd2
      have HW := hide hw
      have HM := hide hmem
      have HJ := hide hj
      have hpw : pw (m : Int) = ((2 ^ m : Nat) : Int) := pw_nat m
      obtain ⟨M, hM⟩ : ∃ M, M = 2 ^ m := ⟨_, rfl⟩
      rw [← hM] at h32 p1 hpw
      have hMe : (M : Int) - 1 = ((M - 1 : Nat) : Int) := by omega
      have HMM := hide hM
      clear hd1 hd2 hw hmem hj hok hx0 hM
      go_wp2_with (go_at_call 23; refine (lawPower_any _ _ (by omega) (by omega)).mono ?_; rintro e w' ⟨rfl, rfl⟩; rw [hpw])
      go_loop [12, 13] (fun b i => ∃ j : Nat, j ≤ bs.length ∧ i = .int .i64 j ∧ b = .int .i64 ((andL (memK bs g j) (M - 1) : Nat) : Int)) (fun _ i => bs.length - (intOf i).toNat)
      case atStart => exact ⟨0, Nat.zero_le _, rfl, by first | rfl | (rw [hMe]; rfl)⟩
      case round =>
        obtain ⟨j, hj, rfl, rfl⟩ := hrel
        have hal := andL_le (memK bs g j) (M - 1)
        by_cases hlt : j < bs.length
        · obtain ⟨b, off, rfl, hbl, hcc⟩ := ib3 (by omega)
          have hck := hcc j hlt
          have hz := HM.out _ (mem_of_at hlt)
          rw [← HMM.out] at hz
          rw [getD_lt hlt] at hck
          by_cases hbit : bitN g j = 1
          · have hin := HW.out _ (memK_at (bs := bs) hbit bs.length hlt)
            have HS : Hid (andL (memK bs g (j + 1)) (M - 1) = andL (memK bs g j) (M - 1) &&& (bs[j]).toNat) := by
              unfold Hid; rw [memK_yes hbit, andL_snoc, getD_lt hlt]
            rw [getD_lt hlt] at hin
            obtain ⟨z, hzz⟩ := Int.eq_ofNat_of_zero_le hz.1
            rw [hzz] at hck hz hin HS
            rw [Int.toNat_natCast] at hin HS
            obtain ⟨u, hu⟩ : ∃ u, u = andL (memK bs g j) (M - 1) := ⟨_, rfl⟩
            rw [← hu] at hal HS ⊢
            have hz31 : z ≤ 31 := by omega
            have ha1 := and_big u z (by omega) (by omega)
            have ha2 := and_big z y (by omega) (by omega)
            have hzy : z &&& y < 32 := Nat.and_lt_two_pow (n := 5) _ (by omega)
            clear hcc hu hzz hz
            go_wp2_with (first
              | (go_at_call 45; refine (lawBit_any g j _ hg64 (by omega)).mono ?_; rintro e w' ⟨rfl, rfl⟩; rw [hbit])
              | (go_at_call 22; (with_reducible refine (lawWeight_any (z &&& y) _ (by omega)).mono ?_); rintro e w' ⟨rfl, rfl⟩))
            go_round
            case rel => exact ⟨j + 1, by omega, by go_num, by first | (rw [HS.out]; done) | (rw [HS.out, ha1])⟩
            case measure => simp only [intOf]; omega
          · have hb0 : bitN g j = 0 := by have := bitN_le g j; omega
            have HS : Hid (andL (memK bs g (j + 1)) (M - 1) = andL (memK bs g j) (M - 1)) := by
              unfold Hid; rw [memK_no hbit]
            clear hcc hck hz
            go_wp2_with (go_at_call 45; refine (lawBit_any g j _ hg64 (by omega)).mono ?_; rintro e w' ⟨rfl, rfl⟩; rw [hb0])
            go_round
            case rel => exact ⟨j + 1, by omega, by go_num, by rw [HS.out]⟩
            case measure => simp only [intOf]; omega
        · obtain rfl : j = bs.length := by omega
          have hd2 := HD2.out
          rw [← HMM.out] at hd2
          have hml : memK bs g bs.length = memL bs g := rfl
          rw [hml] at hal ⊢
          obtain ⟨u, hu⟩ : ∃ u, u = andL (memL bs g) (M - 1) := ⟨_, rfl⟩
          rw [← hu] at hal hd2 ⊢
          obtain ⟨A1, hA1⟩ : ∃ A, A = pc g * K := ⟨_, rfl⟩
          obtain ⟨A2, hA2⟩ : ∃ A, A = l * bs.length := ⟨_, rfl⟩
          have hpg := pc_le g
          have hb1 : A1 ≤ 36 := by rw [hA1]; exact mul30 hpg (by omega)
          have hb2 : A2 ≤ 36 := by rw [hA2]; exact mul30 (by omega) hb6
          have he1 : (pc g : Int) * (K : Int) = (A1 : Int) := by rw [hA1, Int.natCast_mul]
          have he2 : (l : Int) * (bs.length : Int) = (A2 : Int) := by rw [hA2, Int.natCast_mul]
          have hle : A2 ≤ A1 := by rw [hA1, hA2]; exact HD1.out
          have hu64 : u < 64 := by omega
          clear hA1 hA2 hu hml
          go_wp2_with (first
            | (go_at_call 22; (with_reducible refine (lawWeight_any g _ hg64).mono ?_); rintro e w' ⟨rfl, rfl⟩; try rw [he1])
            | (go_at_call 22; (with_reducible refine (lawWeight_any u _ hu64).mono ?_); rintro e w' ⟨rfl, rfl⟩))
          refine (implIsJust_any _ _ _ _ _ _ _ _ ib3 hn).mono ?_
          rintro e w5 ⟨rfl, hb5⟩
          rw [HJ.out]
          go_wp2
          go_ret
          exact ⟨rfl, bnext B3 hb5⟩
end Go.Proofs.Ytgkaghappogglaa
