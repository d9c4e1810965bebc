/- The promise of CommitteeOf: its law's walk. -/
import Derived.Test.YtgkaghappogglaaDrawB2
import Derived.Test.YtgkaghappogglaaMask
namespace Go.Proofs.Ytgkaghappogglaa
open Go.RowKit Go.Joins

theorem bit_test (m x : Nat) : bitN m x = 1 ↔ m.testBit x = true := by
  rw [Nat.testBit_eq_decide_div_mod_eq, decide_eq_true_eq]
  exact Iff.rfl
theorem mask_bit (zs : List Int) (x : Nat) : ∀ k, k ≤ zs.length → (∀ j, j < k → 0 ≤ zs.getD j 0) → (bitN (maskK zs k) x = 1 ↔ ∃ j, j < k ∧ zs.getD j 0 = (x : Int))
  | 0, _, _ => by
    constructor
    · intro h
      rw [show maskK zs 0 = 0 from rfl] at h
      simp [bitN] at h
    · rintro ⟨j, hj, _⟩; omega
  | k + 1, hk, h0 => by
    have ih := mask_bit zs x k (by omega) (fun j hj => h0 j (by omega))
    have hz := h0 k (by omega)
    rw [bit_test] at ih ⊢
    show (maskK zs k ||| 2 ^ (zs.getD k 0).toNat).testBit x = true ↔ _
    rw [Nat.testBit_or, Bool.or_eq_true, ih, Nat.testBit_two_pow, decide_eq_true_eq]
    constructor
    · rintro (⟨j, hj, e⟩ | e)
      · exact ⟨j, by omega, e⟩
      · exact ⟨k, by omega, by omega⟩
    · rintro ⟨j, hj, e⟩
      rcases Nat.lt_or_ge j k with h | h
      · exact .inl ⟨j, h, e⟩
      · obtain rfl : j = k := by omega
        exact .inr (by omega)
theorem mask_has {zs : List Int} (h : NamesOk zs) (x : Nat) : bitN (maskK zs zs.length) x = (if hasB zs (x : Int) = true then 1 else 0) := by
  have hb := bitN_le (maskK zs zs.length) x
  have hm := mask_bit zs x zs.length (Nat.le_refl _) (fun j hj => (h j hj).1)
  by_cases hx : (x : Int) ∈ zs
  · rw [hasB_true hx, if_pos rfl]
    obtain ⟨j, hj, e⟩ := mem_getD_of hx
    exact hm.2 ⟨j, hj, e⟩
  · rw [hasB_false hx, if_neg (by decide)]
    have : ¬ bitN (maskK zs zs.length) x = 1 := fun hh => by
      obtain ⟨j, hj, e⟩ := hm.1 hh
      rw [getD_lt hj] at e
      exact hx (e ▸ mem_of_at hj)
    omega
theorem maskV_neg {zs : List Int} (h : ¬ maskV zs < 0) : NamesOk zs := by
  unfold maskV at h
  split at h
  · assumption
  · omega
set_option maxHeartbeats 2000000 in
theorem walk_FnCommitteeOf (a : Option Addr) (zs : List Nat) (cap : Nat) (w : World) (hi : Byts w a zs) (hl : zs.length ≤ maxLen) (hc : zs.length ≤ cap) :
    Calls Try.prog 14 #[.slice a zs.length cap] w fun e w' => e = .returned (.bool true) ∧ Below w.heap.size w w' := by
  by_cases h : 1048576 < zs.length
  · unfold maxLen at hl
    go_enter Try.func14, Try.ntmps14
    go_wp2
    go_ret
    exact ⟨rfl, Below.refl _ _⟩
  · have hl' : zs.length ≤ 1048576 := by omega
    clear h hl
    go_enter Try.func14, Try.ntmps14
    go_wp2_with fail
    refine (drawL_any _ _ _ _ hi hl' hc).mono ?_
    rintro e w1 ⟨al, ls, cl, rfl, il, hls, hb1⟩
    have hn : ls.length ≤ 1048576 := by omega
    have hne : (maskV ls != maskV ls) = false := by simp
    have heq : (maskV ls == maskV ls) = true := by simp
    clear hi
    go_wp2_with fail
    refine (implMask_any _ _ _ _ il hn).mono ?_
    rintro e w2 ⟨rfl, hb2⟩
    have i2 := il.below hb2
    go_wp2_with fail
    refine (specMask_any _ _ _ _ i2 hn).mono ?_
    rintro e w3 ⟨rfl, hb3⟩
    have i3 := i2.below hb3
    have B3 := bnext (bnext hb1 hb2) hb3
    by_cases hneg : maskV ls < 0
    · go_wp2_with fail
      refine (specMask_any _ _ _ _ i3 hn).mono ?_
      rintro e w4 ⟨rfl, hb4⟩
      go_wp2
      go_ret
      exact ⟨rfl, bnext B3 hb4⟩
    · have hok := maskV_neg hneg
      have hv := maskV_yes hok
      have HB := hide (mask_has hok)
      have hlt := maskK_lt ls ls.length hok
      obtain ⟨m, hm⟩ : ∃ m, m = maskK ls ls.length := ⟨_, rfl⟩
      rw [← hm] at hv hlt HB
      rw [hv] at hneg hne heq ⊢
      clear hv hm hok
      go_wp2
      go_loop [5] (fun i => ∃ x : Nat, x ≤ 5 ∧ i = .int .i64 x) (fun i => 5 - (intOf i).toNat)
      case atStart => exact ⟨0, by omega, rfl⟩
      case round =>
        obtain ⟨x, hx, rfl⟩ := hrel
        by_cases hx5 : x < 5
        · have hbx := HB.out x
          by_cases hh : hasB ls (x : Int) = true
          · have HH := hide hh
            rw [if_pos hh] at hbx
            have HBX := hide hbx
            clear hh hbx
            go_wp2_with (first
              | (go_at_call 45; refine (lawBit_any m x _ (by omega) (by omega)).mono ?_; rintro e w' ⟨rfl, rfl⟩; rw [HBX.out])
              | (go_at_call 36; refine (isIn_any _ _ _ _ _ i3 hn).mono ?_; rintro e w' ⟨rfl, rfl⟩; rw [HH.out]))
            go_round
            case rel => exact ⟨x + 1, by omega, by go_num⟩
            case measure => simp only [intOf]; omega
          · have hh : hasB ls (x : Int) = false := by simpa using hh
            have HH := hide hh
            rw [hh, if_neg (by decide)] at hbx
            have HBX := hide hbx
            clear hh hbx
            go_wp2_with (first
              | (go_at_call 45; refine (lawBit_any m x _ (by omega) (by omega)).mono ?_; rintro e w' ⟨rfl, rfl⟩; rw [HBX.out])
              | (go_at_call 36; refine (isIn_any _ _ _ _ _ i3 hn).mono ?_; rintro e w' ⟨rfl, rfl⟩; rw [HH.out]))
            go_round
            case rel => exact ⟨x + 1, by omega, by go_num⟩
            case measure => simp only [intOf]; omega
        · have p5 : pw 5 = 32 := rfl
          have HP := hide p5
          clear p5
          go_wp2_with (go_at_call 23; refine (lawPower_any _ _ (by omega) (by omega)).mono ?_; rintro e w' ⟨rfl, rfl⟩; rw [HP.out])
          go_ret
          exact ⟨ret_bool (by simp; omega), B3⟩
end Go.Proofs.Ytgkaghappogglaa
