/- The text of a space, of the model. -/
import Derived.Test.YtcnoipghepjodaaDoorShelf
import Derived.Test.YtcnoipghepjodaaDoorValid
namespace Go.Proofs.YtcnoipghepjodaaDoor
open Go.RowKit Go.Joins

/-- a number in decimal -/
def numS (n : Nat) : ByteArray := ⟨(Lib.decDigits n).toArray⟩
theorem digit_at : ∀ n : Fin 10, (({ data := #[48, 49, 50, 51, 52, 53, 54, 55, 56, 57] } : ByteArray).extract n.val (n.val + 1)) = numS n.val := by decide +kernel
theorem numS_two : ∀ n : Fin 100, 10 ≤ n.val → numS (n.val / 10) ++ numS (n.val % 10) = numS n.val := by decide +kernel
theorem numS_size : ∀ n : Fin 100, (numS n.val).size ≤ 2 := by decide +kernel
theorem numS_le {x : Int} (h : 0 ≤ x ∧ x < 100) : (numS x.toNat).size ≤ 2 := numS_size ⟨x.toNat, by omega⟩
theorem fits_str {a b : ByteArray} {m : Nat} (ha : a.size ≤ m) (hb : b.size ≤ m) (hm : m ≤ 100000) : ¬ 9223372036854775807 < a.size + b.size := by omega
theorem number_one (n : Nat) (w : World) (h : n < 10) : Calls Tryd.prog 25 #[.int .i64 n] w fun e w' => e = .returned (.string (numS n)) ∧ w = w' := by
  have e := digit_at ⟨n, h⟩
  simp only at e
  go_enter Tryd.func25, Tryd.ntmps25
  go_wp2
  go_ret
  exact ⟨rfl, rfl⟩
set_option maxRecDepth 100000 in
theorem number_any (n : Nat) (w : World) (h : n < 100) : Calls Tryd.prog 25 #[.int .i64 n] w fun e w' => e = .returned (.string (numS n)) ∧ w = w' := by
  by_cases h10 : n < 10
  · exact number_one n w h10
  · have e := numS_two ⟨n, h⟩ (by simp only; omega)
    simp only at e
    have h1 : Int.tdiv (n : Int) 10 = ((n / 10 : Nat) : Int) := by rw [Int.tdiv_eq_ediv_of_nonneg (by omega)]; omega
    have h2 : Int.tmod (n : Int) 10 = ((n % 10 : Nat) : Int) := by rw [Int.tmod_eq_emod_of_nonneg (by omega)]; omega
    obtain ⟨q, hq⟩ : ∃ q, n / 10 = q := ⟨_, rfl⟩
    obtain ⟨r, hr⟩ : ∃ r, n % 10 = r := ⟨_, rfl⟩
    rw [hq] at h1 e
    rw [hr] at h2 e
    have HE := hide e
    have hq10 : q < 10 := by omega
    have hr10 : r < 10 := by omega
    have hn : ¬ ((n : Int) < 10) := by omega
    have hsz := fits_str (m := 2) (numS_size ⟨q, by omega⟩) (numS_size ⟨r, by omega⟩) (by decide)
    simp only at hsz
    clear e hq hr
    go_enter Tryd.func25, Tryd.ntmps25
    go_wp2_with (go_at_call 25; refine (number_one _ _ (by first | exact hq10 | exact hr10)).mono ?_; rintro e w' ⟨rfl, rfl⟩)
    rw [HE.out]
    go_ret
    exact ⟨rfl, rfl⟩
/-- the text of the first k numbers -/
def lstS (zs : List Int) : Nat → ByteArray
  | 0 => ⟨#[]⟩
  | k + 1 => (if k = 0 then lstS zs k else lstS zs k ++ ⟨#[44]⟩) ++ numS (zs.getD k 0).toNat
theorem lstS_one (zs : List Int) : lstS zs 1 = ⟨#[]⟩ ++ numS (zs.getD 0 0).toNat := rfl
theorem lstS_more (zs : List Int) {k : Nat} (h : k ≠ 0) : lstS zs (k + 1) = lstS zs k ++ ⟨#[44]⟩ ++ numS (zs.getD k 0).toNat := by rw [lstS, if_neg h]
theorem lstS_size {zs : List Int} (hb : ∀ x ∈ zs, 0 ≤ x ∧ x < 100) : ∀ k, k ≤ zs.length → (lstS zs k).size ≤ 3 * k
  | 0, _ => Nat.le_refl _
  | k + 1, h => by
    have h1 := lstS_size hb k (by omega)
    have h2 := numS_le (hb _ (List.getElem_mem (show k < zs.length by omega)))
    rw [← getD_lt (show k < zs.length by omega)] at h2
    by_cases h0 : k = 0
    · subst h0
      rw [lstS_one, ByteArray.size_append]
      show 0 + _ ≤ _
      omega
    · rw [lstS_more zs h0, ByteArray.size_append, ByteArray.size_append]
      show _ + 1 + _ ≤ _
      omega
theorem number_was (x : Int) (S : ByteArray) (w : World) (h : 0 ≤ x ∧ x < 100) (hS : numS x.toNat = S) : Calls Tryd.prog 25 #[.int .i64 x] w fun e w' => e = .returned (.string S) ∧ w = w' := by
  obtain ⟨n, rfl⟩ := Int.eq_ofNat_of_zero_le h.1
  subst hS
  exact number_any n w (by omega)
theorem listText_any (a : Option Addr) (cap : Nat) (zs : List Int) (w : World) (hi : Ints w a zs) (hb : ∀ x ∈ zs, 0 ≤ x ∧ x < 100) (hn : zs.length ≤ 32) :
    Calls Tryd.prog 26 #[.slice a zs.length cap] w fun e w' => e = .returned (.string (lstS zs zs.length)) ∧ w = w' := by
  go_enter Tryd.func26, Tryd.ntmps26
  go_wp2_with fail
  go_loop [3, 4] (fun s i => ∃ k : Nat, k ≤ zs.length ∧ i = .int .i64 k ∧ s = .string (lstS zs k)) (fun _ i => zs.length - (intOf i).toNat)
  case atStart => exact ⟨0, Nat.zero_le _, rfl, rfl⟩
  case round =>
    obtain ⟨k, hk, rfl, rfl⟩ := hrel
    by_cases hlt : k < zs.length
    · obtain ⟨b, off, rfl, hbl, hc⟩ := hi (by omega)
      have hck := hc k hlt
      obtain ⟨x, hx⟩ : ∃ x, x = zs.getD k 0 := ⟨_, rfl⟩
      have hx2 : 0 ≤ x ∧ x < 100 := by rw [hx, getD_lt hlt]; exact hb _ (List.getElem_mem hlt)
      rw [← hx] at hck
      have hSs := numS_le hx2
      have hTs := lstS_size hb k hk
      obtain ⟨S, hS⟩ : ∃ S, numS x.toNat = S := ⟨_, rfl⟩
      rw [hS] at hSs
      have HS := hide hS
      obtain ⟨T, hT⟩ : ∃ T, T = lstS zs k := ⟨_, rfl⟩
      rw [← hT] at hTs
      rw [← hT]
      have f1 := fits_str (m := 1000) (a := T) (b := S) (by omega) (by omega) (by decide)
      have f2 := fits_str (m := 1000) (a := T) (b := ⟨#[44]⟩) (by omega) (by decide) (by decide)
      have f3 := fits_str (m := 1000) (a := T ++ ⟨#[44]⟩) (b := S) (by rw [ByteArray.size_append]; show _ + 1 ≤ _; omega) (by omega) (by decide)
      by_cases h0 : k = 0
      · subst h0
        have HL : Hid (lstS zs 1 = T ++ S) := by unfold Hid; rw [lstS_one, ← hx, hS, hT]; rfl
        rw [Nat.add_zero] at hck
        clear hc hb hS hT hx
        go_wp2_with (go_at_call 25; refine (number_was _ _ _ hx2 HS.out).mono ?_; rintro e w' ⟨rfl, rfl⟩)
        go_round
        case rel => exact ⟨1, by omega, by go_num, by rw [HL.out]⟩
        case measure => simp only [intOf]; omega
      · have HL : Hid (lstS zs (k + 1) = T ++ ⟨#[44]⟩ ++ S) := by unfold Hid; rw [lstS_more zs h0, ← hx, hS, hT]
        have hk0 : (0 : Int) < (k : Int) := by omega
        have hk1 : 0 < k := by omega
        clear hc hb hS hT hx
        go_wp2_with (go_at_call 25; refine (number_was _ _ _ hx2 HS.out).mono ?_; rintro e w' ⟨rfl, rfl⟩)
        go_round
        case rel => exact ⟨k + 1, by omega, by go_num, by rw [HL.out]⟩
        case measure => simp only [intOf]; omega
    · obtain rfl : k = zs.length := by omega
      go_wp2
      go_ret
      exact ⟨rfl, rfl⟩
theorem valid_len {n : Int} {zs : List Int} (h : Valid n zs) : zs.length ≤ 16 := by
  have hr := valid_range h
  have key : ∀ k, k < zs.length → (k : Int) ≤ zs.getD k 0 := by
    intro k
    induction k with
    | zero => intro hk; exact (h.2.2 0 hk).1.1
    | succ k ih => intro hk; have h1 := ih (by omega); have h2 := (h.2.2 (k + 1) hk).2 (by omega); simp only [Nat.add_sub_cancel] at h2; omega
  rcases Nat.lt_or_ge 16 zs.length with hl | hl
  · have h1 := key 16 hl
    have h2 := hr _ (List.getElem_mem hl)
    rw [getD_lt hl] at h1
    omega
  · exact hl
/-- the text of a space -/
def spcS (n : Int) (zs : List Int) : ByteArray := if vsB n zs = true then numS n.toNat ++ ⟨#[58]⟩ ++ lstS zs zs.length else ⟨#[]⟩
set_option maxHeartbeats 2000000 in
theorem specText_any (n : Int) (a : Option Addr) (cap : Nat) (zs : List Int) (w : World) (hi : Ints w a zs) (hn : zs.length ≤ 1048576) :
    Calls Tryd.prog 9 #[.agg #[.int .i64 n, .slice a zs.length cap]] w fun e w' => e = .returned (.string (spcS n zs)) ∧ Below w.heap.size w w' := by
  by_cases hv : vsB n zs = true
  · have hV := valid_of hv
    have hr := valid_range hV
    have hl := valid_len hV
    have HV := hide hv
    have HS : Hid (spcS n zs = numS n.toNat ++ ⟨#[58]⟩ ++ lstS zs zs.length) := if_pos hv
    have hn4 : 0 ≤ n ∧ n < 100 := by have := hV.1; omega
    obtain ⟨N, hN⟩ : ∃ N, numS n.toNat = N := ⟨_, rfl⟩
    have HN := hide hN
    rw [hN] at HS
    obtain ⟨T, hT⟩ : ∃ T, lstS zs zs.length = T := ⟨_, rfl⟩
    rw [hT] at HS
    have HT := hide hT
    have HR : Hid (∀ x ∈ zs, (0 : Int) ≤ x ∧ x < 100) := fun x hx => ⟨(hr x hx).1, by have := (hr x hx).2; omega⟩
    have bx := Box.new w n a zs.length cap 25
    have ia := hi.below (bel1 w (.cells #[.int .i64 n, .slice a zs.length cap] 25))
    clear hv hV hr hN hT hi
    go_enter Tryd.func9, Tryd.ntmps9
    go_wp2_with fail
    refine (validSpace_any _ _ _ _ _ ia hn).mono ?_
    rintro e w1 ⟨rfl, B1⟩
    rw [HV.out]
    obtain ⟨_, c0, c1⟩ := bx.below B1
    have hNs := numS_le hn4
    rw [HN.out] at hNs
    have hTs := lstS_size HR.out zs.length (Nat.le_refl _)
    rw [HT.out] at hTs
    have f1 := fits_str (m := 1000) (a := N) (b := ⟨#[58]⟩) (by omega) (by decide) (by decide)
    have f2 := fits_str (m := 1000) (a := N ++ ⟨#[58]⟩) (b := T) (by rw [ByteArray.size_append]; show _ + 1 ≤ _; omega) (by omega) (by decide)
    have iw := ia.below (bdrew' B1)
    go_wp2
    go_region_with (first
      | (go_at_call 25; refine (number_was _ N _ hn4 HN.out).mono ?_; rintro e w' ⟨rfl, rfl⟩)
      | (go_at_call 26; refine (listText_any _ _ _ _ iw HR.out (by omega)).mono ?_; rintro e w' ⟨rfl, rfl⟩; rw [HT.out]))
    all_goals
      go_wp2
      go_ret
      rw [HS.out]
      exact ⟨rfl, bdrew' ((bel1 w _).trans (B1.mono (by simp)))⟩
  · have hv : vsB n zs = false := by simpa using hv
    have HV := hide hv
    have HS : Hid (spcS n zs = ⟨#[]⟩) := if_neg (by rw [hv]; decide)
    clear hv
    go_enter Tryd.func9, Tryd.ntmps9
    go_wp2_with fail
    refine (validSpace_any _ _ _ _ _ (hi.below (bel1 w _)) hn).mono ?_
    rintro e w1 ⟨rfl, B1⟩
    rw [HV.out]
    go_wp2
    go_ret
    rw [HS.out]
    exact ⟨rfl, (bel1 w _).trans (B1.mono (by simp))⟩
end Go.Proofs.YtcnoipghepjodaaDoor
