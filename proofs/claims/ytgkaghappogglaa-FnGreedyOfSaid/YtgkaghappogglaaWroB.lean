/- WrongedBy and IsJust of the model. -/
import Derived.Test.YtgkaghappogglaaWroT
namespace Go.Proofs.Ytgkaghappogglaa
open Go.RowKit Go.Joins

theorem wronged_any (s : ByteArray) (hs : claimN s ≠ 0) (m : Nat) (a : Option Addr) (cap : Nat) (bs : List Int) (k x : Nat) (w : World) (hi : Ints w a bs) (hl6 : bs.length ≤ 6) (hl1 : 1 ≤ bs.length) (hr : ∀ b ∈ bs, 0 ≤ b ∧ b ≤ 31) (hm5 : m ≤ 5) (hk5 : k ≤ 5) (hx : x < 32) :
    Calls Try.prog 90 #[.string s, .int .i64 m, .slice a bs.length cap, .int .i64 k, .int .i64 x] w fun e w' => WroE (scan (badB (claimN s) bs m k x) (2 ^ bs.length) k 1) e ∧ w = w' := by
  rcases claim_cases s with ⟨hq, h0⟩ | ⟨hq, h0, h1⟩ | ⟨hq, h0, h1, h2⟩ | ⟨hq, h0, h1, h2⟩
  · rw [hq]; exact wronged1_any s h0 m a cap bs k x w hi hl6 hl1 hr hm5 hk5 hx
  · rw [hq]; exact wronged2_any s h0 h1 m a cap bs k x w hi hl6 hl1 hr hm5 hk5 hx
  · rw [hq]; exact wronged3_any s h0 h1 h2 m a cap bs k x w hi hl6 hl1 hr hm5 hk5 hx
  · exact absurd hq hs
theorem ret_two2 {x y a b : Int} (h : x = y) (h2 : a = b) : Ending.returned (.tuple #[.int .i64 x, .int .i64 a]) = .returned (.tuple #[.int .i64 y, .int .i64 b]) := by rw [h, h2]
/-- the group that is found and what is due to it -/
def wroG (s : ByteArray) (c : Int) (bs : List Int) (k x : Int) : Int := ((scR (wroA s c bs k x) : Nat) : Int)
def wroL (s : ByteArray) (c : Int) (bs : List Int) (k x : Int) : Int := ((scL (wroA s c bs k x) : Nat) : Int)
theorem scan_pos {p : Nat → Nat → Bool} {M : Nat} (h0 : ∀ l, 1 ≤ l → p l 0 = false) : ∀ f l, 1 ≤ l → (scR (scan p M f l) = 0 ↔ scan p M f l = none)
  | 0, _, _ => by simp [scan, scR]
  | f + 1, l, hl => by
    have ih := scan_pos (M := M) h0 f (l + 1) (by omega)
    unfold scan
    cases hf : (List.range M).find? (p l) with
    | none => exact ih
    | some g =>
      have hg := List.find?_some hf
      simp only [scR, reduceCtorEq, iff_false]
      intro e
      rw [e, h0 l hl] at hg
      cases hg
theorem just_eq {s : ByteArray} {c : Int} {bs : List Int} {k x : Int} (h1 : claimN s ≠ 0) (h2 : seatedB c bs k x = true) : justB s c bs k x = (wroG s c bs k x == 0) := by
  have hS := seats_of (seated_of h2).1
  have hb : 1 ≤ bs.length := by have := hS.1.2.1; omega
  unfold justB wroG
  rw [decide_eq_true h1, h2, wroA_yes h1 h2]
  have hp := scan_pos (M := 2 ^ bs.length) (fun l hl => bad_zero (q := claimN s) (bs := bs) (m := c.toNat) (k := k.toNat) (w := x.toNat) hb hl) k.toNat 1 (Nat.le_refl _)
  cases hsc : scan (badB (claimN s) bs c.toNat k.toNat x.toNat) (2 ^ bs.length) k.toNat 1 with
  | none => rfl
  | some g =>
    rw [hsc] at hp
    have hne : scR (some g) ≠ 0 := fun e => by have := hp.1 e; cases this
    show (true && true && false) = _
    symm
    simp
    omega
theorem just_claim {s : ByteArray} {c : Int} {bs : List Int} {k x : Int} (h1 : claimN s = 0) : justB s c bs k x = false := by unfold justB; rw [decide_eq_false (by omega)]; rfl
theorem just_seat {s : ByteArray} {c : Int} {bs : List Int} {k x : Int} (h2 : seatedB c bs k x = false) : justB s c bs k x = false := by unfold justB; rw [h2]; simp
theorem wroG_none {s : ByteArray} {c : Int} {bs : List Int} {k x : Int} (h : wroA s c bs k x = none) : wroG s c bs k x = 0 ∧ wroL s c bs k x = 0 := by unfold wroG wroL; rw [h]; exact ⟨rfl, rfl⟩

set_option maxHeartbeats 4000000 in
theorem specWrongedBy_any (s : ByteArray) (c : Int) (a : Option Addr) (cap : Nat) (bs : List Int) (k x : Int) (w : World) (hi : Ints w a bs) (hn : bs.length ≤ 1048576) :
    Calls Try.prog 44 #[.string s, .int .i64 c, .slice a bs.length cap, .int .i64 k, .int .i64 x] w fun e w' => e = .returned (.tuple #[.int .i64 (wroG s c bs k x), .int .i64 (wroL s c bs k x)]) ∧ Below w.heap.size w w' := by
  by_cases hs : claimN s = 0
  · have HF := hide (wroG_none (wroA_claim (c := c) (bs := bs) (k := k) (x := x) hs))
    have HS := hide hs
    clear hs
    go_enter Try.func44, Try.ntmps44
    go_wp2_with (go_at_call 88; refine (isClaim_no _ _ HS.out).mono ?_; rintro e w' ⟨rfl, rfl⟩)
    go_ret2
    exact ⟨ret_two2 HF.out.1.symm HF.out.2.symm, Below.refl _ _⟩
  · have HS := hide hs
    by_cases hv : seatsB c bs k = true
    · have hS := seats_of hv
      have hc5 : c ≤ 5 := hS.1.1.2
      have hc1 : 1 ≤ c := hS.1.1.1
      have hk5 : k ≤ 5 := by omega
      have hk0 : 0 ≤ k := by omega
      have hl6 : bs.length ≤ 6 := by have := hS.1.2.1; omega
      have hl1 : 1 ≤ bs.length := by have := hS.1.2.1; omega
      have p1 := pw_pos c
      have p5 := pw_le5 c hc5
      have HR := hide (bal_range hS.1)
      clear hS
      by_cases hx : 0 ≤ x ∧ x ≤ pw c - 1
      · obtain ⟨y, rfl⟩ := Int.eq_ofNat_of_zero_le hx.1
        have hy32 : y < 32 := by omega
        have HX := hide hx
        have hp6 := pc_le y
        by_cases hp : (pc y : Int) ≤ k
        · have hse := seatedB_yes hv hx (by rw [Int.toNat_natCast]; exact hp)
          have HJ := hide (just_eq hs hse)
          have HW := hide (wroA_yes hs hse)
          have hp2 : ¬ k < (pc y : Int) := by omega
          obtain ⟨m, rfl⟩ := Int.eq_ofNat_of_zero_le (show 0 ≤ c from by omega)
          obtain ⟨K, rfl⟩ := Int.eq_ofNat_of_zero_le hk0
          rw [Int.toNat_natCast, Int.toNat_natCast, Int.toNat_natCast] at HW
          have HV : Hid (wroG s m bs K y = ((scR (scan (badB (claimN s) bs m K y) (2 ^ bs.length) K 1) : Nat) : Int) ∧ wroL s m bs K y = ((scL (scan (badB (claimN s) bs m K y) (2 ^ bs.length) K 1) : Nat) : Int)) := by
            unfold Hid wroG wroL
            rw [HW.out]
            exact ⟨rfl, rfl⟩
          clear hs hx hse hp
          go_enter Try.func44, Try.ntmps44
          go_wp2_with (go_at_call 88; refine (isClaim_yes _ _ HS.out).mono ?_; rintro e w' ⟨rfl, rfl⟩)
          refine (specSeats_any _ _ _ _ _ _ hi hn).mono ?_
          rintro e wo ⟨rfl, hb1⟩
          have hio := hi.below hb1
          go_wp2_with (first
            | (go_at_call 77; refine (power_any _ _ (by omega) (by omega)).mono ?_; rintro e w' ⟨rfl, rfl⟩)
            | (go_at_call 70; refine (inRange_yes _ _ _ _ HX.out).mono ?_; rintro e w' ⟨rfl, rfl⟩)
            | (go_at_call 89; refine (weight_any _ _ (by omega)).mono ?_; rintro e w' ⟨rfl, rfl⟩)
            | (go_at_call 90; refine (wronged_any s HS.out m _ _ _ K y _ hio hl6 hl1 HR.out (by omega) (by omega) hy32).mono ?_; rintro e w' ⟨rfl, rfl⟩))
          go_ret2
          exact ⟨ret_two2 HV.out.1.symm HV.out.2.symm, hb1⟩
        · have HZ := seatedB_more (c := c) (bs := bs) (k := k) (w := (y : Int)) (by rw [Int.toNat_natCast]; exact hp)
          have HF := hide (wroG_none (wroA_seat (s := s) HZ))
          have hp2 : k < (pc y : Int) := by omega
          clear hs hx hp HZ
          go_enter Try.func44, Try.ntmps44
          go_wp2_with (go_at_call 88; refine (isClaim_yes _ _ HS.out).mono ?_; rintro e w' ⟨rfl, rfl⟩)
          refine (specSeats_any _ _ _ _ _ _ hi hn).mono ?_
          rintro e wo ⟨rfl, hb1⟩
          go_wp2_with (first
            | (go_at_call 77; refine (power_any _ _ (by omega) (by omega)).mono ?_; rintro e w' ⟨rfl, rfl⟩)
            | (go_at_call 70; refine (inRange_yes _ _ _ _ HX.out).mono ?_; rintro e w' ⟨rfl, rfl⟩)
            | (go_at_call 89; refine (weight_any _ _ (by omega)).mono ?_; rintro e w' ⟨rfl, rfl⟩))
          go_ret2
          exact ⟨ret_two2 HF.out.1.symm HF.out.2.symm, hb1⟩
      · have HZ := seatedB_out (bs := bs) (k := k) hx
        have HF := hide (wroG_none (wroA_seat (s := s) HZ))
        have HX := hide hx
        clear hs hx HZ
        go_enter Try.func44, Try.ntmps44
        go_wp2_with (go_at_call 88; refine (isClaim_yes _ _ HS.out).mono ?_; rintro e w' ⟨rfl, rfl⟩)
        refine (specSeats_any _ _ _ _ _ _ hi hn).mono ?_
        rintro e wo ⟨rfl, hb1⟩
        go_wp2_with (first
          | (go_at_call 77; refine (power_any _ _ (by omega) (by omega)).mono ?_; rintro e w' ⟨rfl, rfl⟩)
          | (go_at_call 70; refine (inRange_no _ _ _ _ HX.out).mono ?_; rintro e w' ⟨rfl, rfl⟩))
        go_ret2
        exact ⟨ret_two2 HF.out.1.symm HF.out.2.symm, hb1⟩
    · have hv : seatsB c bs k = false := by simpa using hv
      have HZ := seatedB_no (w := x) hv
      have HF := hide (wroG_none (wroA_seat (s := s) HZ))
      clear hs HZ
      go_enter Try.func44, Try.ntmps44
      go_wp2_with (go_at_call 88; refine (isClaim_yes _ _ HS.out).mono ?_; rintro e w' ⟨rfl, rfl⟩)
      refine (specSeats_any _ _ _ _ _ _ hi hn).mono ?_
      rintro e wo ⟨rfl, hb1⟩
      go_wp2
      go_ret2
      exact ⟨ret_two2 HF.out.1.symm HF.out.2.symm, hb1⟩
set_option maxHeartbeats 4000000 in
theorem specIsJust_any (s : ByteArray) (c : Int) (a : Option Addr) (cap : Nat) (bs : List Int) (k x : Int) (w : World) (hi : Ints w a bs) (hn : bs.length ≤ 1048576) :
    Calls Try.prog 47 #[.string s, .int .i64 c, .slice a bs.length cap, .int .i64 k, .int .i64 x] w fun e w' => e = .returned (.bool (justB s c bs k x)) ∧ Below w.heap.size w w' := by
  by_cases hs : claimN s = 0
  · have HF := hide (just_claim (c := c) (bs := bs) (k := k) (x := x) hs)
    have HS := hide hs
    clear hs
    go_enter Try.func47, Try.ntmps47
    go_wp2_with (go_at_call 88; refine (isClaim_no _ _ HS.out).mono ?_; rintro e w' ⟨rfl, rfl⟩)
    go_ret
    exact ⟨ret_bool HF.out.symm, Below.refl _ _⟩
  · have HS := hide hs
    by_cases hv : seatsB c bs k = true
    · have hS := seats_of hv
      have hc5 : c ≤ 5 := hS.1.1.2
      have hc1 : 1 ≤ c := hS.1.1.1
      have hk5 : k ≤ 5 := by omega
      have hk0 : 0 ≤ k := by omega
      have hl6 : bs.length ≤ 6 := by have := hS.1.2.1; omega
      have hl1 : 1 ≤ bs.length := by have := hS.1.2.1; omega
      have p1 := pw_pos c
      have p5 := pw_le5 c hc5
      have HR := hide (bal_range hS.1)
      clear hS
      by_cases hx : 0 ≤ x ∧ x ≤ pw c - 1
      · obtain ⟨y, rfl⟩ := Int.eq_ofNat_of_zero_le hx.1
        have hy32 : y < 32 := by omega
        have HX := hide hx
        have hp6 := pc_le y
        by_cases hp : (pc y : Int) ≤ k
        · have hse := seatedB_yes hv hx (by rw [Int.toNat_natCast]; exact hp)
          have HJ := hide (just_eq hs hse)
          have HW := hide (wroA_yes hs hse)
          have hp2 : ¬ k < (pc y : Int) := by omega
          obtain ⟨m, rfl⟩ := Int.eq_ofNat_of_zero_le (show 0 ≤ c from by omega)
          obtain ⟨K, rfl⟩ := Int.eq_ofNat_of_zero_le hk0
          rw [Int.toNat_natCast, Int.toNat_natCast, Int.toNat_natCast] at HW
          have HV : Hid (wroG s m bs K y = ((scR (scan (badB (claimN s) bs m K y) (2 ^ bs.length) K 1) : Nat) : Int) ∧ wroL s m bs K y = ((scL (scan (badB (claimN s) bs m K y) (2 ^ bs.length) K 1) : Nat) : Int)) := by
            unfold Hid wroG wroL
            rw [HW.out]
            exact ⟨rfl, rfl⟩
          clear hs hx hse hp
          go_enter Try.func47, Try.ntmps47
          go_wp2_with (go_at_call 88; refine (isClaim_yes _ _ HS.out).mono ?_; rintro e w' ⟨rfl, rfl⟩)
          refine (specSeats_any _ _ _ _ _ _ hi hn).mono ?_
          rintro e wo ⟨rfl, hb1⟩
          have hio := hi.below hb1
          go_wp2_with (first
            | (go_at_call 77; refine (power_any _ _ (by omega) (by omega)).mono ?_; rintro e w' ⟨rfl, rfl⟩)
            | (go_at_call 70; refine (inRange_yes _ _ _ _ HX.out).mono ?_; rintro e w' ⟨rfl, rfl⟩)
            | (go_at_call 89; refine (weight_any _ _ (by omega)).mono ?_; rintro e w' ⟨rfl, rfl⟩)
            | (go_at_call 90; refine (wronged_any s HS.out m _ _ _ K y _ hio hl6 hl1 HR.out (by omega) (by omega) hy32).mono ?_; rintro e w' ⟨rfl, rfl⟩))
          go_ret
          exact ⟨ret_bool (by rw [HJ.out, HV.out.1]), hb1⟩
        · have HZ := seatedB_more (c := c) (bs := bs) (k := k) (w := (y : Int)) (by rw [Int.toNat_natCast]; exact hp)
          have HF := hide (just_seat (s := s) HZ)
          have hp2 : k < (pc y : Int) := by omega
          clear hs hx hp HZ
          go_enter Try.func47, Try.ntmps47
          go_wp2_with (go_at_call 88; refine (isClaim_yes _ _ HS.out).mono ?_; rintro e w' ⟨rfl, rfl⟩)
          refine (specSeats_any _ _ _ _ _ _ hi hn).mono ?_
          rintro e wo ⟨rfl, hb1⟩
          go_wp2_with (first
            | (go_at_call 77; refine (power_any _ _ (by omega) (by omega)).mono ?_; rintro e w' ⟨rfl, rfl⟩)
            | (go_at_call 70; refine (inRange_yes _ _ _ _ HX.out).mono ?_; rintro e w' ⟨rfl, rfl⟩)
            | (go_at_call 89; refine (weight_any _ _ (by omega)).mono ?_; rintro e w' ⟨rfl, rfl⟩))
          go_ret
          exact ⟨ret_bool HF.out.symm, hb1⟩
      · have HZ := seatedB_out (bs := bs) (k := k) hx
        have HF := hide (just_seat (s := s) HZ)
        have HX := hide hx
        clear hs hx HZ
        go_enter Try.func47, Try.ntmps47
        go_wp2_with (go_at_call 88; refine (isClaim_yes _ _ HS.out).mono ?_; rintro e w' ⟨rfl, rfl⟩)
        refine (specSeats_any _ _ _ _ _ _ hi hn).mono ?_
        rintro e wo ⟨rfl, hb1⟩
        go_wp2_with (first
          | (go_at_call 77; refine (power_any _ _ (by omega) (by omega)).mono ?_; rintro e w' ⟨rfl, rfl⟩)
          | (go_at_call 70; refine (inRange_no _ _ _ _ HX.out).mono ?_; rintro e w' ⟨rfl, rfl⟩))
        go_ret
        exact ⟨ret_bool HF.out.symm, hb1⟩
    · have hv : seatsB c bs k = false := by simpa using hv
      have HZ := seatedB_no (w := x) hv
      have HF := hide (just_seat (s := s) HZ)
      clear hs HZ
      go_enter Try.func47, Try.ntmps47
      go_wp2_with (go_at_call 88; refine (isClaim_yes _ _ HS.out).mono ?_; rintro e w' ⟨rfl, rfl⟩)
      refine (specSeats_any _ _ _ _ _ _ hi hn).mono ?_
      rintro e wo ⟨rfl, hb1⟩
      go_wp2
      go_ret
      exact ⟨ret_bool HF.out.symm, hb1⟩
end Go.Proofs.Ytgkaghappogglaa
