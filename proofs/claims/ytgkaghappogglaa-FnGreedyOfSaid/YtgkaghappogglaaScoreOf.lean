/- ScoreOf in the model and in the program. -/
import Derived.Test.YtgkaghappogglaaScored
namespace Go.Proofs.Ytgkaghappogglaa
open Go.RowKit Go.Joins

theorem ret_two {x y : Int} {a b : Bool} (h : x = y) (h2 : a = b) : Ending.returned (.tuple #[.int .i64 x, .bool a]) = .returned (.tuple #[.int .i64 y, .bool b]) := by rw [h, h2]
theorem scoreNamed_any (s : ByteArray) (w : World) : Calls Try.prog 73 #[.string s] w fun e w' => (kindN s < 4 ∧ e = .returned (.tuple #[Value.iface (kindT (kindN s)) (.agg #[]), .bool true]) ∧ w = w') ∨ (kindN s = 4 ∧ e = .returned (.tuple #[.nilIface, .bool false]) ∧ w = w') := by
  rcases kind_cases s with ⟨hq, h0⟩ | ⟨hq, h0, h1⟩ | ⟨hq, h0, h1, h2⟩ | ⟨hq, h0, h1, h2, h3⟩ | ⟨hq, h0, h1, h2, h3⟩
  all_goals
    have HQ := hide hq
    clear hq
    go_enter Try.func73, Try.ntmps73
    go_wp2
    go_ret2
    rw [HQ.out]
    first
      | exact .inl ⟨by omega, rfl, rfl⟩
      | exact .inr ⟨rfl, rfl, rfl⟩
theorem scoreNamed_yes (s : ByteArray) (w : World) (h : kindN s < 4) : Calls Try.prog 73 #[.string s] w fun e w' => e = .returned (.tuple #[Value.iface (kindT (kindN s)) (.agg #[]), .bool true]) ∧ w = w' :=
  (scoreNamed_any s w).mono fun _ _ hh => by rcases hh with ⟨_, h1⟩ | ⟨h1, _⟩ <;> first | exact h1 | omega
theorem scoreNamed_no (s : ByteArray) (w : World) (h : ¬ kindN s < 4) : Calls Try.prog 73 #[.string s] w fun e w' => e = .returned (.tuple #[.nilIface, .bool false]) ∧ w = w' :=
  (scoreNamed_any s w).mono fun _ _ hh => by rcases hh with ⟨h1, _⟩ | ⟨_, h1⟩ <;> first | exact h1 | omega

/-- whether a name is of a score -/
def isScore (s : ByteArray) : Bool := decide (kindN s < 4)
/-- what the model's scoreOf answers, of at least one ballot -/
def scoreR (s : ByteArray) (bs : List Int) (x : Nat) : Int := if kindN s < 4 then (scoreV (kindN s) bs x : Int) else 0
theorem scoreR_yes {s : ByteArray} (bs : List Int) (x : Nat) (h : kindN s < 4) : scoreR s bs x = (scoreV (kindN s) bs x : Int) := if_pos h
theorem scoreR_no {s : ByteArray} (bs : List Int) (x : Nat) (h : ¬ kindN s < 4) : scoreR s bs x = 0 := if_neg h

set_option maxHeartbeats 8000000 in
set_option maxRecDepth 100000 in
theorem specScore_any (s : ByteArray) (a : Option Addr) (cap : Nat) (bs : List Int) (x : Nat) (w : World) (hi : Ints w a bs) (h6 : bs.length ≤ 6) (h1 : 1 ≤ bs.length) (hr : ∀ b ∈ bs, 0 ≤ b ∧ b ≤ 31) (hx : x < 32) :
    Calls Try.prog 78 #[.string s, .slice a bs.length cap, .int .i64 x] w fun e w' => e = .returned (.tuple #[.int .i64 (scoreR s bs x), .bool (isScore s)]) ∧ w = w' := by
  have HR := hide hr
  have HX := hide hx
  clear hr hx
  have hcs := kind_cases s
  rcases hcs with ⟨hq, n0⟩ | ⟨hq, n0, n1⟩ | ⟨hq, n0, n1, n2⟩ | ⟨hq, n0, n1, n2, n3⟩ | ⟨hq, n0, n1, n2, n3⟩
  case inr.inr.inr.inr =>
    have HN : Hid (scoreR s bs x = 0 ∧ isScore s = false) := ⟨scoreR_no bs x (by omega), by unfold isScore; rw [decide_eq_false (by omega)]⟩
    obtain ⟨b, off, rfl, hbl, hc⟩ := hi (by omega)
    have hck := hc 0 (by omega)
    rw [getD_lt (by omega), Nat.add_zero] at hck
    have hand := and_bal (w := x) (HR.out _ (mem_of_at (k := 0) (by omega))) HX.out
    have hy32 := and_lt bs[0] x HX.out
    obtain ⟨y, hy⟩ : ∃ y, y = bs[0].toNat &&& x := ⟨_, rfl⟩
    rw [← hy] at hand hy32
    have g0 : decide (0 < bs.length) = true := by rw [decide_eq_true_eq]; omega
    clear hc hi hy hq
    go_enter Try.func78, Try.ntmps78
    go_wp2
    refine wp_loop_rounds 1 ?_
    rw [rounds_succ]
    go_wp2_with (go_at_call 89; refine (weight_any y _ (by omega)).mono ?_; rintro e w' ⟨rfl, rfl⟩)
    all_goals
      go_ret2
      rw [HN.out.1, HN.out.2]
      exact ⟨rfl, rfl⟩
  case inr.inr.inr.inl =>
    have HN : Hid (scoreR s bs x = (scoreK 3 bs x bs.length : Int) ∧ isScore s = true) := ⟨by rw [scoreR_yes bs x (by omega), hq]; rfl, by unfold isScore; rw [decide_eq_true (by omega)]⟩
    clear hq
    go_enter Try.func78, Try.ntmps78
    go_wp2
    go_loop [8, 9, 10] (fun t l i => ∃ k : Nat, k ≤ bs.length ∧ i = .int .i64 k ∧ t = .int .i64 (scoreK 3 bs x k : Nat) ∧ l = .int .i64 (minK bs x k : Nat)) (fun _ _ i => bs.length - (intOf i).toNat)
    case atStart => exact ⟨0, Nat.zero_le _, rfl, rfl, rfl⟩
    case round =>
      obtain ⟨k, hk, rfl, rfl, rfl⟩ := hrel
      by_cases hlt : k < bs.length
      · obtain ⟨b, off, rfl, hbl, hc⟩ := hi (by omega)
        have hck := hc k hlt
        rw [getD_lt hlt] at hck
        have hand := and_bal (w := x) (HR.out _ (mem_of_at hlt)) HX.out
        have hy32 := and_lt bs[k] x HX.out
        have HS := hide (scoreK_min bs x k)
        have HM := hide (show minK bs x (k + 1) = min (minK bs x k) (pc (bs[k].toNat &&& x)) from by rw [minK, getD_lt hlt])
        obtain ⟨y, hy⟩ : ∃ y, y = bs[k].toNat &&& x := ⟨_, rfl⟩
        rw [← hy] at hand hy32 HM
        clear hc hi hy
        go_wp2_with (go_at_call 89; refine (weight_any y _ (by omega)).mono ?_; rintro e w' ⟨rfl, rfl⟩)
        all_goals
          go_round
          case rel => exact ⟨k + 1, by omega, by go_num, by rw [HS.out, HM.out]; (congr 1; omega), by rw [HM.out]; (congr 1; omega)⟩
          case measure => simp only [intOf]; omega
      · obtain rfl : k = bs.length := by omega
        go_wp2
        go_ret2
        rw [HN.out.1, HN.out.2]
        exact ⟨rfl, rfl⟩
  case inr.inr.inl =>
    have HN : Hid (scoreR s bs x = (scoreK 2 bs x bs.length : Int) ∧ isScore s = true) := ⟨by rw [scoreR_yes bs x (by omega), hq]; rfl, by unfold isScore; rw [decide_eq_true (by omega)]⟩
    clear hq
    go_enter Try.func78, Try.ntmps78
    go_wp2
    go_loop [8, 9, 10] (fun t l i => ∃ k m : Nat, k ≤ bs.length ∧ i = .int .i64 k ∧ t = .int .i64 (scoreK 2 bs x k : Nat) ∧ l = .int .i64 m ∧ m ≤ 5) (fun _ _ i => bs.length - (intOf i).toNat)
    case atStart => exact ⟨0, 5, Nat.zero_le _, rfl, rfl, rfl, Nat.le_refl _⟩
    case round =>
      obtain ⟨k, m, hk, rfl, rfl, rfl, hm⟩ := hrel
      by_cases hlt : k < bs.length
      · obtain ⟨b, off, rfl, hbl, hc⟩ := hi (by omega)
        have hck := hc k hlt
        rw [getD_lt hlt] at hck
        have hand := and_bal (w := x) (HR.out _ (mem_of_at hlt)) HX.out
        have hy32 := and_lt bs[k] x HX.out
        have HS := hide (scoreK_sum bs x k (show 2 ≠ 3 from by decide))
        have hsl := scoreK_le 2 bs x k
        have hp6 := pc_le (bs[k].toNat &&& x)
        have hwl := worth_le 2 _ hp6
        rw [getD_lt hlt] at HS
        obtain ⟨y, hy⟩ : ∃ y, y = bs[k].toNat &&& x := ⟨_, rfl⟩
        rw [← hy] at hand hy32 HS hwl hp6
        have HW : Hid (worth 2 (pc y) = (if 2 = 1 then harm (pc y) else if 2 = 2 then min (pc y) 1 else pc y)) := rfl
        have hh := harm_le _ hp6
        clear hc hi hy hwl
        go_wp2_with (first
          | (go_at_call 89; refine (weight_any y _ (by omega)).mono ?_; rintro e w' ⟨rfl, rfl⟩)
          | (go_at_call 105; refine (specHarm_any _ _ hp6).mono ?_; rintro e w' ⟨rfl, rfl⟩))
        all_goals
          go_round
          case rel => exact ⟨k + 1, min m (pc y), by omega, by go_num, by rw [HS.out, HW.out]; simp; try omega, by (congr 1; omega), by omega⟩
          case measure => simp only [intOf]; omega
      · obtain rfl : k = bs.length := by omega
        go_wp2
        go_ret2
        rw [HN.out.1, HN.out.2]
        exact ⟨rfl, rfl⟩
  case inr.inl =>
    have HN : Hid (scoreR s bs x = (scoreK 1 bs x bs.length : Int) ∧ isScore s = true) := ⟨by rw [scoreR_yes bs x (by omega), hq]; rfl, by unfold isScore; rw [decide_eq_true (by omega)]⟩
    clear hq
    go_enter Try.func78, Try.ntmps78
    go_wp2
    go_loop [8, 9, 10] (fun t l i => ∃ k m : Nat, k ≤ bs.length ∧ i = .int .i64 k ∧ t = .int .i64 (scoreK 1 bs x k : Nat) ∧ l = .int .i64 m ∧ m ≤ 5) (fun _ _ i => bs.length - (intOf i).toNat)
    case atStart => exact ⟨0, 5, Nat.zero_le _, rfl, rfl, rfl, Nat.le_refl _⟩
    case round =>
      obtain ⟨k, m, hk, rfl, rfl, rfl, hm⟩ := hrel
      by_cases hlt : k < bs.length
      · obtain ⟨b, off, rfl, hbl, hc⟩ := hi (by omega)
        have hck := hc k hlt
        rw [getD_lt hlt] at hck
        have hand := and_bal (w := x) (HR.out _ (mem_of_at hlt)) HX.out
        have hy32 := and_lt bs[k] x HX.out
        have HS := hide (scoreK_sum bs x k (show 1 ≠ 3 from by decide))
        have hsl := scoreK_le 1 bs x k
        have hp6 := pc_le (bs[k].toNat &&& x)
        have hwl := worth_le 1 _ hp6
        rw [getD_lt hlt] at HS
        obtain ⟨y, hy⟩ : ∃ y, y = bs[k].toNat &&& x := ⟨_, rfl⟩
        rw [← hy] at hand hy32 HS hwl hp6
        have HW : Hid (worth 1 (pc y) = (if 1 = 1 then harm (pc y) else if 1 = 2 then min (pc y) 1 else pc y)) := rfl
        have hh := harm_le _ hp6
        clear hc hi hy hwl
        go_wp2_with (first
          | (go_at_call 89; refine (weight_any y _ (by omega)).mono ?_; rintro e w' ⟨rfl, rfl⟩)
          | (go_at_call 105; refine (specHarm_any _ _ hp6).mono ?_; rintro e w' ⟨rfl, rfl⟩))
        all_goals
          go_round
          case rel => exact ⟨k + 1, min m (pc y), by omega, by go_num, by rw [HS.out, HW.out]; simp; try omega, by (congr 1; omega), by omega⟩
          case measure => simp only [intOf]; omega
      · obtain rfl : k = bs.length := by omega
        go_wp2
        go_ret2
        rw [HN.out.1, HN.out.2]
        exact ⟨rfl, rfl⟩
  case inl =>
    have HN : Hid (scoreR s bs x = (scoreK 0 bs x bs.length : Int) ∧ isScore s = true) := ⟨by rw [scoreR_yes bs x (by omega), hq]; rfl, by unfold isScore; rw [decide_eq_true (by omega)]⟩
    clear hq
    go_enter Try.func78, Try.ntmps78
    go_wp2
    go_loop [8, 9, 10] (fun t l i => ∃ k m : Nat, k ≤ bs.length ∧ i = .int .i64 k ∧ t = .int .i64 (scoreK 0 bs x k : Nat) ∧ l = .int .i64 m ∧ m ≤ 5) (fun _ _ i => bs.length - (intOf i).toNat)
    case atStart => exact ⟨0, 5, Nat.zero_le _, rfl, rfl, rfl, Nat.le_refl _⟩
    case round =>
      obtain ⟨k, m, hk, rfl, rfl, rfl, hm⟩ := hrel
      by_cases hlt : k < bs.length
      · obtain ⟨b, off, rfl, hbl, hc⟩ := hi (by omega)
        have hck := hc k hlt
        rw [getD_lt hlt] at hck
        have hand := and_bal (w := x) (HR.out _ (mem_of_at hlt)) HX.out
        have hy32 := and_lt bs[k] x HX.out
        have HS := hide (scoreK_sum bs x k (show 0 ≠ 3 from by decide))
        have hsl := scoreK_le 0 bs x k
        have hp6 := pc_le (bs[k].toNat &&& x)
        have hwl := worth_le 0 _ hp6
        rw [getD_lt hlt] at HS
        obtain ⟨y, hy⟩ : ∃ y, y = bs[k].toNat &&& x := ⟨_, rfl⟩
        rw [← hy] at hand hy32 HS hwl hp6
        have HW : Hid (worth 0 (pc y) = (if 0 = 1 then harm (pc y) else if 0 = 2 then min (pc y) 1 else pc y)) := rfl
        have hh := harm_le _ hp6
        clear hc hi hy hwl
        go_wp2_with (first
          | (go_at_call 89; refine (weight_any y _ (by omega)).mono ?_; rintro e w' ⟨rfl, rfl⟩)
          | (go_at_call 105; refine (specHarm_any _ _ hp6).mono ?_; rintro e w' ⟨rfl, rfl⟩))
        all_goals
          go_round
          case rel => exact ⟨k + 1, min m (pc y), by omega, by go_num, by rw [HS.out, HW.out]; simp; try omega, by (congr 1; omega), by omega⟩
          case measure => simp only [intOf]; omega
      · obtain rfl : k = bs.length := by omega
        go_wp2
        go_ret2
        rw [HN.out.1, HN.out.2]
        exact ⟨rfl, rfl⟩

/-- what ScoreOf answers -/
def scB (s : ByteArray) (c : Int) (bs : List Int) (x : Int) : Bool := balB c bs && (decide (0 ≤ x ∧ x ≤ pw c - 1) && isScore s)
def scV (s : ByteArray) (c : Int) (bs : List Int) (x : Int) : Int := if scB s c bs x = true then scoreR s bs x.toNat else 0
theorem scB_bal {s : ByteArray} {c : Int} {bs : List Int} {x : Int} (h : balB c bs = false) : scB s c bs x = false := by unfold scB; rw [h]; rfl
theorem scB_out {s : ByteArray} {c : Int} {bs : List Int} {x : Int} (h : ¬ (0 ≤ x ∧ x ≤ pw c - 1)) : scB s c bs x = false := by unfold scB; rw [decide_eq_false h]; simp
theorem scB_name {s : ByteArray} {c : Int} {bs : List Int} {x : Int} (h : ¬ kindN s < 4) : scB s c bs x = false := by unfold scB isScore; rw [decide_eq_false h]; simp
theorem scB_in {s : ByteArray} {c : Int} {bs : List Int} {x : Int} (h : balB c bs = true) (h2 : 0 ≤ x ∧ x ≤ pw c - 1) : scB s c bs x = isScore s := by unfold scB; rw [h, decide_eq_true h2]; rfl
theorem scV_no {s : ByteArray} {c : Int} {bs : List Int} {x : Int} (h : scB s c bs x = false) : scV s c bs x = 0 := if_neg (by rw [h]; decide)
theorem scV_in {s : ByteArray} {c : Int} {bs : List Int} {x : Int} (h : balB c bs = true) (h2 : 0 ≤ x ∧ x ≤ pw c - 1) : scV s c bs x = scoreR s bs x.toNat := by
  unfold scV
  rw [scB_in h h2]
  unfold isScore
  by_cases hk : kindN s < 4
  · rw [decide_eq_true hk, if_pos rfl]
  · rw [decide_eq_false hk, if_neg (by decide), scoreR_no _ _ hk]

set_option maxHeartbeats 1000000 in
theorem specScoreOf_any (s : ByteArray) (c : Int) (a : Option Addr) (cap : Nat) (bs : List Int) (x : Int) (w : World) (hi : Ints w a bs) (hn : bs.length ≤ 1048576) :
    Calls Try.prog 32 #[.string s, .int .i64 c, .slice a bs.length cap, .int .i64 x] w fun e w' => e = .returned (.tuple #[.int .i64 (scV s c bs x), .bool (scB s c bs x)]) ∧ Below w.heap.size w w' := by
  by_cases hv : balB c bs = true
  · have hb := bal_of hv
    have hc5 : c ≤ 5 := hb.1.2
    have hc1 : 1 ≤ c := hb.1.1
    have p1 := pw_pos c
    have p5 := pw_le5 c hc5
    have hl6 : bs.length ≤ 6 := by have := hb.2.1; omega
    have hl1 : 1 ≤ bs.length := by have := hb.2.1; omega
    have HR := hide (bal_range hb)
    clear hb
    by_cases hx : 0 ≤ x ∧ x ≤ pw c - 1
    · have HV := hide (scV_in (s := s) hv hx)
      have HB := hide (scB_in (s := s) hv hx)
      obtain ⟨y, rfl⟩ := Int.eq_ofNat_of_zero_le hx.1
      have hy32 : y < 32 := by omega
      rw [Int.toNat_natCast] at HV
      have HX := hide hx
      clear hx
      go_enter Try.func32, Try.ntmps32
      go_wp2_with fail
      refine (specBal_any _ _ _ _ _ hi hn).mono ?_
      rintro e w1 ⟨rfl, hb1⟩
      have hi1 := hi.below hb1
      go_wp2_with (first
        | (go_at_call 77; refine (power_any _ _ (by omega) (by omega)).mono ?_; rintro e w' ⟨rfl, rfl⟩)
        | (go_at_call 70; refine (inRange_yes _ _ _ _ HX.out).mono ?_; rintro e w' ⟨rfl, rfl⟩)
        | (go_at_call 78; refine (specScore_any _ _ _ _ _ _ hi1 hl6 hl1 HR.out hy32).mono ?_; rintro e w' ⟨rfl, rfl⟩))
      go_ret2
      exact ⟨ret_two HV.out.symm HB.out.symm, hb1⟩
    · have HB := hide (scB_out (s := s) (bs := bs) hx)
      have HV := hide (scV_no HB.out)
      have HX := hide hx
      clear hx
      go_enter Try.func32, Try.ntmps32
      go_wp2_with fail
      refine (specBal_any _ _ _ _ _ hi hn).mono ?_
      rintro e w1 ⟨rfl, hb1⟩
      go_wp2_with (first
        | (go_at_call 77; refine (power_any _ _ (by omega) (by omega)).mono ?_; rintro e w' ⟨rfl, rfl⟩)
        | (go_at_call 70; refine (inRange_no _ _ _ _ HX.out).mono ?_; rintro e w' ⟨rfl, rfl⟩))
      go_ret2
      exact ⟨ret_two HV.out.symm HB.out.symm, hb1⟩
  · have hv : balB c bs = false := by simpa using hv
    have HB := hide (scB_bal (s := s) (x := x) hv)
    have HV := hide (scV_no HB.out)
    go_enter Try.func32, Try.ntmps32
    go_wp2_with fail
    refine (specBal_any _ _ _ _ _ hi hn).mono ?_
    rintro e w1 ⟨rfl, hb1⟩
    go_wp2
    go_ret2
    exact ⟨ret_two HV.out.symm HB.out.symm, hb1⟩
set_option maxHeartbeats 1000000 in
theorem implScoreOf_any (s : ByteArray) (c : Int) (a : Option Addr) (cap : Nat) (bs : List Int) (x : Int) (w : World) (hi : Ints w a bs) (hn : bs.length ≤ 1048576) :
    Calls Try.prog 29 #[.string s, .int .i64 c, .slice a bs.length cap, .int .i64 x] w fun e w' => e = .returned (.tuple #[.int .i64 (scV s c bs x), .bool (scB s c bs x)]) ∧ Below w.heap.size w w' := by
  by_cases hk : kindN s < 4
  · have HK := hide hk
    by_cases hv : balB c bs = true
    · have hb := bal_of hv
      have hl6 : bs.length ≤ 6 := by have := hb.2.1; omega
      have hl1 : 1 ≤ bs.length := by have := hb.2.1; omega
      have HR := hide (bal_range hb)
      have HC := hide hb.1
      have p5 := pw_le5 c hb.1.2
      clear hb
      by_cases hx : 0 ≤ x ∧ x ≤ pw c - 1
      · have HV := hide ((scV_in (s := s) hv hx).trans (scoreR_yes bs x.toNat hk))
        have HB := hide ((scB_in (s := s) hv hx).trans (show isScore s = true from by unfold isScore; exact decide_eq_true hk))
        obtain ⟨y, rfl⟩ := Int.eq_ofNat_of_zero_le hx.1
        have hy32 : y < 32 := by omega
        rw [Int.toNat_natCast] at HV
        have HX := hide hx
        clear hx hk
        go_enter Try.func29, Try.ntmps29
        go_wp2_with (go_at_call 73; refine (scoreNamed_yes _ _ HK.out).mono ?_; rintro e w' ⟨rfl, rfl⟩)
        refine (implBal_any _ _ _ _ _ hi hn).mono ?_
        rintro e w1 ⟨rfl, hb1⟩
        go_wp2_with (go_at_call 64; refine (areNames_yes _ _ _ HC.out.1 HC.out.2 HX.out).mono ?_; rintro e w' ⟨rfl, rfl⟩)
        refine (scored_any _ HK.out _ _ _ _ _ (hi.below hb1) hl6 hl1 HR.out hy32).mono ?_
        rintro e w2 ⟨rfl, hb2⟩
        go_wp2
        go_ret2
        exact ⟨ret_two HV.out.symm HB.out.symm, bnext hb1 hb2⟩
      · have HB := hide (scB_out (s := s) (bs := bs) hx)
        have HV := hide (scV_no HB.out)
        have HX := hide hx
        clear hx hk
        go_enter Try.func29, Try.ntmps29
        go_wp2_with (go_at_call 73; refine (scoreNamed_yes _ _ HK.out).mono ?_; rintro e w' ⟨rfl, rfl⟩)
        refine (implBal_any _ _ _ _ _ hi hn).mono ?_
        rintro e w1 ⟨rfl, hb1⟩
        go_wp2_with (go_at_call 64; refine (areNames_no _ _ _ HC.out.1 HC.out.2 HX.out).mono ?_; rintro e w' ⟨rfl, rfl⟩)
        go_ret2
        exact ⟨ret_two HV.out.symm HB.out.symm, hb1⟩
    · have hv : balB c bs = false := by simpa using hv
      have HB := hide (scB_bal (s := s) (x := x) hv)
      have HV := hide (scV_no HB.out)
      clear hk
      go_enter Try.func29, Try.ntmps29
      go_wp2_with (go_at_call 73; refine (scoreNamed_yes _ _ HK.out).mono ?_; rintro e w' ⟨rfl, rfl⟩)
      refine (implBal_any _ _ _ _ _ hi hn).mono ?_
      rintro e w1 ⟨rfl, hb1⟩
      go_wp2
      go_ret2
      exact ⟨ret_two HV.out.symm HB.out.symm, hb1⟩
  · have HB := hide (scB_name (c := c) (bs := bs) (x := x) hk)
    have HV := hide (scV_no HB.out)
    have HK := hide hk
    clear hk
    go_enter Try.func29, Try.ntmps29
    go_wp2_with (go_at_call 73; refine (scoreNamed_no _ _ HK.out).mono ?_; rintro e w' ⟨rfl, rfl⟩)
    go_ret2
    exact ⟨ret_two HV.out.symm HB.out.symm, Below.refl _ _⟩
end Go.Proofs.Ytgkaghappogglaa
