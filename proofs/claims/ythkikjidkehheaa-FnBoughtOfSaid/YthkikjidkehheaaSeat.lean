/- Committees that may be seated, in the program; variables of one cell; digits of committees. -/
import Derived.Test.YthkikjidkehheaaCom
namespace Go.Proofs.Ythkikjidkehheaa
open Go.RowKit Go.Joins

/-- A variable of one cell. -/
def Box1 (w : World) (g : Nat) (v : Value) : Prop := g < w.heap.size ∧ w.cell? ⟨g, 0, none⟩ = some v
theorem Box1.below {w w' : World} {g : Nat} {v : Value} (h : Box1 w g v) (hb : Below w.heap.size w w') : Box1 w' g v :=
  ⟨Nat.lt_of_lt_of_le h.1 hb.size, (hb.cell (p := ⟨g, 0, none⟩) h.1).trans h.2⟩
theorem Box1.new (w : World) (v : Value) (t : TypeId) : Box1 (w.alloc (.cells #[v] t)) w.heap.size v := ⟨by simp, by simp [go_sem]⟩

/-- ballots, seats and a committee that go together -/
def seatedB (c : Int) (bs : List Int) (k w : Int) : Bool := seatsB c bs k && (decide (0 ≤ w ∧ w ≤ pw c - 1) && decide ((pc w.toNat : Int) ≤ k))
theorem seatedB_no {c : Int} {bs : List Int} {k w : Int} (h : seatsB c bs k = false) : seatedB c bs k w = false := by unfold seatedB; rw [h]; rfl
theorem seatedB_out {c : Int} {bs : List Int} {k w : Int} (h : ¬ (0 ≤ w ∧ w ≤ pw c - 1)) : seatedB c bs k w = false := by unfold seatedB; rw [decide_eq_false h]; simp
theorem seatedB_more {c : Int} {bs : List Int} {k w : Int} (h : ¬ (pc w.toNat : Int) ≤ k) : seatedB c bs k w = false := by unfold seatedB; rw [decide_eq_false h]; simp
theorem seatedB_yes {c : Int} {bs : List Int} {k w : Int} (h : seatsB c bs k = true) (h1 : 0 ≤ w ∧ w ≤ pw c - 1) (h2 : (pc w.toNat : Int) ≤ k) : seatedB c bs k w = true := by
  unfold seatedB; rw [h, decide_eq_true h1, decide_eq_true h2]; rfl
theorem seated_of {c : Int} {bs : List Int} {k w : Int} (h : seatedB c bs k w = true) : seatsB c bs k = true ∧ (0 ≤ w ∧ w ≤ pw c - 1) ∧ (pc w.toNat : Int) ≤ k := by
  unfold seatedB at h
  rw [Bool.and_eq_true, Bool.and_eq_true, decide_eq_true_eq, decide_eq_true_eq] at h
  exact h

set_option maxHeartbeats 1000000 in
theorem mayBeSeated_any (c k x : Int) (a : Option Addr) (cap : Nat) (bs : List Int) (w : World) (hi : Ints w a bs) (hn : bs.length ≤ 1048576) :
    Calls Try.prog 41 #[.int .i64 c, .slice a bs.length cap, .int .i64 k, .int .i64 x] w fun e w' => e = .returned (.bool (seatedB c bs k x)) ∧ Below w.heap.size w w' := by
  by_cases hv : balB c bs = true
  · by_cases hk : 1 ≤ k ∧ k ≤ c
    · have HS := hide (seatsB_yes (k := k) hv)
      have hb := bal_of hv
      have HB := hide hb
      have HK := hide hk
      by_cases hx : 0 ≤ x ∧ x ≤ pw c - 1
      · have p5 := pw_le5 c hb.1.2
        have hx32 : x.toNat < 32 := by omega
        obtain ⟨y, rfl⟩ := Int.eq_ofNat_of_zero_le hx.1
        rw [Int.toNat_natCast] at hx32
        have HX := hide hx
        by_cases hp : (pc y : Int) ≤ k
        · have HF := hide (seatedB_yes (HS.out.trans (decide_eq_true hk)) hx (by rw [Int.toNat_natCast]; exact hp))
          clear hb hk hx p5
          go_enter Try.func41, Try.ntmps41
          go_wp2_with fail
          refine (implBal_any _ _ _ _ _ hi hn).mono ?_
          rintro e w1 ⟨rfl, hb1⟩
          go_wp2_with (first
            | (go_at_call 26; refine (validSeats_yes _ _ _ HK.out).mono ?_; rintro e w' ⟨rfl, rfl⟩)
            | (go_at_call 52; refine (areNames_yes _ _ _ HB.out.1.1 HB.out.1.2 HX.out).mono ?_; rintro e w' ⟨rfl, rfl⟩)
            | (go_at_call 63; refine (countOfNames_any _ _ hx32).mono ?_; rintro e w' ⟨rfl, rfl⟩))
          go_ret
          exact ⟨ret_bool HF.out.symm, hb1⟩
        · have HF := hide (seatedB_more (c := c) (bs := bs) (k := k) (w := (y : Int)) (by rw [Int.toNat_natCast]; exact hp))
          have hp2 : k < (pc y : Int) := by omega
          clear hb hk hx p5 hp
          go_enter Try.func41, Try.ntmps41
          go_wp2_with fail
          refine (implBal_any _ _ _ _ _ hi hn).mono ?_
          rintro e w1 ⟨rfl, hb1⟩
          go_wp2_with (first
            | (go_at_call 26; refine (validSeats_yes _ _ _ HK.out).mono ?_; rintro e w' ⟨rfl, rfl⟩)
            | (go_at_call 52; refine (areNames_yes _ _ _ HB.out.1.1 HB.out.1.2 HX.out).mono ?_; rintro e w' ⟨rfl, rfl⟩)
            | (go_at_call 63; refine (countOfNames_any _ _ hx32).mono ?_; rintro e w' ⟨rfl, rfl⟩))
          go_ret
          exact ⟨ret_bool (by rw [HF.out]; simp; omega), hb1⟩
      · have HF := hide (seatedB_out (bs := bs) (k := k) hx)
        have HX := hide hx
        clear hb hk hx
        go_enter Try.func41, Try.ntmps41
        go_wp2_with fail
        refine (implBal_any _ _ _ _ _ hi hn).mono ?_
        rintro e w1 ⟨rfl, hb1⟩
        go_wp2_with (first
          | (go_at_call 26; refine (validSeats_yes _ _ _ HK.out).mono ?_; rintro e w' ⟨rfl, rfl⟩)
          | (go_at_call 52; refine (areNames_no _ _ _ HB.out.1.1 HB.out.1.2 HX.out).mono ?_; rintro e w' ⟨rfl, rfl⟩))
        go_ret
        exact ⟨ret_bool HF.out.symm, hb1⟩
    · have HF := hide (seatedB_no (w := x) ((seatsB_yes (k := k) hv).trans (decide_eq_false hk)))
      have HK := hide hk
      clear hk
      go_enter Try.func41, Try.ntmps41
      go_wp2_with fail
      refine (implBal_any _ _ _ _ _ hi hn).mono ?_
      rintro e w1 ⟨rfl, hb1⟩
      go_wp2_with (go_at_call 26; refine (validSeats_no _ _ _ HK.out).mono ?_; rintro e w' ⟨rfl, rfl⟩)
      go_ret
      exact ⟨ret_bool HF.out.symm, hb1⟩
  · have hv : balB c bs = false := by simpa using hv
    have HF := hide (seatedB_no (w := x) (seatsB_no (k := k) hv))
    go_enter Try.func41, Try.ntmps41
    go_wp2_with fail
    refine (implBal_any _ _ _ _ _ hi hn).mono ?_
    rintro e w1 ⟨rfl, hb1⟩
    go_wp2
    go_ret
    exact ⟨ret_bool HF.out.symm, hb1⟩
end Go.Proofs.Ythkikjidkehheaa
