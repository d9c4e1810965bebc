/- IsSettled in the model and in the program. -/
import Derived.Test.YtccemllgglfgkaaWantS
import Derived.Test.YtccemllgglfgkaaOpenI
namespace Go.Proofs.Ytccemllgglfgkaa
open Go.RowKit Go.Joins

theorem want_and : ∀ (vs : List Int) (k : Nat), k ≤ 4 → wantB vs k &&& wantC vs k = wantB vs k
  | vs, 0, _ => by simp [wantB]
  | vs, k + 1, h => by
    have ih := want_and vs k (by omega)
    have hc := wantC_lt vs k
    have hb := wantB_lt vs k
    have h16 : 2 ^ k ≤ 2 ^ 4 := Nat.pow_le_pow_right (by omega) (by omega)
    have h1 : ∀ b : Fin 16, ∀ c : Fin 16, ∀ k : Fin 4, b.val < 2 ^ k.val → c.val < 2 ^ k.val → (b.val &&& c.val = b.val) → (b.val + 2 ^ k.val) &&& (c.val + 2 ^ k.val) = b.val + 2 ^ k.val := by decide +kernel
    have h2 : ∀ b : Fin 16, ∀ c : Fin 16, ∀ k : Fin 4, b.val < 2 ^ k.val → c.val < 2 ^ k.val → (b.val &&& c.val = b.val) → b.val &&& (c.val + 2 ^ k.val) = b.val := by decide +kernel
    have g1 := h1 ⟨wantB vs k, by omega⟩ ⟨wantC vs k, by omega⟩ ⟨k, by omega⟩ hb hc ih
    have g2 := h2 ⟨wantB vs k, by omega⟩ ⟨wantC vs k, by omega⟩ ⟨k, by omega⟩ hb hc ih
    by_cases he : 2 * supN vs k = vs.length
    · rw [wantC_no he, wantB_no (by omega)]; exact ih
    · rw [wantC_yes he]
      by_cases hgt : vs.length < 2 * supN vs k
      · rw [wantB_yes hgt]; exact g1
      · rw [wantB_no hgt]; exact g2

theorem want_16 (vs : List Int) (k : Nat) (h : k ≤ 4) : wantC vs k < 16 ∧ wantB vs k < 16 := by
  have hc := wantC_lt vs k
  have hb := wantB_lt vs k
  have h16 : 2 ^ k ≤ 2 ^ 4 := Nat.pow_le_pow_right (by omega) (by omega)
  omega
theorem want_part (m : Nat) (vs : List Int) (h : m ≤ 4) : IsPt (m : Int) (wantC vs m : Nat) (wantB vs m : Nat) := by
  have hc := wantC_lt vs m
  have hb := wantB_lt vs m
  have hp : pw (m : Int) = ((2 ^ m : Nat) : Int) := by unfold pw; rw [Int.toNat_natCast]
  refine ⟨⟨by omega, by omega⟩, ⟨by omega, by omega⟩, ?_⟩
  rw [Int.toNat_natCast, Int.toNat_natCast]
  exact want_and vs m h

/-- what IsSettled answers -/
def setB (n : Int) (zs vs : List Int) : Bool := vvB n zs vs && openB zs (wantC vs n.toNat : Nat) (wantB vs n.toNat : Nat)
theorem setB_no {n : Int} {zs vs : List Int} (h : vvB n zs vs = false) : setB n zs vs = false := by unfold setB; rw [h]; rfl
theorem setB_yes {n : Int} {zs vs : List Int} (h : vvB n zs vs = true) : setB n zs vs = openB zs (wantC vs n.toNat : Nat) (wantB vs n.toNat : Nat) := by unfold setB; rw [h]; rfl

theorem implVotes_is (n : Int) (a l : Option Addr) (cap capl : Nat) (zs vs : List Int) (w : World) (r : Bool) (hi : Ints w a zs) (hj : Ints w l vs) (hn : zs.length ≤ 1048576) (hm : vs.length ≤ 1048576) (hr : vvB n zs vs = r) :
    Calls Try.prog 46 #[.agg #[.int .i64 n, .slice a zs.length cap], .slice l vs.length capl] w fun e w' => e = .returned (.bool r) ∧ Below w.heap.size w w' :=
  (implValidVotes_any n a l cap capl zs vs w hi hj hn hm).mono fun _ _ ⟨he, hb⟩ => ⟨he.trans (ret_bool hr), hb⟩
theorem validSpace_is (n : Int) (a : Option Addr) (cap : Nat) (zs : List Int) (w : World) (r : Bool) (hi : Ints w a zs) (hn : zs.length ≤ 1048576) (hr : vsB n zs = r) :
    Calls Try.prog 49 #[.agg #[.int .i64 n, .slice a zs.length cap]] w fun e w' => e = .returned (.bool r) ∧ Below w.heap.size w w' :=
  (validSpace_any n a cap zs w hi hn).mono fun _ _ ⟨he, hb⟩ => ⟨he.trans (ret_bool hr), hb⟩
theorem validVotes_is (n : Int) (a l : Option Addr) (cap capl : Nat) (zs vs : List Int) (w : World) (r : Bool) (hi : Ints w a zs) (hj : Ints w l vs) (hn : zs.length ≤ 1048576) (hm : vs.length ≤ 1048576) (hr : votesB zs vs = r) :
    Calls Try.prog 50 #[.agg #[.int .i64 n, .slice a zs.length cap], .slice l vs.length capl] w fun e w' => e = .returned (.bool r) ∧ Below w.heap.size w w' :=
  (validVotes_any n a l cap capl zs vs w hi hj hn hm).mono fun _ _ ⟨he, hb⟩ => ⟨he.trans (ret_bool hr), hb⟩

set_option maxHeartbeats 4000000 in
theorem implIsSettled_any (n : Int) (a l : Option Addr) (cap capl : Nat) (zs vs : List Int) (w : World) (hi : Ints w a zs) (hj : Ints w l vs) (hn : zs.length ≤ 1048576) (hm : vs.length ≤ 1048576) :
    Calls Try.prog 42 #[.agg #[.int .i64 n, .slice a zs.length cap], .slice l vs.length capl] w fun e w' => e = .returned (.bool (setB n zs vs)) ∧ Below w.heap.size w w' := by
  have S0 := SV.new w n a zs cap l vs 28 hi hj
  clear hi hj
  by_cases hv : vvB n zs vs = false
  · have HN := hide (setB_no hv)
    have HV := hide hv
    clear hv
    have ⟨⟨_, c0, c1⟩, _⟩ := S0
    go_enter Try.func42, Try.ntmps42
    go_wp2_with fail
    first | go_region_with ((go_at_call 46; refine (implVotes_is _ _ _ _ _ _ _ _ false S0.drew.2.1 S0.drew.2.2.1 hn hm HV.out).mono ?_; rintro e w1 ⟨rfl, hb⟩)) | fail
    all_goals
      go_wp2
      go_ret
      exact ⟨ret_bool HN.out.symm, (S0.drew.below hb).2.2.2⟩
  · have hv : vvB n zs vs = true := by simpa using hv
    have hV := vv_of hv
    obtain ⟨m, rfl⟩ := Int.eq_ofNat_of_zero_le (show 0 ≤ n from by have := hV.1.1; omega)
    have h4 : m ≤ 4 := by have := hV.1.1; omega
    have HN := hide (setB_yes hv)
    have HV := hide hv
    have HC := hide (wpC_yes hv)
    have HB := hide (wpB_yes hv)
    have HP := hide (want_part m vs h4)
    have HO : Hid (opB (m : Int) zs (wantC vs m : Nat) (wantB vs m : Nat) = openB zs (wantC vs m : Nat) (wantB vs m : Nat)) := opB_true (by rw [vpB_true (vsB_true hV.1)]; exact ptB_true HP.out)
    have W16 := want_16 vs m h4
    have HW : Hid ((Lit.int .i64 ((wantB vs m : Nat) : Int)).wf = true) := WalkArith.wf_i64 (by omega)
    clear hv hV W16
    have ⟨⟨_, c0, c1⟩, _⟩ := S0
    go_enter Try.func42, Try.ntmps42
    go_wp2_with fail
    first | go_region_held3 (fun w' => w'.cell? ⟨w.heap.size, 0, none⟩ = some (.int .i64 m) ∧ w'.cell? ⟨w.heap.size, 1, none⟩ = some (.slice a zs.length cap))
      (first
        | exact ⟨c0, c1⟩
        | exact ⟨S1.1.2.1, S1.1.2.2⟩
        | exact ⟨S2.1.2.1, S2.1.2.2⟩
        | exact ⟨S3.1.2.1, S3.1.2.2⟩
        | go_keep)
      (first
        | (go_at_call 46; refine (implVotes_is _ _ _ _ _ _ _ _ true S0.drew.2.1 S0.drew.2.2.1 hn hm HV.out).mono ?_; rintro e w1 ⟨rfl, hb⟩; have S1 := S0.drew.below hb)
        | (go_at_call 55; refine (implWanted_any _ _ _ _ _ _ _ _ S1.2.1 S1.2.2.1 hn hm).mono ?_; rintro e w2 ⟨rfl, hb2⟩; have S2 := S1.below hb2; rw [HC.out, HB.out, Int.toNat_natCast])
        | (go_at_call 82; refine (implIsOpen_any _ _ _ _ _ _ _ S2.2.1 hn HW.out).mono ?_; rintro e w3 ⟨rfl, hb3⟩; have S3 := S2.below hb3)
        | fail) | fail
    go_wp2
    go_ret
    exact ⟨ret_bool (by rw [HN.out, HO.out, Int.toNat_natCast]), S3.2.2.2⟩

end Go.Proofs.Ytccemllgglfgkaa
