/- SafeRules in the model, whole. -/
import Derived.Test.YtbmodiobgkmngaaSfS
namespace Go.Proofs.Ytbmodiobgkmngaa
open Go.RowKit Go.Joins

/-- what SafeRules lists -/
def sfB (n : Int) (zs : List Int) (v : Int) : Bool := vsB n zs && decide (1 ≤ v ∧ v ≤ 2)
def sfL (n : Int) (zs : List Int) (v : Int) : List (List Int) := if sfB n zs v = true then rulesL n zs v else []
theorem sfL_no {n v : Int} {zs : List Int} (h : sfB n zs v = false) : sfL n zs v = [] := if_neg (by rw [h]; decide)
theorem sfL_yes {n v : Int} {zs : List Int} (h : sfB n zs v = true) : sfL n zs v = rulesL n zs v := if_pos h
/-- lists of rules that a call gives -/
def GivesL (v : Int) (L : List (List Int)) (w : World) (e : Ending) (w' : World) : Prop :=
  ∃ vL ts, e = .returned vL ∧ keys ts = withV v L ∧ RL w' w.heap.size vL ts ∧ Below w.heap.size w w'
set_option maxHeartbeats 4000000 in
set_option maxRecDepth 100000 in
theorem specSafeRules_any (n v : Int) (a : Option Addr) (cap : Nat) (zs : List Int) (w : World) (hi : Ints w a zs) (hn : zs.length ≤ 1048576) :
    Calls Try.prog 8 #[.agg #[.int .i64 n, .slice a zs.length cap], .int .i64 v] w (GivesL v (sfL n zs v) w) := by
  have S0 := SV.new w n a zs cap none [] 25 hi (Ints.nil _ _)
  clear hi
  cases hs : vsB n zs with
  | false =>
    have HV := hide (sfL_no (v := v) (by unfold sfB; rw [hs]; rfl))
    go_enter Try.func8, Try.ntmps8
    go_wp2_with fail
    refine (validSpace_any _ _ _ _ _ S0.2.1 hn).mono ?_
    rintro e w1 ⟨rfl, hb⟩
    go_wp2
    go_ret
    exact ⟨_, [], rfl, by rw [HV.out]; rfl, RL.nil _ _, (S0.below hb).2.2.2⟩
  | true =>
    by_cases hv : 1 ≤ v ∧ v ≤ 2
    · have HL := hide (sfL_yes (n := n) (zs := zs) (v := v) (by unfold sfB; rw [hs, decide_eq_true hv]; rfl))
      have hV := valid_of hs
      have hn4 := hV.1
      have HZR : Hid (∀ x ∈ zs, 0 ≤ x ∧ x ≤ 255) := fun x hx => by have := valid_range hV x hx; omega
      obtain ⟨N, rfl⟩ : ∃ N : Nat, n = (N : Int) := ⟨n.toNat, by omega⟩
      have HSAME := hide (rules_same (v := v) hV (by omega))
      have hd : decide (1 ≤ v ∧ v ≤ 2) = true := decide_eq_true hv
      have hfl := fam_len (v := v)
      clear hV
      go_enter Try.func8, Try.ntmps8
      go_wp2_with fail
      refine (validSpace_any _ _ _ _ _ S0.2.1 hn).mono ?_
      rintro e w1 ⟨rfl, hb⟩
      rw [hs]
      have S1 := S0.below hb
      have HS := hide S1
      have SD := hide S1.drew
      clear S0 hb
      obtain ⟨⟨_, c0, c1⟩, _⟩ := S1
      go_wp2_with (first
        | (go_at_call 31; refine (inRange_any _ _ _ _).mono ?_; rintro e w' ⟨rfl, rfl⟩; rw [hd])
        | fail)
      go_region_held3 (fun w' => w'.cell? ⟨w.heap.size, 0, none⟩ = some (.int .i64 (N : Int)) ∧ w'.cell? ⟨w.heap.size, 1, none⟩ = some (.slice a zs.length cap))
        (first | go_keep | exact HS5.out | exact HS3.out | exact ⟨c0, c1⟩)
        (first
          | (go_at_call 33; refine (families_any v _ (by omega)).mono ?_; rintro e w3 ⟨go, co, rfl, own3, b3⟩; have S3 := hide (SD.out.below b3); have HS3 := hide (And.intro S3.out.1.2.1 S3.out.1.2.2); have H3 := hide own3.ints; clear b3 own3)
          | (go_at_call 33; refine (families_any v _ (by omega)).mono ?_; rintro e w3 ⟨go, co, rfl, own3, b3⟩; have S3 := hide ((SD.out.below (bel1 w1.drew (.cells #[] 3))).below b3); have HS3 := hide (And.intro S3.out.1.2.1 S3.out.1.2.2); have H3 := hide own3.ints; clear b3 own3)
          | (go_at_call 32; refine (rulesFrom_any (N : Int) v a (some ⟨go, 0, none⟩) cap co zs (famL v) hn4 hv HZR.out hfl.2 fam_range hn N [] 0 _ 0 _ (S3.out.2.1.below (bel1 w3 (.cells #[] 3))) (H3.out.below (bel1 w3 (.cells #[] 3))) (fun h => by simp at h) rfl (by simp) (nil_range _)).mono ?_; rintro e w5 ⟨g5, c5, ts, rfl, hk5, rl5, b5⟩; have B5 := hide (bnext (S3.out.below (bel1 w3 (.cells #[] 3))).2.2.2 b5); have HS5 := hide (And.intro ((S3.out.below (bel1 w3 (.cells #[] 3))).below b5).1.2.1 ((S3.out.below (bel1 w3 (.cells #[] 3))).below b5).1.2.2); have RL5 := hide (rl5.le (S3.out.below (bel1 w3 (.cells #[] 3))).2.2.2.size))
          | (go_at_call 32; refine (rulesFrom_any (N : Int) v a (some ⟨go, 0, none⟩) cap co zs (famL v) hn4 hv HZR.out hfl.2 fam_range hn N [] 0 _ 0 _ S3.out.2.1 H3.out (fun h => by simp at h) rfl (by simp) (nil_range _)).mono ?_; rintro e w5 ⟨g5, c5, ts, rfl, hk5, rl5, b5⟩; have B5 := hide (bnext S3.out.2.2.2 b5); have HS5 := hide (And.intro (S3.out.below b5).1.2.1 (S3.out.below b5).1.2.2); have RL5 := hide (rl5.le S3.out.2.2.2.size)))
      all_goals
        go_wp2
        go_ret
        exact ⟨_, ts, rfl, by rw [HL.out, hk5, HSAME.out], RL5.out, B5.out⟩
    · have HV := hide (sfL_no (n := n) (zs := zs) (v := v) (by unfold sfB; rw [decide_eq_false hv, Bool.and_false]))
      have hd : decide (1 ≤ v ∧ v ≤ 2) = false := decide_eq_false hv
      go_enter Try.func8, Try.ntmps8
      go_wp2_with fail
      refine (validSpace_any _ _ _ _ _ S0.2.1 hn).mono ?_
      rintro e w1 ⟨rfl, hb⟩
      rw [hs]
      go_wp2_with (first
        | (go_at_call 31; refine (inRange_any _ _ _ _).mono ?_; rintro e w' ⟨rfl, rfl⟩; rw [hd])
        | fail)
      go_ret
      exact ⟨_, [], rfl, by rw [HV.out]; rfl, RL.nil _ _, (S0.below hb).2.2.2⟩
end Go.Proofs.Ytbmodiobgkmngaa
