/- LineOf of the program and of the model. -/
import Derived.Test.YtccemllgglfgkaaLinI
import Derived.Test.YtccemllgglfgkaaVotesW
namespace Go.Proofs.Ytccemllgglfgkaa
open Go.RowKit Go.Joins

/-- what LineOf answers -/
def liV (n : Int) (zs vs : List Int) : List Int := if vvB n zs vs = true then upL n.toNat vs vs.length [] else []
theorem liV_yes {n : Int} {zs vs : List Int} (h : vvB n zs vs = true) : liV n zs vs = upL n.toNat vs vs.length [] := if_pos h
theorem liV_no {n : Int} {zs vs : List Int} (h : vvB n zs vs = false) : liV n zs vs = [] := if_neg (by rw [h]; decide)
def liO (n : Int) (zs vs : List Int) : Bool := decide (0 < (liV n zs vs).length)
def GivesB (zs : List Int) (o : Bool) (w : World) (e : Ending) (w' : World) : Prop := ∃ v, e = .returned (.tuple #[v, .bool o]) ∧ Owns w' w.heap.size v zs ∧ Below w.heap.size w w'
theorem li_none {n : Int} {zs vs : List Int} {w W : World} (h : vvB n zs vs = false) (hb : Below w.heap.size w W) : GivesB (liV n zs vs) (liO n zs vs) w (.returned (.tuple #[.slice none 0 0, .bool false])) W := by
  unfold liO
  rw [liV_no h]
  exact ⟨_, rfl, World.ownsRow_nil _ _ _ _, hb⟩
theorem up_len (m : Nat) (vs : List Int) : ∀ (f : Nat) (hs : List Int), (upL m vs f hs).length ≤ hs.length + f
  | 0, hs => by
    unfold upL
    split
    · omega
    · simp
  | f + 1, hs => by
    have key : ∀ (g : Nat → List Int), (∀ x, (g x).length ≤ hs.length + (f + 1)) → ∀ n, (firstL g n).length ≤ hs.length + (f + 1) := fun g hg n => by
      induction n with
      | zero => simp [firstL]
      | succ n ih =>
        rw [firstL]
        split
        · exact hg n
        · exact ih
    rw [upL]
    refine key _ (fun x => ?_) _
    split
    · simp
    · have := up_len m vs f (hs ++ [(x : Int)])
      rw [List.length_append, List.length_singleton] at this
      omega
theorem liV_len (n : Int) (zs vs : List Int) : (liV n zs vs).length ≤ 5 := by
  unfold liV
  split
  · rename_i h
    have := up_len n.toNat vs vs.length []
    have h2 := (vv_of h).2.2
    simp only [List.length_nil] at this
    omega
  · simp
theorem votes_pow {n : Int} {zs vs : List Int} (h : vvB n zs vs = true) : ∀ v ∈ vs, 0 ≤ v ∧ v < 2 ^ n.toNat := by
  intro v hv
  obtain ⟨hV, hO⟩ := vv_of h
  obtain ⟨z, rfl, hz, _⟩ := zs_nat hV (hO.mem v hv)
  have e : ((2 ^ n.toNat : Nat) : Int) = (2 : Int) ^ n.toNat := by simp
  omega
set_option maxHeartbeats 4000000 in
theorem specLineOf_any (n : Int) (a l : Option Addr) (cap capl : Nat) (zs vs : List Int) (w : World) (hi : Ints w a zs) (hj : Ints w l vs) (hn : zs.length ≤ 1048576) (hm : vs.length ≤ 1048576) :
    Calls Try.prog 12 #[.agg #[.int .i64 n, .slice a zs.length cap], .slice l vs.length capl] w (GivesB (liV n zs vs) (liO n zs vs) w) := by
  have S0 := SV.new w n a zs cap l vs 28 hi hj
  clear hi hj
  by_cases hv : vsB n zs = false
  · have HN := hide (vvB_no (vs := vs) hv)
    go_enter Try.func12, Try.ntmps12
    go_wp2_with fail
    refine (validSpace_any _ _ _ _ _ S0.2.1 hn).mono ?_
    rintro e w1 ⟨rfl, hb⟩
    go_wp2
    go_ret2
    exact li_none HN.out (S0.below hb).2.2.2
  · have hv : vsB n zs = true := by simpa using hv
    have hV := hide (valid_of hv)
    have HVV := hide (vvB_yes (vs := vs) hv)
    by_cases hvo : votesB zs vs = false
    · have HN := hide (HVV.out.trans hvo)
      go_enter Try.func12, Try.ntmps12
      go_wp2_with fail
      refine (validSpace_any _ _ _ _ _ S0.2.1 hn).mono ?_
      rintro e w1 ⟨rfl, hb⟩
      have S1 := S0.below hb
      obtain ⟨⟨_, c0, c1⟩, _⟩ := S1.pair
      go_wp2_with fail
      refine (validVotes_any _ _ _ _ _ _ _ _ S1.2.1 S1.2.2.1 hn hm).mono ?_
      rintro e w2 ⟨rfl, hb2⟩
      go_wp2
      go_ret2
      exact li_none HN.out (S1.below hb2).2.2.2
    · have hvo : votesB zs vs = true := by simpa using hvo
      have hvv := HVV.out.trans hvo
      have HVO := hide (votes_of hvo)
      have HR := hide (votes_range hV.out HVO.out)
      have h5 : vs.length ≤ 5 := by have := HVO.out.2; omega
      obtain ⟨m, rfl⟩ := Int.eq_ofNat_of_zero_le (show 0 ≤ n from by have := hV.out.1; omega)
      have h4 : m ≤ 4 := by have := hV.out.1; omega
      have hli : liV (m : Int) zs vs = upL m vs vs.length [] := by rw [liV_yes hvv, Int.toNat_natCast]
      have HUP := hide (fun (w' : World) (b : Nat) (hi' : Ints w' l vs) => lineUp_any m vs a l zs.length cap capl h4 h5 HR.out vs.length [] w' b 0 0 hi' (fun h => by simp at h) (by simp) (fun h hh => by simp at hh))
      rw [← hli] at HUP
      have HLO : Hid (liO (m : Int) zs vs = decide (0 < (liV (m : Int) zs vs).length)) := rfl
      obtain ⟨L, hL⟩ : ∃ L, liV (m : Int) zs vs = L := ⟨_, rfl⟩
      rw [hL] at HUP HLO ⊢
      rw [HLO.out]
      clear hvv hli hL
      go_enter Try.func12, Try.ntmps12
      go_wp2_with fail
      refine (validSpace_any _ _ _ _ _ S0.2.1 hn).mono ?_
      rintro e w1 ⟨rfl, hb⟩
      have S1 := S0.below hb
      obtain ⟨⟨_, c0, c1⟩, _⟩ := S1.pair
      go_wp2_with fail
      refine (validVotes_any _ _ _ _ _ _ _ _ S1.2.1 S1.2.2.1 hn hm).mono ?_
      rintro e wo ⟨rfl, hb2⟩
      have SR := S1.below hb2
      clear S0 hb S1 hb2 c0 c1
      obtain ⟨⟨_, c0, c1⟩, _⟩ := SR.pair
      have SA := SR.below (bel1 wo (.cells #[] 3))
      go_wp2_with fail
      refine (HUP.out _ _ SA.2.2.1).mono ?_
      rintro e w5 ⟨v, rfl, ov, hb5⟩
      obtain ⟨av, cv, rfl, _, _⟩ := ov.form
      have OV := hide ov
      have S5 := hide (SA.below hb5)
      have hsz := hide SA.2.2.2.size
      clear ov hb5 SA c0 c1
      go_wp2
      go_ret2
      refine ⟨_, ?_, OV.out.le hsz.out, S5.out.2.2.2⟩
      by_cases h0 : 0 < L.length <;> simp [h0]
set_option maxHeartbeats 4000000 in
theorem implLineOf_any (n : Int) (a l : Option Addr) (cap capl : Nat) (zs vs : List Int) (w : World) (hi : Ints w a zs) (hj : Ints w l vs) (hn : zs.length ≤ 1048576) (hm : vs.length ≤ 1048576) :
    Calls Try.prog 15 #[.agg #[.int .i64 n, .slice a zs.length cap], .slice l vs.length capl] w (GivesB (liV n zs vs) (liO n zs vs) w) := by
  have S0 := SV.new w n a zs cap l vs 28 hi hj
  clear hi hj
  by_cases hv : vvB n zs vs = false
  · have HN := hide hv
    clear hv
    go_enter Try.func15, Try.ntmps15
    go_wp2_with fail
    refine (votes_was _ _ _ _ _ _ _ _ false S0.2.1 S0.2.2.1 hn hm HN.out).mono ?_
    rintro e w1 ⟨rfl, hb⟩
    go_wp2
    go_ret2
    exact li_none HN.out (S0.below hb).2.2.2
  · have hv : vvB n zs vs = true := by simpa using hv
    have hV := vv_of hv
    have hm4 : n.toNat ≤ 4 := by have := hV.1.1; omega
    have h5 : vs.length ≤ 5 := by have := hV.2.2; omega
    have hp : 0 < vs.length := by have := hV.2.2; omega
    have HVP := hide (votes_pow hv)
    have HV := hide hv
    have HLI : Hid (dnL vs vs.length [] 0 = liV n zs vs) := by unfold Hid; rw [liV_yes hv]; exact dn_up hm4 HVP.out _ _ _ (linv_nil vs)
    have HDN := hide (fun (w' : World) (hi' : ∀ W, Below w'.heap.size w' W → Ints W l vs) => lineFrom_any n.toNat vs l capl hm4 h5 hp HVP.out vs.length [] 0 w' w'.heap.size (.slice none 0 0) hi' (World.ownsRow_nil _ _ _ _) (Nat.le_refl _) (by simp) (fun h hh => by simp at hh) (by omega))
    rw [HLI.out] at HDN
    have HLO : Hid (liO n zs vs = decide (0 < (liV n zs vs).length)) := rfl
    obtain ⟨L, hL⟩ : ∃ L, liV n zs vs = L := ⟨_, rfl⟩
    rw [hL] at HDN HLO ⊢
    rw [HLO.out]
    clear hv hV hL HLI HVP
    go_enter Try.func15, Try.ntmps15
    go_wp2_with fail
    refine (votes_was _ _ _ _ _ _ _ _ true S0.2.1 S0.2.2.1 hn hm HV.out).mono ?_
    rintro e w1 ⟨rfl, hb⟩
    have S1 := S0.below hb
    clear S0 hb
    go_wp2_with fail
    refine (HDN.out w1 (fun W h => S1.2.2.1.below h)).mono ?_
    rintro e w5 ⟨r, rfl, ov, hnil, _, gg⟩
    have OV := hide ov
    have B5 := hide (S1.below ((Below.refl w1.heap.size w1).grown gg (Nat.le_refl _) (fun k e => by cases e)))
    have hsz := hide S1.2.2.2.size
    clear gg
    by_cases hLe : L = []
    · obtain rfl := hnil hLe
      clear ov hnil
      subst hLe
      go_wp2
      go_ret2
      exact ⟨_, rfl, OV.out.le hsz.out, B5.out.2.2.2⟩
    · obtain ⟨gr, cr, rfl, _, _⟩ := own_list ov (fun e => own_nonnil ov hLe e)
      have HL : Hid (0 < L.length) := List.length_pos_iff.2 hLe
      clear ov hnil hLe
      go_wp2
      go_ret2
      refine ⟨_, ?_, OV.out.le hsz.out, B5.out.2.2.2⟩
      have h0 := HL.out
      simp [h0]
end Go.Proofs.Ytccemllgglfgkaa
