/- Ballots: when they are valid, in the model and in the program; seats and names. -/
import Derived.Test.YthkikjidkehheaaLst
import Derived.Deep.RegionHeld3
import Derived.Outline
namespace Go.Proofs.Ythkikjidkehheaa
open Go.RowKit Go.Joins

/-- ballots about c names -/
def BalOk (c : Int) (bs : List Int) : Prop :=
  (1 ≤ c ∧ c ≤ 5) ∧ (1 ≤ (bs.length : Int) ∧ (bs.length : Int) ≤ 6) ∧ ∀ j, j < bs.length → 0 ≤ bs.getD j 0 ∧ bs.getD j 0 ≤ pw c - 1
instance (c : Int) (bs : List Int) : Decidable (BalOk c bs) := by unfold BalOk; infer_instance
def balB (c : Int) (bs : List Int) : Bool := decide (BalOk c bs)
theorem balB_true {c : Int} {bs : List Int} (h : BalOk c bs) : balB c bs = true := by simpa [balB] using h
theorem balB_false {c : Int} {bs : List Int} (h : ¬ BalOk c bs) : balB c bs = false := by simpa [balB] using h
theorem bal_of {c : Int} {bs : List Int} (h : balB c bs = true) : BalOk c bs := by simpa [balB] using h
theorem pw_le5 (n : Int) (h : n ≤ 5) : pw n ≤ 32 := by
  unfold pw
  have h1 : n.toNat ≤ 5 := by omega
  have : 2 ^ n.toNat ≤ 2 ^ 5 := Nat.pow_le_pow_right (by omega) h1
  omega
theorem bal_range {c : Int} {bs : List Int} (h : BalOk c bs) : ∀ x ∈ bs, 0 ≤ x ∧ x ≤ 31 := by
  intro x hx
  obtain ⟨j, hj, rfl⟩ := mem_getD_of hx
  have h1 := h.2.2 j hj
  have h2 := pw_le5 c h.1.2
  omega
theorem bal_mem {c : Int} {bs : List Int} (h : BalOk c bs) : ∀ x ∈ bs, 0 ≤ x ∧ x ≤ pw c - 1 := by
  intro x hx
  obtain ⟨j, hj, rfl⟩ := mem_getD_of hx
  exact h.2.2 j hj

set_option maxHeartbeats 1000000 in
theorem specBal_any (c : Int) (a : Option Addr) (cap : Nat) (bs : List Int) (w : World) (hi : Ints w a bs) (hn : bs.length ≤ 1048576) :
    Calls Try.prog 43 #[.int .i64 c, .slice a bs.length cap] w fun e w' => e = .returned (.bool (balB c bs)) ∧ Below w.heap.size w w' := by
  by_cases h1 : 1 ≤ c ∧ c ≤ 5
  · by_cases h2 : 1 ≤ (bs.length : Int) ∧ (bs.length : Int) ≤ 6
    · have H1 := hide h1
      have H2 := hide h2
      have hc5 : c ≤ 5 := h1.2
      have hc1 : 0 ≤ c := by omega
      have hb6 : bs.length ≤ 6 := by omega
      clear h1 h2
      go_enter Try.func43, Try.ntmps43
      go_wp2_with (first
        | (go_at_call 44; (with_reducible refine (inRange_yes c _ _ _ H1.out).mono ?_); rintro e w' ⟨rfl, rfl⟩)
        | (go_at_call 44; refine (inRange_yes _ _ _ _ H2.out).mono ?_; rintro e w' ⟨rfl, rfl⟩))
      go_loopw [5] (fun i wr => ∃ k : Nat, k ≤ bs.length ∧ i = .int .i64 k ∧ (∀ j, j < k → 0 ≤ bs.getD j 0 ∧ bs.getD j 0 ≤ pw c - 1) ∧ Below w.heap.size w wr) (fun i _ => bs.length - (intOf i).toNat)
      case atStart => exact ⟨0, Nat.zero_le _, rfl, fun j hj => by omega, Below.refl _ _⟩
      case round =>
        obtain ⟨k, hk, rfl, hall, hb⟩ := hrel
        have HA := hide hall
        clear hall
        by_cases hlt : k < bs.length
        · obtain ⟨bb, off, rfl, hbl, hc⟩ := (hi.below hb) (by omega)
          have hck := hc k hlt
          rw [getD_lt hlt] at hck
          have p1 := pw_pos c
          have p2 := pw_le5 c hc5
          have hw : IntKind.i64.wrap (pw c - 1) = pw c - 1 := IntWalk.i64_in _ (by omega)
          clear hc hi
          by_cases hr : 0 ≤ bs[k] ∧ bs[k] ≤ pw c - 1
          · have HR := hide hr
            clear hr
            go_wp2
            go_quiet ((first | (go_at_call 48; exact quiet_left (power_any _ _ (by omega) (by omega))) | (go_at_call 44; exact quiet_left (inRange_yes _ _ _ _ HR.out))))
            go_wp2
            go_roundw
            case rel => exact ⟨k + 1, by omega, by go_num, fun j hj => by
              rcases Nat.lt_or_ge j k with h | h
              · exact HA.out j h
              · obtain rfl : j = k := by omega
                rw [getD_lt hlt]
                exact HR.out, hb.trans ((belN _ _).mono hb.size)⟩
            case measure => simp only [intOf]; omega
          · have HF := hide (balB_false (fun h : BalOk c bs => hr (by have := h.2.2 k hlt; rwa [getD_lt hlt] at this)))
            have HR := hide hr
            clear hr
            go_wp2
            go_quiet ((first | (go_at_call 48; exact quiet_left (power_any _ _ (by omega) (by omega))) | (go_at_call 44; exact quiet_left (inRange_no _ _ _ _ HR.out))))
            go_wp2
            go_ret
            exact ⟨ret_bool HF.out.symm, hb.trans ((belN _ _).mono hb.size)⟩
        · obtain rfl : k = bs.length := by omega
          go_wp2
          go_ret
          exact ⟨ret_bool (balB_true ⟨H1.out, H2.out, HA.out⟩).symm, hb⟩
    · have HF := hide (balB_false (fun h : BalOk c bs => h2 h.2.1))
      have H1 := hide h1
      have H2 := hide h2
      clear h1 h2
      go_enter Try.func43, Try.ntmps43
      go_wp2_with (first
        | (go_at_call 44; (with_reducible refine (inRange_yes c _ _ _ H1.out).mono ?_); rintro e w' ⟨rfl, rfl⟩)
        | (go_at_call 44; refine (inRange_no _ _ _ _ H2.out).mono ?_; rintro e w' ⟨rfl, rfl⟩))
      go_ret
      exact ⟨ret_bool HF.out.symm, Below.refl _ _⟩
  · have HF := hide (balB_false (fun h : BalOk c bs => h1 h.1))
    have H1 := hide h1
    clear h1
    go_enter Try.func43, Try.ntmps43
    go_wp2_with (go_at_call 44; refine (inRange_no _ _ _ _ H1.out).mono ?_; rintro e w' ⟨rfl, rfl⟩)
    go_ret
    exact ⟨ret_bool HF.out.symm, Below.refl _ _⟩

theorem wrap_pow5 (n : Int) (h4 : n ≤ 6) : wrap64 (2 ^ n.toNat) = pw n := by
  have h1 := pw_pos n
  have h2 := pw_le6 n h4
  have e : (2 : Int) ^ n.toNat = pw n := by unfold pw; rw [Int.natCast_pow]; rfl
  rw [e]
  unfold wrap64
  omega
theorem validNames_any (c : Int) (w : World) : Calls Try.prog 49 #[.int .i64 c] w fun e w' => e = .returned (.bool (decide (1 ≤ c ∧ c ≤ 5))) ∧ w = w' := by
  by_cases h1 : 1 ≤ c <;> by_cases h2 : c ≤ 5
  all_goals
    go_enter Try.func49, Try.ntmps49
    go_wp2
    go_ret
    exact ⟨ret_bool (by simp [h1, h2]), rfl⟩
theorem validNames_yes (c : Int) (w : World) (h : 1 ≤ c ∧ c ≤ 5) : Calls Try.prog 49 #[.int .i64 c] w fun e w' => e = .returned (.bool true) ∧ w = w' :=
  (validNames_any c w).mono fun _ _ ⟨he, hw⟩ => ⟨by rw [he, decide_eq_true h], hw⟩
theorem validNames_no (c : Int) (w : World) (h : ¬ (1 ≤ c ∧ c ≤ 5)) : Calls Try.prog 49 #[.int .i64 c] w fun e w' => e = .returned (.bool false) ∧ w = w' :=
  (validNames_any c w).mono fun _ _ ⟨he, hw⟩ => ⟨by rw [he, decide_eq_false h], hw⟩
theorem validSeats_any (c k : Int) (w : World) : Calls Try.prog 26 #[.int .i64 c, .int .i64 k] w fun e w' => e = .returned (.bool (decide (1 ≤ k ∧ k ≤ c))) ∧ w = w' := by
  by_cases h1 : 1 ≤ k <;> by_cases h2 : k ≤ c
  all_goals
    go_enter Try.func26, Try.ntmps26
    go_wp2
    go_ret
    exact ⟨ret_bool (by simp [h1, h2]), rfl⟩
theorem validSeats_yes (c k : Int) (w : World) (h : 1 ≤ k ∧ k ≤ c) : Calls Try.prog 26 #[.int .i64 c, .int .i64 k] w fun e w' => e = .returned (.bool true) ∧ w = w' :=
  (validSeats_any c k w).mono fun _ _ ⟨he, hw⟩ => ⟨by rw [he, decide_eq_true h], hw⟩
theorem validSeats_no (c k : Int) (w : World) (h : ¬ (1 ≤ k ∧ k ≤ c)) : Calls Try.prog 26 #[.int .i64 c, .int .i64 k] w fun e w' => e = .returned (.bool false) ∧ w = w' :=
  (validSeats_any c k w).mono fun _ _ ⟨he, hw⟩ => ⟨by rw [he, decide_eq_false h], hw⟩
theorem areNames_any (c x : Int) (w : World) (h1 : 1 ≤ c) (h5 : c ≤ 5) : Calls Try.prog 52 #[.int .i64 c, .int .i64 x] w fun e w' => e = .returned (.bool (decide (0 ≤ x ∧ x ≤ pw c - 1))) ∧ w = w' := by
  have hp := wrap_pow5 c (by omega)
  have HP := hide hp
  have p1 := pw_pos c
  have p2 := pw_le5 c h5
  by_cases h0 : 0 ≤ x <;> by_cases h2 : x < pw c
  all_goals
    have H0 := hide h0
    have H2 := hide h2
    go_enter Try.func52, Try.ntmps52
    go_wp2
    go_ret
    exact ⟨ret_bool (by have := H0.out; have := H2.out; simp; omega), rfl⟩
theorem areNames_yes (c x : Int) (w : World) (h1 : 1 ≤ c) (h5 : c ≤ 5) (h : 0 ≤ x ∧ x ≤ pw c - 1) : Calls Try.prog 52 #[.int .i64 c, .int .i64 x] w fun e w' => e = .returned (.bool true) ∧ w = w' :=
  (areNames_any c x w h1 h5).mono fun _ _ ⟨he, hw⟩ => ⟨by rw [he, decide_eq_true h], hw⟩
theorem areNames_no (c x : Int) (w : World) (h1 : 1 ≤ c) (h5 : c ≤ 5) (h : ¬ (0 ≤ x ∧ x ≤ pw c - 1)) : Calls Try.prog 52 #[.int .i64 c, .int .i64 x] w fun e w' => e = .returned (.bool false) ∧ w = w' :=
  (areNames_any c x w h1 h5).mono fun _ _ ⟨he, hw⟩ => ⟨by rw [he, decide_eq_false h], hw⟩
/-- what is no sum of names -/
def notN (c x : Int) : Bool := !decide (0 ≤ x ∧ x ≤ pw c - 1)
theorem notN_no {c x : Int} (h : 0 ≤ x ∧ x ≤ pw c - 1) : notN c x = false := by unfold notN; rw [decide_eq_true h]; rfl
theorem balClosure_any (c x : Int) (g : Nat) (w : World) (h1 : 1 ≤ c) (h5 : c ≤ 5) (c0 : w.cell? ⟨g, 0, none⟩ = some (.int .i64 c)) :
    Calls Try.prog 51 #[.int .i64 x, .pointer (some ⟨g, 0, none⟩)] w fun e w' => e = .returned (.bool (notN c x)) ∧ Below w.heap.size w w' := by
  go_enter Try.func51, Try.ntmps51
  go_wp2_with (go_at_call 52; refine (areNames_any _ _ _ h1 h5).mono ?_; rintro e w' ⟨rfl, rfl⟩)
  go_ret
  exact ⟨ret_bool (by unfold notN; simp), Below.refl _ _⟩

/-- What slices.IndexFunc leaves, with a test p. -/
def IdxPostBal (p : Int → Bool) (zs : List Int) (w : World) (e : Ending) (w' : World) : Prop :=
  ∃ r : Int, ((zs.any p = true ∧ 0 ≤ r) ∨ (zs.any p = false ∧ r = -1)) ∧ r ≤ 1048576 ∧ e = .returned (.int .i64 r) ∧ Below w.heap.size w w'

set_option maxHeartbeats 1000000 in
theorem indexFuncBal_any (p : Int → Bool) (a : Option Addr) (cap : Nat) (g : Nat) (zs : List Int) (w : World) (hi : Ints w a zs) (hn : zs.length ≤ 1048576)
    (hf : ∀ (x : Int) (w' : World), x ∈ zs → Below w.heap.size w w' → Calls Try.prog 51 #[.int .i64 x, .pointer (some ⟨g, 0, none⟩)] w' fun e w'' => e = .returned (.bool (p x)) ∧ Below w'.heap.size w' w'') :
    Calls Try.prog 68 #[.slice a zs.length cap, .func (.func 51) #[] #[.pointer (some ⟨g, 0, none⟩)]] w (IdxPostBal p zs w) := by
  have HF := hide hf
  clear hf
  go_enter Try.func68, Try.ntmps68
  go_wp2_with fail
  go_loopw [8] (fun i wr => ∃ k : Nat, k ≤ zs.length ∧ i = .int .i64 k ∧ (∀ j, j < k → p (zs.getD j 0) = false) ∧ Below w.heap.size w wr) (fun i _ => zs.length - (intOf i).toNat)
  case atStart => exact ⟨0, Nat.zero_le _, rfl, fun j hj => by omega, Below.refl _ _⟩
  case round =>
    obtain ⟨k, hk, rfl, hall, hb⟩ := hrel
    have HA := hide hall
    clear hall
    by_cases hlt : k < zs.length
    · obtain ⟨bb, off, rfl, hbl, hc⟩ := (hi.below hb) (by omega)
      have hck := hc k hlt
      rw [getD_lt hlt] at hck
      clear hc hi
      by_cases he : p zs[k] = true
      · have HF2 := hide (any_true hlt he)
        have HE := hide he
        clear he
        go_wp2_with fail
        refine (HF.out _ _ (mem_of_at hlt) hb).mono ?_
        rintro e w1 ⟨rfl, h1⟩
        have he := HE.out
        go_wp2
        go_ret
        exact ⟨k, .inl ⟨HF2.out, by omega⟩, by omega, rfl, bnext hb h1⟩
      · have he : p zs[k] = false := by simpa using he
        have HE := hide he
        clear he
        go_wp2_with fail
        refine (HF.out _ _ (mem_of_at hlt) hb).mono ?_
        rintro e w1 ⟨rfl, h1⟩
        have he := HE.out
        go_wp2
        go_roundw
        case rel => exact ⟨k + 1, by omega, by go_num, fun j hj => by
          rcases Nat.lt_or_ge j k with h | h
          · exact HA.out j h
          · obtain rfl : j = k := by omega
            rw [getD_lt hlt]
            exact HE.out, bnext hb h1⟩
        case measure => simp only [intOf]; omega
    · obtain rfl : k = zs.length := by omega
      go_wp2
      go_ret
      exact ⟨-1, .inr ⟨any_false HA.out, rfl⟩, by omega, rfl, hb⟩

set_option maxHeartbeats 1000000 in
theorem containsFuncBal_any (p : Int → Bool) (a : Option Addr) (cap : Nat) (g : Nat) (zs : List Int) (w : World) (hi : Ints w a zs) (hn : zs.length ≤ 1048576)
    (hf : ∀ (x : Int) (w' : World), x ∈ zs → Below w.heap.size w w' → Calls Try.prog 51 #[.int .i64 x, .pointer (some ⟨g, 0, none⟩)] w' fun e w'' => e = .returned (.bool (p x)) ∧ Below w'.heap.size w' w'') :
    Calls Try.prog 50 #[.slice a zs.length cap, .func (.func 51) #[] #[.pointer (some ⟨g, 0, none⟩)]] w fun e w' => e = .returned (.bool (zs.any p)) ∧ Below w.heap.size w w' := by
  have HF := hide hf
  clear hf
  by_cases hm : zs.any p = true
  · have HM := hide hm
    clear hm
    go_enter Try.func50, Try.ntmps50
    go_wp2_with fail
    refine (indexFuncBal_any p _ _ _ _ _ hi hn HF.out).mono ?_
    rintro e w' ⟨r, hr, hr2, rfl, hb⟩
    have h0 : 0 ≤ r := by
      rcases hr with ⟨_, h⟩ | ⟨h, _⟩
      · exact h
      · rw [HM.out] at h; cases h
    clear hr
    go_wp2
    go_ret
    exact ⟨ret_bool HM.out.symm, hb⟩
  · have hm : zs.any p = false := by simpa using hm
    have HM := hide hm
    clear hm
    go_enter Try.func50, Try.ntmps50
    go_wp2_with fail
    refine (indexFuncBal_any p _ _ _ _ _ hi hn HF.out).mono ?_
    rintro e w' ⟨r, hr, hr2, rfl, hb⟩
    have h0 : r < 0 := by
      rcases hr with ⟨h, _⟩ | ⟨_, h⟩
      · rw [HM.out] at h; cases h
      · omega
    clear hr
    go_wp2
    go_ret
    exact ⟨ret_bool (by rw [HM.out]; simp; omega), hb⟩

theorem bal_any {c : Int} {bs : List Int} (h1 : 1 ≤ c ∧ c ≤ 5) (h2 : 1 ≤ (bs.length : Int) ∧ (bs.length : Int) ≤ 6) : balB c bs = !(bs.any (notN c)) := by
  by_cases h : ∀ j, j < bs.length → 0 ≤ bs.getD j 0 ∧ bs.getD j 0 ≤ pw c - 1
  · rw [balB_true ⟨h1, h2, h⟩, any_false fun j hj => notN_no (h j hj)]; rfl
  · rw [balB_false (fun hh : BalOk c bs => h hh.2.2)]
    cases ha : bs.any (notN c)
    · exfalso
      apply h
      intro j hj
      rw [List.any_eq_false] at ha
      have := ha _ (mem_of_at hj)
      rw [getD_lt hj]
      simpa [notN] using this
    · rfl

set_option maxHeartbeats 1000000 in
theorem implBal_any (c : Int) (a : Option Addr) (cap : Nat) (bs : List Int) (w : World) (hi : Ints w a bs) (hn : bs.length ≤ 1048576) :
    Calls Try.prog 25 #[.int .i64 c, .slice a bs.length cap] w fun e w' => e = .returned (.bool (balB c bs)) ∧ Below w.heap.size w w' := by
  have cb : (w.alloc (.cells #[.int .i64 c] 3)).cell? ⟨w.heap.size, 0, none⟩ = some (.int .i64 c) := by simp [go_sem]
  have CB := hide cb
  clear cb
  by_cases h1 : 1 ≤ c ∧ c ≤ 5
  · by_cases h2 : 1 ≤ (bs.length : Int) ∧ (bs.length : Int) ≤ 6
    · have HV := hide (bal_any h1 h2)
      have H1 := hide h1
      have h21 : 1 ≤ (bs.length : Int) := h2.1
      have h22 : (bs.length : Int) ≤ 6 := h2.2
      have g1 : decide (bs.length < 1) = false := by rw [decide_eq_false_iff_not]; omega
      have g2 : decide (6 < bs.length) = false := by rw [decide_eq_false_iff_not]; omega
      clear h1 h2
      go_enter Try.func25, Try.ntmps25
      go_wp2_with (go_at_call 49; refine (validNames_yes _ _ H1.out).mono ?_; rintro e w' ⟨rfl, rfl⟩)
      refine (containsFuncBal_any (notN c) _ _ _ _ _ (hi.below (bel1 w _)) hn (fun x w' _ hb' => balClosure_any c _ _ _ H1.out.1 H1.out.2 ((hb'.cell (p := ⟨w.heap.size, 0, none⟩) (by simp)).trans CB.out))).mono ?_
      rintro e w1 ⟨rfl, hb⟩
      go_wp2
      go_ret
      exact ⟨ret_bool HV.out.symm, bnext (bel1 w _) hb⟩
    · have HF := hide (balB_false (fun h : BalOk c bs => h2 h.2.1))
      have H1 := hide h1
      have H2 := hide h2
      clear h1 h2
      by_cases h21 : bs.length < 1
      · go_enter Try.func25, Try.ntmps25
        go_wp2_with (go_at_call 49; refine (validNames_yes _ _ H1.out).mono ?_; rintro e w' ⟨rfl, rfl⟩)
        go_ret
        exact ⟨ret_bool HF.out.symm, bel1 w _⟩
      · have h22 : 6 < bs.length := by have := H2.out; omega
        go_enter Try.func25, Try.ntmps25
        go_wp2_with (go_at_call 49; refine (validNames_yes _ _ H1.out).mono ?_; rintro e w' ⟨rfl, rfl⟩)
        go_ret
        exact ⟨ret_bool HF.out.symm, bel1 w _⟩
  · have HF := hide (balB_false (fun h : BalOk c bs => h1 h.1))
    have H1 := hide h1
    clear h1
    go_enter Try.func25, Try.ntmps25
    go_wp2_with (go_at_call 49; refine (validNames_no _ _ H1.out).mono ?_; rintro e w' ⟨rfl, rfl⟩)
    go_ret
    exact ⟨ret_bool HF.out.symm, bel1 w _⟩
def seatsB (c : Int) (bs : List Int) (k : Int) : Bool := balB c bs && decide (1 ≤ k ∧ k ≤ c)
theorem seatsB_no {c : Int} {bs : List Int} {k : Int} (h : balB c bs = false) : seatsB c bs k = false := by unfold seatsB; rw [h]; rfl
theorem seatsB_yes {c : Int} {bs : List Int} {k : Int} (h : balB c bs = true) : seatsB c bs k = decide (1 ≤ k ∧ k ≤ c) := by unfold seatsB; rw [h]; rfl
theorem seats_of {c : Int} {bs : List Int} {k : Int} (h : seatsB c bs k = true) : BalOk c bs ∧ 1 ≤ k ∧ k ≤ c := by
  unfold seatsB at h
  rw [Bool.and_eq_true, decide_eq_true_eq] at h
  exact ⟨bal_of h.1, h.2⟩
theorem specSeats_any (c k : Int) (a : Option Addr) (cap : Nat) (bs : List Int) (w : World) (hi : Ints w a bs) (hn : bs.length ≤ 1048576) :
    Calls Try.prog 23 #[.int .i64 c, .slice a bs.length cap, .int .i64 k] w fun e w' => e = .returned (.bool (seatsB c bs k)) ∧ Below w.heap.size w w' := by
  by_cases hv : balB c bs = true
  · have HV := hide hv
    go_enter Try.func23, Try.ntmps23
    go_wp2_with fail
    refine (specBal_any _ _ _ _ _ hi hn).mono ?_
    rintro e w1 ⟨rfl, hb⟩
    go_wp2_with (go_at_call 44; refine (inRange_any _ _ _ _).mono ?_; rintro e w' ⟨rfl, rfl⟩)
    go_ret
    exact ⟨ret_bool (by rw [seatsB_yes HV.out]; simp), hb⟩
  · have hv : balB c bs = false := by simpa using hv
    have HV := hide hv
    go_enter Try.func23, Try.ntmps23
    go_wp2_with fail
    refine (specBal_any _ _ _ _ _ hi hn).mono ?_
    rintro e w1 ⟨rfl, hb⟩
    go_wp2
    go_ret
    exact ⟨ret_bool (seatsB_no HV.out).symm, hb⟩
end Go.Proofs.Ythkikjidkehheaa
