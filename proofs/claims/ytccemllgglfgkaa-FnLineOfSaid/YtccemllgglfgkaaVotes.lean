/- Votes: slices.ContainsFunc with any test; ValidVotes in the model and in the program. -/
import Derived.Test.YtccemllgglfgkaaSV
import Derived.Test.YtccemllgglfgkaaHas
import Derived.Deep.RegionHeld3
import Derived.Outline
namespace Go.Proofs.Ytccemllgglfgkaa
open Go.RowKit Go.Joins

theorem any_true {p : Int → Bool} {zs : List Int} {k : Nat} (hk : k < zs.length) (h : p zs[k] = true) : zs.any p = true := List.any_eq_true.2 ⟨zs[k], mem_of_at hk, h⟩
theorem any_false {p : Int → Bool} {zs : List Int} (h : ∀ j, j < zs.length → p (zs.getD j 0) = false) : zs.any p = false := by
  rw [List.any_eq_false]
  intro x hx
  obtain ⟨j, hj, rfl⟩ := List.getElem_of_mem hx
  have := h j hj
  rw [getD_lt hj] at this
  simp [this]

/-- What slices.IndexFunc leaves, with a test p. -/
def IdxGPost (p : Int → Bool) (zs : List Int) (w : World) (e : Ending) (w' : World) : Prop :=
  ∃ r : Int, ((zs.any p = true ∧ 0 ≤ r) ∨ (zs.any p = false ∧ r = -1)) ∧ r ≤ 1048576 ∧ e = .returned (.int .i64 r) ∧ Below w.heap.size w w'

set_option maxHeartbeats 1000000 in
theorem indexFuncV_any (p : Int → Bool) (a : Option Addr) (cap g : Nat) (zs : List Int) (w : World) (hi : Ints w a zs) (hn : zs.length ≤ 1048576)
    (hf : ∀ (x : Int) (w' : World), x ∈ zs → Below w.heap.size w w' → Calls Try.prog 88 #[.int .i64 x, .pointer (some ⟨g, 0, none⟩)] w' fun e w'' => e = .returned (.bool (p x)) ∧ Below w'.heap.size w' w'') :
    Calls Try.prog 128 #[.slice a zs.length cap, .func (.func 88) #[] #[.pointer (some ⟨g, 0, none⟩)]] w (IdxGPost p zs w) := by
  have HF := hide hf
  clear hf
  go_enter Try.func128, Try.ntmps128
  go_wp2_with fail
  go_loopw [8] (fun i wr => ∃ k : Nat, k ≤ zs.length ∧ i = .int .i64 k ∧ (∀ j, j < k → p (zs.getD j 0) = false) ∧ Below w.heap.size w wr) (fun i _ => zs.length - (intOf i).toNat)
  case atStart => exact ⟨0, Nat.zero_le _, rfl, fun j hj => by omega, Below.refl _ _⟩
  case round =>
    obtain ⟨k, hk, rfl, hall, hb⟩ := hrel
    have HA := hide hall
    clear hall
    by_cases hlt : k < zs.length
    · obtain ⟨bb, off, rfl, hbl, hc⟩ := (hi.below hb) (by omega)
      have hck := hc k hlt
      rw [getD_lt hlt] at hck
      clear hc hi
      by_cases he : p zs[k] = true
      · have HF2 := hide (any_true hlt he)
        have HE := hide he
        clear he
        go_wp2_with fail
        refine (HF.out _ _ (mem_of_at hlt) hb).mono ?_
        rintro e w1 ⟨rfl, h1⟩
        have he := HE.out
        go_wp2
        go_ret
        exact ⟨k, .inl ⟨HF2.out, by omega⟩, by omega, rfl, bnext hb h1⟩
      · have he : p zs[k] = false := by simpa using he
        have HE := hide he
        clear he
        go_wp2_with fail
        refine (HF.out _ _ (mem_of_at hlt) hb).mono ?_
        rintro e w1 ⟨rfl, h1⟩
        have he := HE.out
        go_wp2
        go_roundw
        case rel => exact ⟨k + 1, by omega, by go_num, fun j hj => by
          rcases Nat.lt_or_ge j k with h | h
          · exact HA.out j h
          · obtain rfl : j = k := by omega
            rw [getD_lt hlt]
            exact HE.out, bnext hb h1⟩
        case measure => simp only [intOf]; omega
    · obtain rfl : k = zs.length := by omega
      go_wp2
      go_ret
      exact ⟨-1, .inr ⟨any_false HA.out, rfl⟩, by omega, rfl, hb⟩

set_option maxHeartbeats 1000000 in
theorem containsFuncV_any (p : Int → Bool) (a : Option Addr) (cap g : Nat) (zs : List Int) (w : World) (hi : Ints w a zs) (hn : zs.length ≤ 1048576)
    (hf : ∀ (x : Int) (w' : World), x ∈ zs → Below w.heap.size w w' → Calls Try.prog 88 #[.int .i64 x, .pointer (some ⟨g, 0, none⟩)] w' fun e w'' => e = .returned (.bool (p x)) ∧ Below w'.heap.size w' w'') :
    Calls Try.prog 87 #[.slice a zs.length cap, .func (.func 88) #[] #[.pointer (some ⟨g, 0, none⟩)]] w fun e w' => e = .returned (.bool (zs.any p)) ∧ Below w.heap.size w w' := by
  have HF := hide hf
  clear hf
  by_cases hm : zs.any p = true
  · have HM := hide hm
    clear hm
    go_enter Try.func87, Try.ntmps87
    go_wp2_with fail
    refine (indexFuncV_any p _ _ _ _ _ hi hn HF.out).mono ?_
    rintro e w' ⟨r, hr, hr2, rfl, hb⟩
    have h0 : 0 ≤ r := by
      rcases hr with ⟨_, h⟩ | ⟨h, _⟩
      · exact h
      · rw [HM.out] at h; cases h
    clear hr
    go_wp2
    go_ret
    exact ⟨ret_bool HM.out.symm, hb⟩
  · have hm : zs.any p = false := by simpa using hm
    have HM := hide hm
    clear hm
    go_enter Try.func87, Try.ntmps87
    go_wp2_with fail
    refine (indexFuncV_any p _ _ _ _ _ hi hn HF.out).mono ?_
    rintro e w' ⟨r, hr, hr2, rfl, hb⟩
    have h0 : r < 0 := by
      rcases hr with ⟨h, _⟩ | ⟨_, h⟩
      · rw [HM.out] at h; cases h
      · omega
    clear hr
    go_wp2
    go_ret
    exact ⟨ret_bool (by rw [HM.out]; simp; omega), hb⟩

/-- the votes are judgments of the space, one to five -/
def VotesOk (zs vs : List Int) : Prop := (∀ j, j < vs.length → vs.getD j 0 ∈ zs) ∧ (1 ≤ (vs.length : Int) ∧ (vs.length : Int) ≤ 5)
instance (zs vs : List Int) : Decidable (VotesOk zs vs) := by unfold VotesOk; infer_instance
def votesB (zs vs : List Int) : Bool := decide (VotesOk zs vs)
theorem votesB_true {zs vs : List Int} (h : VotesOk zs vs) : votesB zs vs = true := by simpa [votesB] using h
theorem votesB_false {zs vs : List Int} (h : ¬ VotesOk zs vs) : votesB zs vs = false := by simpa [votesB] using h
theorem votes_of {zs vs : List Int} (h : votesB zs vs = true) : VotesOk zs vs := by simpa [votesB] using h
theorem VotesOk.mem {zs vs : List Int} (h : VotesOk zs vs) : ∀ x ∈ vs, x ∈ zs := by
  intro x hx
  obtain ⟨j, hj, rfl⟩ := List.getElem_of_mem hx
  have := h.1 j hj
  rwa [getD_lt hj] at this
/-- what ValidVotes answers -/
def vvB (n : Int) (zs vs : List Int) : Bool := vsB n zs && votesB zs vs
theorem vvB_no {n : Int} {zs vs : List Int} (h : vsB n zs = false) : vvB n zs vs = false := by unfold vvB; rw [h]; rfl
theorem vvB_yes {n : Int} {zs vs : List Int} (h : vsB n zs = true) : vvB n zs vs = votesB zs vs := by unfold vvB; rw [h]; rfl
theorem vv_of {n : Int} {zs vs : List Int} (h : vvB n zs vs = true) : Valid n zs ∧ VotesOk zs vs := by
  simpa [vvB, vsB, votesB] using h

set_option maxHeartbeats 2000000 in
theorem validVotes_any (n : Int) (a l : Option Addr) (cap capl : Nat) (zs vs : List Int) (w : World) (hi : Ints w a zs) (hj : Ints w l vs) (hn : zs.length ≤ 1048576) (hm : vs.length ≤ 1048576) :
    Calls Try.prog 50 #[.agg #[.int .i64 n, .slice a zs.length cap], .slice l vs.length capl] w fun e w' => e = .returned (.bool (votesB zs vs)) ∧ Below w.heap.size w w' := by
  have S0 := SV.new w n a zs cap l vs 28 hi hj
  clear hi hj
  go_enter Try.func50, Try.ntmps50
  go_wp2_with fail
  go_loopw [5] (fun i wr => ∃ k : Nat, k ≤ vs.length ∧ i = .int .i64 k ∧ (∀ j, j < k → vs.getD j 0 ∈ zs) ∧ SV w n a zs cap l vs wr) (fun i _ => vs.length - (intOf i).toNat)
  case atStart => exact ⟨0, Nat.zero_le _, rfl, fun j hj => by omega, S0⟩
  case round =>
    clear S0
    obtain ⟨k, hk, rfl, hall, SR⟩ := hrel
    have HA := hide hall
    clear hall
    obtain ⟨⟨_, c0, c1⟩, _, il, _⟩ := SR.pair
    by_cases hlt : k < vs.length
    · obtain ⟨lb, lo, rfl, hlb, hlc⟩ := il (by omega)
      have hkk := hlc k hlt
      rw [getD_lt hlt] at hkk
      clear hlc il
      by_cases he : vs[k] ∈ zs
      · have hE := hasB_true he
        have HE := hide he
        clear he
        go_wp2
        go_region_held3 (fun w' => w'.cell? ⟨w.heap.size, 0, none⟩ = some (.int .i64 n) ∧ w'.cell? ⟨w.heap.size, 1, none⟩ = some (.slice a zs.length cap) ∧ w'.cell? ⟨lb, lo + k, none⟩ = some (.int .i64 vs[k]))
          (first
            | exact ⟨c0, c1, hkk⟩
            | exact ⟨S3.1.2.1, S3.1.2.2, ((bdrew hb3).cell (p := ⟨lb, lo + k, none⟩) hlb).trans hkk⟩
            | go_keep)
          (first
            | (go_at_call 91; refine (has_any _ _ _ _ _ _ SR.drew.2.1 hn).mono ?_; rintro e w3 ⟨rfl, hb3⟩; have S3 := SR.drew.below hb3)
            | fail)
        go_wp2
        go_roundw
        case rel => exact ⟨k + 1, by omega, by go_num, fun j hj => by
          rcases Nat.lt_or_ge j k with h | h
          · exact HA.out j h
          · obtain rfl : j = k := by omega
            rw [getD_lt hlt]
            exact HE.out, SR.drew.below hb3⟩
        case measure => simp only [intOf]; omega
      · have hE := hasB_false he
        have HN := hide (votesB_false (fun h : VotesOk zs vs => he (by have := h.1 k hlt; rwa [getD_lt hlt] at this)))
        clear he
        go_wp2
        go_region_held3 (fun w' => w'.cell? ⟨w.heap.size, 0, none⟩ = some (.int .i64 n) ∧ w'.cell? ⟨w.heap.size, 1, none⟩ = some (.slice a zs.length cap) ∧ w'.cell? ⟨lb, lo + k, none⟩ = some (.int .i64 vs[k]))
          (first
            | exact ⟨c0, c1, hkk⟩
            | exact ⟨S3.1.2.1, S3.1.2.2, ((bdrew hb3).cell (p := ⟨lb, lo + k, none⟩) hlb).trans hkk⟩
            | go_keep)
          (first
            | (go_at_call 91; refine (has_any _ _ _ _ _ _ SR.drew.2.1 hn).mono ?_; rintro e w3 ⟨rfl, hb3⟩; have S3 := SR.drew.below hb3)
            | fail)
        go_wp2
        go_ret
        exact ⟨ret_bool HN.out.symm, (SR.drew.below hb3).2.2.2⟩
    · obtain rfl : k = vs.length := by omega
      by_cases hlen : 1 ≤ (vs.length : Int) ∧ (vs.length : Int) ≤ 5
      · have HN := hide (votesB_true (zs := zs) ⟨HA.out, hlen⟩)
        have HL := hide hlen
        clear hlen
        go_wp2_with (go_at_call 56; refine (inRange_yes _ _ _ _ HL.out).mono ?_; rintro e w' ⟨rfl, rfl⟩)
        go_ret
        exact ⟨ret_bool HN.out.symm, SR.2.2.2⟩
      · have HN := hide (votesB_false (fun h : VotesOk zs vs => hlen h.2))
        have HL := hide hlen
        clear hlen
        go_wp2_with (go_at_call 56; refine (inRange_no _ _ _ _ HL.out).mono ?_; rintro e w' ⟨rfl, rfl⟩)
        go_ret
        exact ⟨ret_bool HN.out.symm, SR.2.2.2⟩


theorem validCount_any (k : Int) (w : World) : Calls Try.prog 86 #[.int .i64 k] w fun e w' => e = .returned (.bool (decide (1 ≤ k ∧ k ≤ 5))) ∧ w = w' := by
  by_cases h1 : 1 ≤ k <;> by_cases h2 : k ≤ 5
  all_goals
    go_enter Try.func86, Try.ntmps86
    go_wp2
    go_ret
    exact ⟨ret_bool (by simp [h1, h2]), rfl⟩
theorem validCount_yes (k : Int) (w : World) (h : 1 ≤ k ∧ k ≤ 5) : Calls Try.prog 86 #[.int .i64 k] w fun e w' => e = .returned (.bool true) ∧ w = w' :=
  (validCount_any k w).mono fun _ _ ⟨he, hw⟩ => ⟨by rw [he, decide_eq_true h], hw⟩
theorem validCount_no (k : Int) (w : World) (h : ¬ (1 ≤ k ∧ k ≤ 5)) : Calls Try.prog 86 #[.int .i64 k] w fun e w' => e = .returned (.bool false) ∧ w = w' :=
  (validCount_any k w).mono fun _ _ ⟨he, hw⟩ => ⟨by rw [he, decide_eq_false h], hw⟩

theorem votesClosure_any (n x : Int) (a : Option Addr) (cap g : Nat) (zs : List Int) (w : World) (hi : Ints w a zs) (hn : zs.length ≤ 1048576) (bx : Box w g n a zs.length cap) :
    Calls Try.prog 88 #[.int .i64 x, .pointer (some ⟨g, 0, none⟩)] w fun e w' => e = .returned (.bool (!hasB zs x)) ∧ Below w.heap.size w w' := by
  obtain ⟨_, c0, c1⟩ := bx
  go_enter Try.func88, Try.ntmps88
  go_wp2_with fail
  refine (contains_any _ _ _ _ _ hi hn).mono ?_
  rintro e w1 ⟨rfl, h1⟩
  go_wp2
  go_ret
  exact ⟨rfl, h1⟩

theorem any_not_has {zs vs : List Int} (h : ∀ j, j < vs.length → vs.getD j 0 ∈ zs) : (vs.any fun x => !hasB zs x) = false := any_false fun j hj => by rw [hasB_true (h j hj)]; rfl
theorem votes_any {zs vs : List Int} (hl : 1 ≤ (vs.length : Int) ∧ (vs.length : Int) ≤ 5) : votesB zs vs = !(vs.any fun x => !hasB zs x) := by
  by_cases h : ∀ j, j < vs.length → vs.getD j 0 ∈ zs
  · rw [votesB_true ⟨h, hl⟩, any_not_has h]; rfl
  · rw [votesB_false (fun hh : VotesOk zs vs => h hh.1)]
    cases ha : vs.any fun x => !hasB zs x
    · exfalso
      apply h
      intro j hj
      rw [List.any_eq_false] at ha
      have := ha _ (mem_of_at hj)
      rw [getD_lt hj]
      simpa [hasB] using this
    · rfl

set_option maxHeartbeats 1000000 in
theorem implValidVotes_any (n : Int) (a l : Option Addr) (cap capl : Nat) (zs vs : List Int) (w : World) (hi : Ints w a zs) (hj : Ints w l vs) (hn : zs.length ≤ 1048576) (hm : vs.length ≤ 1048576) :
    Calls Try.prog 46 #[.agg #[.int .i64 n, .slice a zs.length cap], .slice l vs.length capl] w fun e w' => e = .returned (.bool (vvB n zs vs)) ∧ Below w.heap.size w w' := by
  have S0 := SV.new w n a zs cap l vs 28 hi hj
  clear hi hj
  by_cases hv : vsB n zs = false
  · have HV := hide (vvB_no (vs := vs) hv)
    go_enter Try.func46, Try.ntmps46
    go_wp2_with fail
    refine (implValidSpace_any _ _ _ _ _ S0.2.1 hn).mono ?_
    rintro e w1 ⟨rfl, hb⟩
    go_wp2
    go_ret
    exact ⟨ret_bool HV.out.symm, (S0.below hb).2.2.2⟩
  · have hv : vsB n zs = true := by simpa using hv
    by_cases hlen : 1 ≤ (vs.length : Int) ∧ (vs.length : Int) ≤ 5
    · have HV := hide ((vvB_yes (vs := vs) hv).trans (votes_any hlen))
      have HL := hide hlen
      clear hlen
      go_enter Try.func46, Try.ntmps46
      go_wp2_with fail
      refine (implValidSpace_any _ _ _ _ _ S0.2.1 hn).mono ?_
      rintro e w1 ⟨rfl, hb⟩
      have S1 := S0.below hb
      have HS := hide S1
      clear S1
      go_wp2_with (go_at_call 86; refine (validCount_yes _ _ HL.out).mono ?_; rintro e w' ⟨rfl, rfl⟩)
      refine (containsFuncV_any (fun x => !hasB zs x) _ _ _ _ _ HS.out.2.2.1 hm (fun x w' _ hb' => votesClosure_any n _ a cap _ _ _ (HS.out.below hb').2.1 hn (HS.out.below hb').1)).mono ?_
      rintro e w2 ⟨rfl, hb2⟩
      go_wp2
      go_ret
      exact ⟨ret_bool HV.out.symm, (HS.out.below hb2).2.2.2⟩
    · have HV := hide ((vvB_yes (vs := vs) hv).trans (votesB_false (fun h : VotesOk zs vs => hlen h.2)))
      have HL := hide hlen
      clear hlen
      go_enter Try.func46, Try.ntmps46
      go_wp2_with fail
      refine (implValidSpace_any _ _ _ _ _ S0.2.1 hn).mono ?_
      rintro e w1 ⟨rfl, hb⟩
      go_wp2_with (go_at_call 86; refine (validCount_no _ _ HL.out).mono ?_; rintro e w' ⟨rfl, rfl⟩)
      go_ret
      exact ⟨ret_bool HV.out.symm, (S0.below hb).2.2.2⟩
end Go.Proofs.Ytccemllgglfgkaa
