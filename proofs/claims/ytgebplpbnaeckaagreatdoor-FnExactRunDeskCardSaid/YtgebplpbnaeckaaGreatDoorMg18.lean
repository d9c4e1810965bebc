/- Texts of this seat one behind the other: Votes, Sup, Want, WantS. Conditions: none. -/
import Derived.Test.YtgebplpbnaeckaaGreatDoorMg08
import Derived.Test.YtgebplpbnaeckaaGreatDoorMg07
import Derived.Test.YtgebplpbnaeckaaGreatDoorMg03
import Derived.Test.YtgebplpbnaeckaaGreatDoorMg11
import Derived.Deep.RegionHeld3
import Derived.Outline
import Derived.Deep.RegionWith
import Derived.RegionTactic
import Derived.BigRegion
import Derived.Handy
import Derived.Deep.DeepCutAuto

/- Votes: Votes: slices.ContainsFunc with any test; ValidVotes in the model and in the program. -/
namespace Go.Proofs.YtgebplpbnaeckaaGreatDoor
open Go.RowKit Go.Joins

theorem any_true {p : Int → Bool} {zs : List Int} {k : Nat} (hk : k < zs.length) (h : p zs[k] = true) : zs.any p = true := List.any_eq_true.2 ⟨zs[k], mem_of_at hk, h⟩
theorem any_false {p : Int → Bool} {zs : List Int} (h : ∀ j, j < zs.length → p (zs.getD j 0) = false) : zs.any p = false := by
  rw [List.any_eq_false]
  intro x hx
  obtain ⟨j, hj, rfl⟩ := List.getElem_of_mem hx
  have := h j hj
  rw [getD_lt hj] at this
  simp [this]

/-- What slices.IndexFunc leaves, with a test p. -/
def IdxGPost (p : Int → Bool) (zs : List Int) (w : World) (e : Ending) (w' : World) : Prop :=
  ∃ r : Int, ((zs.any p = true ∧ 0 ≤ r) ∨ (zs.any p = false ∧ r = -1)) ∧ r ≤ 1048576 ∧ e = .returned (.int .i64 r) ∧ Below w.heap.size w w'

set_option maxHeartbeats 1000000 in
theorem indexFuncV_any (p : Int → Bool) (a : Option Addr) (cap g : Nat) (zs : List Int) (w : World) (hi : Ints w a zs) (hn : zs.length ≤ 1048576)
    (hf : ∀ (x : Int) (w' : World), x ∈ zs → Below w.heap.size w w' → Calls Tryz.prog 133 #[.int .i64 x, .pointer (some ⟨g, 0, none⟩)] w' fun e w'' => e = .returned (.bool (p x)) ∧ Below w'.heap.size w' w'') :
    Calls Tryz.prog 156 #[.slice a zs.length cap, .func (.func 133) #[] #[.pointer (some ⟨g, 0, none⟩)]] w (IdxGPost p zs w) := by
  have HF := hide hf
  clear hf
  go_enter Tryz.func156, Tryz.ntmps156
  go_wp2_with fail
  go_loopw [8] (fun i wr => ∃ k : Nat, k ≤ zs.length ∧ i = .int .i64 k ∧ (∀ j, j < k → p (zs.getD j 0) = false) ∧ Below w.heap.size w wr) (fun i _ => zs.length - (intOf i).toNat)
  case atStart => exact ⟨0, Nat.zero_le _, rfl, fun j hj => by omega, Below.refl _ _⟩
  case round =>
    obtain ⟨k, hk, rfl, hall, hb⟩ := hrel
    have HA := hide hall
    clear hall
    by_cases hlt : k < zs.length
    · obtain ⟨bb, off, rfl, hbl, hc⟩ := (hi.below hb) (by omega)
      have hck := hc k hlt
      rw [getD_lt hlt] at hck
      clear hc hi
      by_cases he : p zs[k] = true
      · have HF2 := hide (any_true hlt he)
        have HE := hide he
        clear he
        go_wp2_with fail
        refine (HF.out _ _ (mem_of_at hlt) hb).mono ?_
        rintro e w1 ⟨rfl, h1⟩
        have he := HE.out
        go_wp2
        go_ret
        exact ⟨k, .inl ⟨HF2.out, by omega⟩, by omega, rfl, bnext hb h1⟩
      · have he : p zs[k] = false := by simpa using he
        have HE := hide he
        clear he
        go_wp2_with fail
        refine (HF.out _ _ (mem_of_at hlt) hb).mono ?_
        rintro e w1 ⟨rfl, h1⟩
        have he := HE.out
        go_wp2
        go_roundw
        case rel => exact ⟨k + 1, by omega, by go_num, fun j hj => by
          rcases Nat.lt_or_ge j k with h | h
          · exact HA.out j h
          · obtain rfl : j = k := by omega
            rw [getD_lt hlt]
            exact HE.out, bnext hb h1⟩
        case measure => simp only [intOf]; omega
    · obtain rfl : k = zs.length := by omega
      go_wp2
      go_ret
      exact ⟨-1, .inr ⟨any_false HA.out, rfl⟩, by omega, rfl, hb⟩

set_option maxHeartbeats 1000000 in
theorem containsFuncV_any (p : Int → Bool) (a : Option Addr) (cap g : Nat) (zs : List Int) (w : World) (hi : Ints w a zs) (hn : zs.length ≤ 1048576)
    (hf : ∀ (x : Int) (w' : World), x ∈ zs → Below w.heap.size w w' → Calls Tryz.prog 133 #[.int .i64 x, .pointer (some ⟨g, 0, none⟩)] w' fun e w'' => e = .returned (.bool (p x)) ∧ Below w'.heap.size w' w'') :
    Calls Tryz.prog 124 #[.slice a zs.length cap, .func (.func 133) #[] #[.pointer (some ⟨g, 0, none⟩)]] w fun e w' => e = .returned (.bool (zs.any p)) ∧ Below w.heap.size w w' := by
  have HF := hide hf
  clear hf
  by_cases hm : zs.any p = true
  · have HM := hide hm
    clear hm
    go_enter Tryz.func124, Tryz.ntmps124
    go_wp2_with fail
    refine (indexFuncV_any p _ _ _ _ _ hi hn HF.out).mono ?_
    rintro e w' ⟨r, hr, hr2, rfl, hb⟩
    have h0 : 0 ≤ r := by
      rcases hr with ⟨_, h⟩ | ⟨h, _⟩
      · exact h
      · rw [HM.out] at h; cases h
    clear hr
    go_wp2
    go_ret
    exact ⟨ret_bool HM.out.symm, hb⟩
  · have hm : zs.any p = false := by simpa using hm
    have HM := hide hm
    clear hm
    go_enter Tryz.func124, Tryz.ntmps124
    go_wp2_with fail
    refine (indexFuncV_any p _ _ _ _ _ hi hn HF.out).mono ?_
    rintro e w' ⟨r, hr, hr2, rfl, hb⟩
    have h0 : r < 0 := by
      rcases hr with ⟨h, _⟩ | ⟨_, h⟩
      · rw [HM.out] at h; cases h
      · omega
    clear hr
    go_wp2
    go_ret
    exact ⟨ret_bool (by rw [HM.out]; simp; omega), hb⟩

/-- the votes are judgments of the space, one to five -/
def VotesOk (zs vs : List Int) : Prop := (∀ j, j < vs.length → vs.getD j 0 ∈ zs) ∧ (1 ≤ (vs.length : Int) ∧ (vs.length : Int) ≤ 5)
instance (zs vs : List Int) : Decidable (VotesOk zs vs) := by unfold VotesOk; infer_instance
def votesB (zs vs : List Int) : Bool := decide (VotesOk zs vs)
theorem votesB_true {zs vs : List Int} (h : VotesOk zs vs) : votesB zs vs = true := by simpa [votesB] using h
theorem votesB_false {zs vs : List Int} (h : ¬ VotesOk zs vs) : votesB zs vs = false := by simpa [votesB] using h
theorem votes_of {zs vs : List Int} (h : votesB zs vs = true) : VotesOk zs vs := by simpa [votesB] using h
theorem VotesOk.mem {zs vs : List Int} (h : VotesOk zs vs) : ∀ x ∈ vs, x ∈ zs := by
  intro x hx
  obtain ⟨j, hj, rfl⟩ := List.getElem_of_mem hx
  have := h.1 j hj
  rwa [getD_lt hj] at this
/-- what ValidVotes answers -/
def vvB (n : Int) (zs vs : List Int) : Bool := vsB n zs && votesB zs vs
theorem vvB_no {n : Int} {zs vs : List Int} (h : vsB n zs = false) : vvB n zs vs = false := by unfold vvB; rw [h]; rfl
theorem vvB_yes {n : Int} {zs vs : List Int} (h : vsB n zs = true) : vvB n zs vs = votesB zs vs := by unfold vvB; rw [h]; rfl
theorem vv_of {n : Int} {zs vs : List Int} (h : vvB n zs vs = true) : Valid n zs ∧ VotesOk zs vs := by
  simpa [vvB, vsB, votesB] using h

set_option maxHeartbeats 2000000 in
theorem validVotes_any (n : Int) (a l : Option Addr) (cap capl : Nat) (zs vs : List Int) (w : World) (hi : Ints w a zs) (hj : Ints w l vs) (hn : zs.length ≤ 1048576) (hm : vs.length ≤ 1048576) :
    Calls Tryz.prog 19 #[.agg #[.int .i64 n, .slice a zs.length cap], .slice l vs.length capl] w fun e w' => e = .returned (.bool (votesB zs vs)) ∧ Below w.heap.size w w' := by
  have S0 := SV.new w n a zs cap l vs 37 hi hj
  clear hi hj
  go_enter Tryz.func19, Tryz.ntmps19
  go_wp2_with fail
  go_loopw [5] (fun i wr => ∃ k : Nat, k ≤ vs.length ∧ i = .int .i64 k ∧ (∀ j, j < k → vs.getD j 0 ∈ zs) ∧ SV w n a zs cap l vs wr) (fun i _ => vs.length - (intOf i).toNat)
  case atStart => exact ⟨0, Nat.zero_le _, rfl, fun j hj => by omega, S0⟩
  case round =>
    clear S0
    obtain ⟨k, hk, rfl, hall, SR⟩ := hrel
    have HA := hide hall
    clear hall
    obtain ⟨⟨_, c0, c1⟩, _, il, _⟩ := SR.pair
    by_cases hlt : k < vs.length
    · obtain ⟨lb, lo, rfl, hlb, hlc⟩ := il (by omega)
      have hkk := hlc k hlt
      rw [getD_lt hlt] at hkk
      clear hlc il
      by_cases he : vs[k] ∈ zs
      · have hE := hasB_true he
        have HE := hide he
        clear he
        go_wp2
        go_region_held3 (fun w' => w'.cell? ⟨w.heap.size, 0, none⟩ = some (.int .i64 n) ∧ w'.cell? ⟨w.heap.size, 1, none⟩ = some (.slice a zs.length cap) ∧ w'.cell? ⟨lb, lo + k, none⟩ = some (.int .i64 vs[k]))
          (first
            | exact ⟨c0, c1, hkk⟩
            | exact ⟨S3.1.2.1, S3.1.2.2, ((bdrew hb3).cell (p := ⟨lb, lo + k, none⟩) hlb).trans hkk⟩
            | go_keep)
          (first
            | (go_at_call 29; refine (has_any _ _ _ _ _ _ SR.drew.2.1 hn).mono ?_; rintro e w3 ⟨rfl, hb3⟩; have S3 := SR.drew.below hb3)
            | fail)
        go_wp2
        go_roundw
        case rel => exact ⟨k + 1, by omega, by go_num, fun j hj => by
          rcases Nat.lt_or_ge j k with h | h
          · exact HA.out j h
          · obtain rfl : j = k := by omega
            rw [getD_lt hlt]
            exact HE.out, SR.drew.below hb3⟩
        case measure => simp only [intOf]; omega
      · have hE := hasB_false he
        have HN := hide (votesB_false (fun h : VotesOk zs vs => he (by have := h.1 k hlt; rwa [getD_lt hlt] at this)))
        clear he
        go_wp2
        go_region_held3 (fun w' => w'.cell? ⟨w.heap.size, 0, none⟩ = some (.int .i64 n) ∧ w'.cell? ⟨w.heap.size, 1, none⟩ = some (.slice a zs.length cap) ∧ w'.cell? ⟨lb, lo + k, none⟩ = some (.int .i64 vs[k]))
          (first
            | exact ⟨c0, c1, hkk⟩
            | exact ⟨S3.1.2.1, S3.1.2.2, ((bdrew hb3).cell (p := ⟨lb, lo + k, none⟩) hlb).trans hkk⟩
            | go_keep)
          (first
            | (go_at_call 29; refine (has_any _ _ _ _ _ _ SR.drew.2.1 hn).mono ?_; rintro e w3 ⟨rfl, hb3⟩; have S3 := SR.drew.below hb3)
            | fail)
        go_wp2
        go_ret
        exact ⟨ret_bool HN.out.symm, (SR.drew.below hb3).2.2.2⟩
    · obtain rfl : k = vs.length := by omega
      by_cases hlen : 1 ≤ (vs.length : Int) ∧ (vs.length : Int) ≤ 5
      · have HN := hide (votesB_true (zs := zs) ⟨HA.out, hlen⟩)
        have HL := hide hlen
        clear hlen
        go_wp2_with (go_at_call 30; refine (inRange_yes _ _ _ _ HL.out).mono ?_; rintro e w' ⟨rfl, rfl⟩)
        go_ret
        exact ⟨ret_bool HN.out.symm, SR.2.2.2⟩
      · have HN := hide (votesB_false (fun h : VotesOk zs vs => hlen h.2))
        have HL := hide hlen
        clear hlen
        go_wp2_with (go_at_call 30; refine (inRange_no _ _ _ _ HL.out).mono ?_; rintro e w' ⟨rfl, rfl⟩)
        go_ret
        exact ⟨ret_bool HN.out.symm, SR.2.2.2⟩


theorem validCount_any (k : Int) (w : World) : Calls Tryz.prog 132 #[.int .i64 k] w fun e w' => e = .returned (.bool (decide (1 ≤ k ∧ k ≤ 5))) ∧ w = w' := by
  by_cases h1 : 1 ≤ k <;> by_cases h2 : k ≤ 5
  all_goals
    go_enter Tryz.func132, Tryz.ntmps132
    go_wp2
    go_ret
    exact ⟨ret_bool (by simp [h1, h2]), rfl⟩
theorem validCount_yes (k : Int) (w : World) (h : 1 ≤ k ∧ k ≤ 5) : Calls Tryz.prog 132 #[.int .i64 k] w fun e w' => e = .returned (.bool true) ∧ w = w' :=
  (validCount_any k w).mono fun _ _ ⟨he, hw⟩ => ⟨by rw [he, decide_eq_true h], hw⟩
theorem validCount_no (k : Int) (w : World) (h : ¬ (1 ≤ k ∧ k ≤ 5)) : Calls Tryz.prog 132 #[.int .i64 k] w fun e w' => e = .returned (.bool false) ∧ w = w' :=
  (validCount_any k w).mono fun _ _ ⟨he, hw⟩ => ⟨by rw [he, decide_eq_false h], hw⟩

theorem votesClosure_any (n x : Int) (a : Option Addr) (cap g : Nat) (zs : List Int) (w : World) (hi : Ints w a zs) (hn : zs.length ≤ 1048576) (bx : Box w g n a zs.length cap) :
    Calls Tryz.prog 133 #[.int .i64 x, .pointer (some ⟨g, 0, none⟩)] w fun e w' => e = .returned (.bool (!hasB zs x)) ∧ Below w.heap.size w w' := by
  obtain ⟨_, c0, c1⟩ := bx
  go_enter Tryz.func133, Tryz.ntmps133
  go_wp2_with fail
  refine (contains_any _ _ _ _ _ hi hn).mono ?_
  rintro e w1 ⟨rfl, h1⟩
  go_wp2
  go_ret
  exact ⟨rfl, h1⟩

theorem any_not_has {zs vs : List Int} (h : ∀ j, j < vs.length → vs.getD j 0 ∈ zs) : (vs.any fun x => !hasB zs x) = false := any_false fun j hj => by rw [hasB_true (h j hj)]; rfl
theorem votes_any {zs vs : List Int} (hl : 1 ≤ (vs.length : Int) ∧ (vs.length : Int) ≤ 5) : votesB zs vs = !(vs.any fun x => !hasB zs x) := by
  by_cases h : ∀ j, j < vs.length → vs.getD j 0 ∈ zs
  · rw [votesB_true ⟨h, hl⟩, any_not_has h]; rfl
  · rw [votesB_false (fun hh : VotesOk zs vs => h hh.1)]
    cases ha : vs.any fun x => !hasB zs x
    · exfalso
      apply h
      intro j hj
      rw [List.any_eq_false] at ha
      have := ha _ (mem_of_at hj)
      rw [getD_lt hj]
      simpa [hasB] using this
    · rfl

set_option maxHeartbeats 1000000 in
theorem implValidVotes_any (n : Int) (a l : Option Addr) (cap capl : Nat) (zs vs : List Int) (w : World) (hi : Ints w a zs) (hj : Ints w l vs) (hn : zs.length ≤ 1048576) (hm : vs.length ≤ 1048576) :
    Calls Tryz.prog 107 #[.agg #[.int .i64 n, .slice a zs.length cap], .slice l vs.length capl] w fun e w' => e = .returned (.bool (vvB n zs vs)) ∧ Below w.heap.size w w' := by
  have S0 := SV.new w n a zs cap l vs 37 hi hj
  clear hi hj
  by_cases hv : vsB n zs = false
  · have HV := hide (vvB_no (vs := vs) hv)
    go_enter Tryz.func107, Tryz.ntmps107
    go_wp2_with fail
    refine (implValidSpace_any _ _ _ _ _ S0.2.1 hn).mono ?_
    rintro e w1 ⟨rfl, hb⟩
    go_wp2
    go_ret
    exact ⟨ret_bool HV.out.symm, (S0.below hb).2.2.2⟩
  · have hv : vsB n zs = true := by simpa using hv
    by_cases hlen : 1 ≤ (vs.length : Int) ∧ (vs.length : Int) ≤ 5
    · have HV := hide ((vvB_yes (vs := vs) hv).trans (votes_any hlen))
      have HL := hide hlen
      clear hlen
      go_enter Tryz.func107, Tryz.ntmps107
      go_wp2_with fail
      refine (implValidSpace_any _ _ _ _ _ S0.2.1 hn).mono ?_
      rintro e w1 ⟨rfl, hb⟩
      have S1 := S0.below hb
      have HS := hide S1
      clear S1
      go_wp2_with (go_at_call 132; refine (validCount_yes _ _ HL.out).mono ?_; rintro e w' ⟨rfl, rfl⟩)
      refine (containsFuncV_any (fun x => !hasB zs x) _ _ _ _ _ HS.out.2.2.1 hm (fun x w' _ hb' => votesClosure_any n _ a cap _ _ _ (HS.out.below hb').2.1 hn (HS.out.below hb').1)).mono ?_
      rintro e w2 ⟨rfl, hb2⟩
      go_wp2
      go_ret
      exact ⟨ret_bool HV.out.symm, (HS.out.below hb2).2.2.2⟩
    · have HV := hide ((vvB_yes (vs := vs) hv).trans (votesB_false (fun h : VotesOk zs vs => hlen h.2)))
      have HL := hide hlen
      clear hlen
      go_enter Tryz.func107, Tryz.ntmps107
      go_wp2_with fail
      refine (implValidSpace_any _ _ _ _ _ S0.2.1 hn).mono ?_
      rintro e w1 ⟨rfl, hb⟩
      go_wp2_with (go_at_call 132; refine (validCount_no _ _ HL.out).mono ?_; rintro e w' ⟨rfl, rfl⟩)
      go_ret
      exact ⟨ret_bool HV.out.symm, (S0.below hb).2.2.2⟩
end Go.Proofs.YtgebplpbnaeckaaGreatDoor

/- Sup: Supports: an answer of a judgment, how many votes answer 1; SupportOf in the model and in the program. -/
namespace Go.Proofs.YtgebplpbnaeckaaGreatDoor
open Go.RowKit Go.Joins

/-- how many of the first k votes answer 1 -/
def supK (vs : List Int) (j : Nat) : Nat → Nat
  | 0 => 0
  | k + 1 => supK vs j k + bitN (vs.getD k 0).toNat j
theorem supK_le (vs : List Int) (j : Nat) : ∀ k, supK vs j k ≤ k
  | 0 => Nat.le_refl _
  | k + 1 => by have := supK_le vs j k; have := bitN_le (vs.getD k 0).toNat j; unfold supK; omega
def supN (vs : List Int) (j : Nat) : Nat := supK vs j vs.length
theorem supN_le (vs : List Int) (j : Nat) : supN vs j ≤ vs.length := supK_le _ _ _
/-- the supports of the first m issues by the first k votes -/
def supKL (m : Nat) (vs : List Int) (k : Nat) : List Int := (List.range m).map fun j => (supK vs j k : Int)
def supL (m : Nat) (vs : List Int) : List Int := supKL m vs vs.length
theorem supKL_length (m : Nat) (vs : List Int) (k : Nat) : (supKL m vs k).length = m := by simp [supKL]
theorem supL_length (m : Nat) (vs : List Int) : (supL m vs).length = m := supKL_length _ _ _
theorem supKL_getD (m : Nat) (vs : List Int) (k j : Nat) (h : j < m) : (supKL m vs k).getD j 0 = (supK vs j k : Int) := by
  simp [supKL, List.getD_eq_getElem?_getD, h]
theorem supL_succ (m : Nat) (vs : List Int) : supL (m + 1) vs = supL m vs ++ [(supN vs m : Int)] := by
  unfold supL supKL
  rw [List.range_succ, List.map_append]
  rfl

theorem support_any (l : Option Addr) (capl : Nat) (vs : List Int) (j : Nat) (w : World) (hi : Ints w l vs) (hm : vs.length ≤ 1048576) (hr : ∀ x ∈ vs, 0 ≤ x ∧ x ≤ 15) (hj : j ≤ 4) :
    Calls Tryz.prog 64 #[.slice l vs.length capl, .int .i64 j] w fun e w' => e = .returned (.int .i64 (supN vs j : Nat)) ∧ w = w' := by
  have HR := hide hr
  have HJ := hide hj
  clear hr hj
  go_enter Tryz.func64, Tryz.ntmps64
  go_wp2_with fail
  go_loop [5, 6] (fun s i => ∃ k : Nat, k ≤ vs.length ∧ i = .int .i64 k ∧ s = .int .i64 (supK vs j k : Nat)) (fun _ i => vs.length - (intOf i).toNat)
  case atStart => exact ⟨0, Nat.zero_le _, rfl, rfl⟩
  case round =>
    obtain ⟨k, hk, rfl, rfl⟩ := hrel
    have hsk := supK_le vs j k
    by_cases hlt : k < vs.length
    · obtain ⟨b, off, rfl, hbl, hc⟩ := hi (by omega)
      have hck := hc k hlt
      rw [getD_lt hlt] at hck
      have hb1 := bitN_le vs[k].toNat j
      have hst := hide (show supK vs j (k + 1) = supK vs j k + bitN vs[k].toNat j from by rw [supK, getD_lt hlt])
      clear hc hi
      go_wp2_with (go_at_call 46; refine (bitI_any _ _ _ (HR.out _ (mem_of_at hlt)) HJ.out).mono ?_; rintro e w' ⟨rfl, rfl⟩)
      go_round
      case rel => exact ⟨k + 1, by omega, by go_num, by rw [hst.out]; go_num⟩
      case measure => simp only [intOf]; omega
    · obtain rfl : k = vs.length := by omega
      go_wp2
      go_ret
      exact ⟨rfl, rfl⟩

/-- what SupportOf answers -/
def supA (n : Int) (zs vs : List Int) : List Int := if vvB n zs vs = true then supL n.toNat vs else []
theorem supA_yes {n : Int} {zs vs : List Int} (h : vvB n zs vs = true) : supA n zs vs = supL n.toNat vs := if_pos h
theorem supA_no {n : Int} {zs vs : List Int} (h : vvB n zs vs = false) : supA n zs vs = [] := if_neg (by rw [h]; decide)
theorem supA_len (n : Int) (zs vs : List Int) : (supA n zs vs).length ≤ 1048576 := by
  unfold supA
  split
  · rename_i h
    have := (vv_of h).1.1
    rw [supL_length]; omega
  · simp
theorem votes_range {n : Int} {zs vs : List Int} (h : Valid n zs) (hv : VotesOk zs vs) : ∀ x ∈ vs, 0 ≤ x ∧ x ≤ 15 := fun x hx => valid_range h x (hv.mem x hx)


/-- the supports with one vote more at the first j issues -/
def supMix (m : Nat) (vs : List Int) (k j : Nat) : List Int := (List.range m).map fun t => if t < j then (supK vs t (k + 1) : Int) else (supK vs t k : Int)
theorem supMix_zero (m : Nat) (vs : List Int) (k : Nat) : supMix m vs k 0 = supKL m vs k := by
  unfold supMix supKL
  refine List.map_congr_left fun t _ => ?_
  rw [if_neg (by omega)]
theorem supMix_all (m : Nat) (vs : List Int) (k : Nat) : supMix m vs k m = supKL m vs (k + 1) := by
  unfold supMix supKL
  refine List.map_congr_left fun t ht => ?_
  rw [if_pos (by simpa using ht)]
theorem supMix_length (m : Nat) (vs : List Int) (k j : Nat) : (supMix m vs k j).length = m := by simp [supMix]
theorem supMix_at (m : Nat) (vs : List Int) (k j : Nat) (h : j < m) : (supMix m vs k j)[j]'(by rw [supMix_length]; exact h) = (supK vs j k : Int) := by
  simp [supMix]
theorem supMix_set (m : Nat) (vs : List Int) (k j : Nat) (h : j < m) : (supMix m vs k j).set j (supK vs j (k + 1) : Int) = supMix m vs k (j + 1) := by
  refine ints_ext (by simp [supMix]) fun t ht => ?_
  have ht' : t < m := by simpa [supMix] using ht
  rw [List.getD_eq_getElem?_getD, List.getD_eq_getElem?_getD]
  by_cases e : j = t
  · subst e
    rw [List.getElem?_set_self (by rw [supMix_length]; exact h)]
    simp [supMix, ht']
  · rw [List.getElem?_set_ne e]
    simp only [supMix, List.getElem?_map, List.getElem?_range ht', Option.map_some, Option.getD_some]
    by_cases h1 : t < j
    · rw [if_pos h1, if_pos (by omega)]
    · rw [if_neg h1, if_neg (by omega)]
theorem supKL_zero (m : Nat) (vs : List Int) : supKL m vs 0 = List.replicate m 0 := by
  unfold supKL
  rw [List.eq_replicate_iff]
  refine ⟨by simp, fun b hb => ?_⟩
  simp [supK] at hb
  exact hb.2.symm

theorem shr_bitU (x : Int) (j : Nat) (hx : 0 ≤ x ∧ x ≤ 15) (hj : j ≤ 4) : bits .and .i64 (x / 2 ^ j) 1 = (bitN x.toNat j : Nat) := by
  obtain ⟨y, rfl⟩ := Int.eq_ofNat_of_zero_le hx.1
  have h : ∀ y : Fin 16, ∀ j : Fin 5, bits .and .i64 (((y.val : Nat) : Int) / 2 ^ j.val) 1 = ((bitN y.val j.val : Nat) : Int) := by decide +kernel
  exact h ⟨y, by omega⟩ ⟨j, by omega⟩

set_option maxHeartbeats 2000000 in
theorem implSupportOf_any (n : Int) (a l : Option Addr) (cap capl : Nat) (zs vs : List Int) (w : World) (hi : Ints w a zs) (hj : Ints w l vs) (hn : zs.length ≤ 1048576) (hm : vs.length ≤ 1048576) :
    Calls Tryz.prog 113 #[.agg #[.int .i64 n, .slice a zs.length cap], .slice l vs.length capl] w (Gives (supA n zs vs) w) := by
  obtain ⟨i0, hi0, hz0, hz1, hz2⟩ := info_parts info_int
  have S0 := SV.new w n a zs cap l vs 37 hi hj
  clear hi hj
  by_cases hv : vvB n zs vs = false
  · have HN := hide (supA_no hv)
    go_enter Tryz.func113, Tryz.ntmps113
    go_wp2_with fail
    refine (implValidVotes_any _ _ _ _ _ _ _ _ S0.2.1 S0.2.2.1 hn hm).mono ?_
    rintro e w1 ⟨rfl, hb⟩
    go_wp2
    go_ret
    exact gives_nil HN.out (S0.below hb).2.2.2
  · have hv : vvB n zs vs = true := by simpa using hv
    have HN := hide (supA_yes hv)
    have hV := hide (vv_of hv)
    have HR := hide (votes_range hV.out.1 hV.out.2)
    obtain ⟨m, rfl⟩ := Int.eq_ofNat_of_zero_le (show 0 ≤ n from by have := hV.out.1.1; omega)
    have h4 : m ≤ 4 := by have := hV.out.1.1; omega
    have h5 : vs.length ≤ 5 := by have := hV.out.2.2; omega
    go_enter Tryz.func113, Tryz.ntmps113
    go_wp2_with fail
    refine (implValidVotes_any _ _ _ _ _ _ _ _ S0.2.1 S0.2.2.1 hn hm).mono ?_
    rintro e wo ⟨rfl, hb⟩
    have SR := S0.below hb
    clear S0 hb
    obtain ⟨⟨_, c0, c1⟩, _⟩ := SR.pair
    go_wp2_with (at_make; refine wpList_make_full _ rfl _ _ 35 rfl wo.heap.size 3 i0 (.int .i64 0) 1 Tryz.underlying35 hi0 hz0 hz1 _ _ _ _ m rfl rfl (by omega) (by omega) ?b2 ?b3 (Nat.le_refl _) ?_)
    case b2 => rw [hz2]; omega
    case b3 => unfold maxLen; omega
    intro w0 hown0 hgrow0
    rw [madeInts] at hown0
    have hb0 : Below wo.heap.size wo w0 := (Below.refl _ _).grown hgrow0 (Nat.le_refl _) (fun k h => by cases h)
    clear hgrow0 c0 c1
    go_wp2
    go_loopw [18] (fun i wr => ∃ k : Nat, k ≤ vs.length ∧ i = .int .i64 k ∧ wr.ownsRow wo.heap.size 3 1 (.slice (some ⟨wo.heap.size, 0, none⟩) m m) m ((supKL m vs k).map (Value.int .i64)) ∧ Below wo.heap.size wo wr) (fun i _ => vs.length - (intOf i).toNat)
    case atStart => exact ⟨0, Nat.zero_le _, rfl, by rw [supKL_zero]; exact hown0, hb0⟩
    case round =>
      clear hown0 hb0
      obtain ⟨k, hk, rfl, hown, BR⟩ := hrel
      obtain ⟨⟨_, c0, c1⟩, _, il, _⟩ := (SR.below BR).pair
      by_cases hlt : k < vs.length
      · obtain ⟨lb, lo, rfl, hlb, hlc⟩ := il (by omega)
        have hkk := hlc k hlt
        rw [getD_lt hlt] at hkk
        have rK := hide (HR.out _ (mem_of_at hlt))
        clear hlc il
        go_wp2
        clear hkk c0 c1
        go_loopw [24] (fun i wq => ∃ j : Nat, j ≤ m ∧ i = .int .i64 j ∧ wq.ownsRow wo.heap.size 3 1 (.slice (some ⟨wo.heap.size, 0, none⟩) m m) m ((supMix m vs k j).map (Value.int .i64)) ∧ Below wo.heap.size wo wq) (fun i _ => m - (intOf i).toNat)
        case atStart => exact ⟨0, Nat.zero_le _, rfl, by rw [supMix_zero]; exact hown, BR⟩
        case round =>
          clear hown BR
          obtain ⟨j, hj, rfl, hown, BR⟩ := hrel
          by_cases hjt : j < m
          · have hst := hown.cellAt j (by omega)
            rw [List.getElem?_map, List.getElem?_eq_getElem (by rw [supMix_length]; exact hjt), supMix_at m vs k j hjt] at hst
            have hfz := hown.frozenAt j
            have hbit := shr_bitU vs[k] j rK.out (by omega)
            have hb1 := bitN_le vs[k].toNat j
            have hsk := supK_le vs j k
            have HS := hide (show supK vs j (k + 1) = supK vs j k + bitN vs[k].toNat j from by rw [supK, getD_lt hlt])
            have HM := hide (supMix_set m vs k j hjt)
            go_wp2
            go_region
            all_goals go_wp2
            all_goals
              go_roundw
              case rel => exact ⟨j + 1, by omega, by go_num, by rw [← HM.out, HS.out, List.map_set]; exact (hown.stored j _).1, bdrew' (BR.setCell (p := ⟨wo.heap.size, j, none⟩) (Nat.le_refl _) _)⟩
              case measure => simp [intOf]; omega
          · obtain rfl : j = m := by omega
            go_wp2
            go_roundw
            case rel => exact ⟨k + 1, by omega, by go_num, by rw [← supMix_all]; exact hown, BR⟩
            case measure => simp only [intOf]; omega
      · obtain rfl : k = vs.length := by omega
        go_wp2
        go_ret
        refine ⟨_, rfl, ?_, bnext SR.2.2.2 BR⟩
        rw [HN.out, Int.toNat_natCast]
        refine Owns.le (base := wo.heap.size) ?_ SR.2.2.2.size
        unfold Owns
        rw [supL_length]
        exact hown
end Go.Proofs.YtgebplpbnaeckaaGreatDoor

/- Want: Wanted answers: the plain sums; impl.WantedPart; MajorityOf in the model and in the program. -/
namespace Go.Proofs.YtgebplpbnaeckaaGreatDoor
open Go.RowKit Go.Joins

/-- the issues among the first k with a wanted answer -/
def wantC (vs : List Int) : Nat → Nat
  | 0 => 0
  | k + 1 => wantC vs k + if 2 * supN vs k = vs.length then 0 else 2 ^ k
/-- those with the wanted answer 1 -/
def wantB (vs : List Int) : Nat → Nat
  | 0 => 0
  | k + 1 => wantB vs k + if vs.length < 2 * supN vs k then 2 ^ k else 0
theorem wantC_lt (vs : List Int) : ∀ k, wantC vs k < 2 ^ k
  | 0 => by simp [wantC]
  | k + 1 => by have := wantC_lt vs k; unfold wantC; rw [Nat.pow_succ]; split <;> omega
theorem wantB_lt (vs : List Int) : ∀ k, wantB vs k < 2 ^ k
  | 0 => by simp [wantB]
  | k + 1 => by have := wantB_lt vs k; unfold wantB; rw [Nat.pow_succ]; split <;> omega
theorem wantC_yes {vs : List Int} {k : Nat} (h : 2 * supN vs k ≠ vs.length) : wantC vs (k + 1) = wantC vs k + 2 ^ k := by rw [wantC, if_neg h]
theorem wantC_no {vs : List Int} {k : Nat} (h : 2 * supN vs k = vs.length) : wantC vs (k + 1) = wantC vs k := by rw [wantC, if_pos h]; rfl
theorem wantB_yes {vs : List Int} {k : Nat} (h : vs.length < 2 * supN vs k) : wantB vs (k + 1) = wantB vs k + 2 ^ k := by rw [wantB, if_pos h]
theorem wantB_no {vs : List Int} {k : Nat} (h : ¬ vs.length < 2 * supN vs k) : wantB vs (k + 1) = wantB vs k := by rw [wantB, if_neg h]; rfl
/-- a digit more -/
theorem or_digit (c k : Nat) (hk : k < 4) (hc : c < 2 ^ k) : bits .or .i64 (c : Int) (2 ^ k) = ((c + 2 ^ k : Nat) : Int) := by
  have h : ∀ c : Fin 16, ∀ k : Fin 4, c.val < 2 ^ k.val → bits .or .i64 ((c.val : Nat) : Int) (2 ^ k.val) = ((c.val + 2 ^ k.val : Nat) : Int) := by decide +kernel
  have h16 : 2 ^ k ≤ 2 ^ 4 := Nat.pow_le_pow_right (by omega) (by omega)
  exact h ⟨c, by omega⟩ ⟨k, hk⟩ hc
theorem pow_small (k : Nat) (h : k ≤ 4) : (1 : Int) ≤ 2 ^ k ∧ (2 : Int) ^ k ≤ 16 := by
  rcases (show k = 0 ∨ k = 1 ∨ k = 2 ∨ k = 3 ∨ k = 4 from by omega) with rfl | rfl | rfl | rfl | rfl <;> decide
theorem pow_cast (k : Nat) : ((2 ^ k : Nat) : Int) = 2 ^ k := by rw [Int.natCast_pow]; rfl
theorem pw_nat (k : Nat) : pw (k : Int) = 2 ^ k := by unfold pw; rw [Int.toNat_natCast, pow_cast]
theorem wrap_pow2 (k : Nat) (h : k ≤ 4) : wrap64 (2 ^ k) = 2 ^ k := IntWalk.wrap64_in _ (by have := pow_small k h; omega)
theorem mul_pow2 (k : Nat) (h : k ≤ 4) : wrap64 (1 * 2 ^ k) = 2 ^ k := by rw [Int.one_mul]; exact wrap_pow2 k h

theorem ret_part {fn : Func} {p : Tmp} (h : fn.results = #[.cell p 79]) (tmps : Array Value) (w : World) (g : Nat) (x y : Value)
    (hp : tmps.getD p undef = .pointer (some ⟨g, 0, none⟩)) (hw : w.heap[g]? = some (.cells #[x, y] 79 (0, 0))) :
    (results fn tmps).run Tryz.prog w = .ok (.agg #[x, y]) w := by
  have c0 := cell_of_block hw 0
  have c1 := cell_of_block hw 1
  have hr : (results fn tmps).run Tryz.prog w = ((asAddr (tmps.getD p undef)).run Tryz.prog w).andThen fun a w₁ => (loadVar 79 a).run Tryz.prog w₁ := by
    simp only [results, h]
    simp [Sem.run_bind, Result.andThen]
  rw [hr, hp]
  simp [go_sem] at c0 c1 ⊢
  simp [c0, c1, go_sem]

/-- a space in a variable, the answer's cells and the part's -/
def WV (w0 : World) (n : Int) (a : Option Addr) (zs : List Int) (cap : Nat) (l : Option Addr) (vs : List Int) (wx : World) : Prop :=
  Box wx w0.heap.size n a zs.length cap ∧ Ints wx a zs ∧ Ints wx l vs ∧ wx.heap[w0.heap.size + 1]? = some (.cells #[.int .i64 0, .int .i64 0] 79 (0, 0)) ∧ Below w0.heap.size w0 wx
theorem WV.below {w0 wx wy : World} {n : Int} {a l : Option Addr} {zs vs : List Int} {cap : Nat} (h : WV w0 n a zs cap l vs wx) (hb : Below wx.heap.size wx wy) : WV w0 n a zs cap l vs wy :=
  ⟨h.1.below hb, h.2.1.below hb, h.2.2.1.below hb, (hb.block _ (lt_of_block h.2.2.2.1)).trans h.2.2.2.1, bnext h.2.2.2.2 hb⟩
theorem WV.new (w : World) (n : Int) (a l : Option Addr) (zs vs : List Int) (cap : Nat) (hi : Ints w a zs) (hj : Ints w l vs) :
    WV w n a zs cap l vs ((w.alloc (.cells #[.int .i64 n, .slice a zs.length cap] 37)).alloc (.cells #[.int .i64 0, .int .i64 0] 79)) := by
  have b1 := Box.new w n a zs.length cap 37
  have b2 := heap_alloc_new (w.alloc (.cells #[.int .i64 n, .slice a zs.length cap] 37)) (.cells #[.int .i64 0, .int .i64 0] 79)
  simp only [World.size_alloc] at b2
  exact ⟨b1.below (bel1 _ _), hi.below (bel2 _ _ _), hj.below (bel2 _ _ _), b2, bel2 _ _ _⟩

/-- what WantedPart answers -/
def wpC (n : Int) (zs vs : List Int) : Int := if vvB n zs vs = true then (wantC vs n.toNat : Nat) else 0
def wpB (n : Int) (zs vs : List Int) : Int := if vvB n zs vs = true then (wantB vs n.toNat : Nat) else 0
theorem wpC_yes {n : Int} {zs vs : List Int} (h : vvB n zs vs = true) : wpC n zs vs = (wantC vs n.toNat : Nat) := if_pos h
theorem wpB_yes {n : Int} {zs vs : List Int} (h : vvB n zs vs = true) : wpB n zs vs = (wantB vs n.toNat : Nat) := if_pos h
theorem wpC_no {n : Int} {zs vs : List Int} (h : vvB n zs vs = false) : wpC n zs vs = 0 := if_neg (by rw [h]; decide)
theorem wpB_no {n : Int} {zs vs : List Int} (h : vvB n zs vs = false) : wpB n zs vs = 0 := if_neg (by rw [h]; decide)

set_option maxHeartbeats 4000000 in
theorem implWanted_any (n : Int) (a l : Option Addr) (cap capl : Nat) (zs vs : List Int) (w : World) (hi : Ints w a zs) (hj : Ints w l vs) (hn : zs.length ≤ 1048576) (hm : vs.length ≤ 1048576) :
    Calls Tryz.prog 108 #[.agg #[.int .i64 n, .slice a zs.length cap], .slice l vs.length capl] w fun e w' => e = .returned (.agg #[.int .i64 (wpC n zs vs), .int .i64 (wpB n zs vs)]) ∧ Below w.heap.size w w' := by
  have S0 := (WV.new w n a l zs vs cap hi hj).below (bel1 _ (.cells #[.int .i64 0, .int .i64 0] 79))
  have hblk := heap_alloc_new ((w.alloc (.cells #[.int .i64 n, .slice a zs.length cap] 37)).alloc (.cells #[.int .i64 0, .int .i64 0] 79)) (.cells #[.int .i64 0, .int .i64 0] 79)
  simp only [World.size_alloc] at hblk
  have hgl := lt_of_block hblk
  clear hi hj
  by_cases hv : vvB n zs vs = false
  · have HN := hide (supA_no hv)
    have HC := hide (wpC_no hv)
    have HB := hide (wpB_no hv)
    go_enter Tryz.func108, Tryz.ntmps108
    go_wp2_with fail
    refine (implSupportOf_any _ _ _ _ _ _ _ _ S0.2.1 S0.2.2.1 hn hm).mono ?_
    rintro e w1 ⟨v, rfl, ov, hb⟩
    rw [HN.out] at ov
    obtain ⟨av, cv, rfl, _, _⟩ := ov.form
    have S1 := S0.below hb
    have hblk1 := (hb.block _ hgl).trans hblk
    have hres := S1.2.2.2.1
    have f0 := unfrozen_of_block hres 0
    have f1 := unfrozen_of_block hres 1
    have r0 := cell_of_block hres 0
    have r1 := cell_of_block hres 1
    have g0 := cell_of_block hblk1 0
    have g1 := cell_of_block hblk1 1
    clear ov
    go_wp2
    go_loopw [12] (fun i wr => i = .int .i64 0 ∧ wr = w1) (fun _ _ => 0)
    case atStart => exact ⟨rfl, rfl⟩
    case round =>
    obtain ⟨rfl, rfl⟩ := hrel
    go_wp2
    refine bodyPost_ret (ret_part rfl _ _ _ _ _ rfl (block_setCell (i := 1) (block_setCell (i := 0) hres _) _)) rfl ?_
    rw [HC.out, HB.out]
    exact ⟨rfl, (S1.2.2.2.2.setCell (p := ⟨w.heap.size + 1, 0, none⟩) (by show w.heap.size ≤ w.heap.size + 1; omega) _).setCell (p := ⟨w.heap.size + 1, 1, none⟩) (by show w.heap.size ≤ w.heap.size + 1; omega) _⟩
  · have hv : vvB n zs vs = true := by simpa using hv
    have HN := hide (supA_yes hv)
    have HC := hide (wpC_yes hv)
    have HB := hide (wpB_yes hv)
    have hV := hide (vv_of hv)
    obtain ⟨m, rfl⟩ := Int.eq_ofNat_of_zero_le (show 0 ≤ n from by have := hV.out.1.1; omega)
    have h4 : m ≤ 4 := by have := hV.out.1.1; omega
    have h5 : vs.length ≤ 5 := by have := hV.out.2.2; omega
    go_enter Tryz.func108, Tryz.ntmps108
    go_wp2_with fail
    refine (implSupportOf_any _ _ _ _ _ _ _ _ S0.2.1 S0.2.2.1 hn hm).mono ?_
    rintro e wo ⟨v, rfl, ov, hb⟩
    rw [HN.out, Int.toNat_natCast] at ov
    obtain ⟨av, cv, rfl, iv, _⟩ := ov.form
    have hl := supL_length m vs
    rw [hl] at ov ⊢
    have S1 := S0.below hb
    have hblk1 := (hb.block _ hgl).trans hblk
    clear iv hl S0 hb hblk hgl
    simp only [World.size_alloc] at ov
    go_wp2
    go_loopw [12] (fun i wr => ∃ k : Nat, k ≤ m ∧ i = .int .i64 k ∧ wr.heap[w.heap.size + 1 + 1]? = some (.cells #[.int .i64 (wantC vs k : Nat), .int .i64 (wantB vs k : Nat)] 79 (0, 0)) ∧ Owns wr (w.heap.size + 1 + 1 + 1) (.slice av m cv) (supL m vs) ∧ wr.heap[w.heap.size + 1]? = some (.cells #[.int .i64 0, .int .i64 0] 79 (0, 0)) ∧ Below w.heap.size w wr) (fun i _ => m - (intOf i).toNat)
    case atStart => exact ⟨0, Nat.zero_le _, rfl, hblk1, ov, S1.2.2.2.1, S1.2.2.2.2⟩
    case round =>
      clear S1 hblk1 ov
      obtain ⟨k, hk, rfl, hblk, ov, hres, BR⟩ := hrel
      by_cases hlt : k < m
      · have hlt' : k < (supL m vs).length := by rw [supL_length]; exact hlt
        obtain ⟨b, off, rfl, hbl, hc⟩ := ov.ints (by omega)
        have hck : wr.cell? ⟨b, off + k, none⟩ = some (.int .i64 (supN vs k : Nat)) := by
          rw [hc k hlt']
          unfold supL
          rw [supKL_getD m vs vs.length k hlt]
          rfl
        have hs := supN_le vs k
        have OV := hide ov
        have BH := hide BR
        have HBK := hide hblk
        have HRS : Hid (∀ (i : Nat) (v : Value), (wr.setCell ⟨w.heap.size + 1 + 1, i, none⟩ v).heap[w.heap.size + 1]? = some (.cells #[.int .i64 0, .int .i64 0] 79 (0, 0))) :=
          fun i v => (Below.heap_setCell _ _ _ _ (by show w.heap.size + 1 ≠ w.heap.size + 1 + 1; omega)).trans hres
        have hr0 := hide hres
        clear hc hlt' ov BR hres
        by_cases he : 2 * supN vs k = vs.length
        · have hE : ((2 * (supN vs k : Int)) != (vs.length : Int)) = false := by rw [bne_eq_false_iff_eq]; omega
          have HC1 := hide (wantC_no he)
          have HB1 := hide (wantB_no (show ¬ vs.length < 2 * supN vs k from by omega))
          clear hblk
          go_wp2
          go_roundw
          case rel => exact ⟨k + 1, by omega, by go_num, by rw [HC1.out, HB1.out]; exact HBK.out, OV.out, hr0.out, BH.out⟩
          case measure => simp only [intOf]; omega
        · have hE : ((2 * (supN vs k : Int)) != (vs.length : Int)) = true := by rw [bne_iff_ne]; omega
          have HC1 := hide (wantC_yes he)
          have hw2 := wrap_pow2 k (by omega)
          have ho1 := or_digit (wantC vs k) k (by omega) (wantC_lt vs k)
          have g0 := cell_of_block hblk 0
          have f0 := unfrozen_of_block hblk 0
          by_cases hgt : vs.length < 2 * supN vs k
          · have HB1 := hide (wantB_yes hgt)
            have ho2 := or_digit (wantB vs k) k (by omega) (wantB_lt vs k)
            have g1 := cell_of_block hblk 1
            have f1 := unfrozen_of_block hblk 1
            clear hblk
            go_wp2
            go_region
            all_goals go_wp2
            all_goals go_region
            all_goals go_wp2
            all_goals
              go_roundw
              case rel =>
                refine ⟨k + 1, by omega, by go_num, ?_, (OV.out.setBelow (p := ⟨w.heap.size + 1 + 1, 0, none⟩) (by show w.heap.size + 1 + 1 < w.heap.size + 1 + 1 + 1; omega) _).setBelow (p := ⟨w.heap.size + 1 + 1, 1, none⟩) (by show w.heap.size + 1 + 1 < w.heap.size + 1 + 1 + 1; omega) _,
                  (Below.heap_setCell _ _ _ _ (by show w.heap.size + 1 ≠ w.heap.size + 1 + 1; omega)).trans (HRS.out 0 _), bdrew' ((bdrew' (BH.out.setCell (p := ⟨w.heap.size + 1 + 1, 0, none⟩) (by show w.heap.size ≤ w.heap.size + 1 + 1; omega) _)).setCell (p := ⟨w.heap.size + 1 + 1, 1, none⟩) (by show w.heap.size ≤ w.heap.size + 1 + 1; omega) _)⟩
                rw [HC1.out, HB1.out]
                exact block_setCell (i := 1) (block_setCell (i := 0) HBK.out _) _
              case measure => simp [intOf]; omega
          · have HB1 := hide (wantB_no hgt)
            clear hblk
            go_wp2
            go_region
            all_goals go_wp2
            all_goals
              go_roundw
              case rel =>
                refine ⟨k + 1, by omega, by go_num, ?_, OV.out.setBelow (p := ⟨w.heap.size + 1 + 1, 0, none⟩) (by show w.heap.size + 1 + 1 < w.heap.size + 1 + 1 + 1; omega) _, HRS.out 0 _, bdrew' (BH.out.setCell (p := ⟨w.heap.size + 1 + 1, 0, none⟩) (by show w.heap.size ≤ w.heap.size + 1 + 1; omega) _)⟩
                rw [HC1.out, HB1.out]
                exact block_setCell (i := 0) HBK.out _
              case measure => simp [intOf]; omega
      · obtain rfl : k = m := by omega
        have g0 := cell_of_block hblk 0
        have g1 := cell_of_block hblk 1
        have f0 := unfrozen_of_block hres 0
        have f1 := unfrozen_of_block hres 1
        have r0 := cell_of_block hres 0
        have r1 := cell_of_block hres 1
        go_wp2
        refine bodyPost_ret (ret_part rfl _ _ _ _ _ rfl (block_setCell (i := 1) (block_setCell (i := 0) hres _) _)) rfl ?_
        rw [HC.out, HB.out, Int.toNat_natCast]
        exact ⟨rfl, (BR.setCell (p := ⟨w.heap.size + 1, 0, none⟩) (by show w.heap.size ≤ w.heap.size + 1; omega) _).setCell (p := ⟨w.heap.size + 1, 1, none⟩) (by show w.heap.size ≤ w.heap.size + 1; omega) _⟩

/-- what MajorityOf answers -/
def majV (n : Int) (zs vs : List Int) : Int := if vvB n zs vs = true then (wantB vs n.toNat : Nat) else -1
theorem majV_yes {n : Int} {zs vs : List Int} (h : vvB n zs vs = true) : majV n zs vs = (wantB vs n.toNat : Nat) := if_pos h
theorem majV_no {n : Int} {zs vs : List Int} (h : vvB n zs vs = false) : majV n zs vs = -1 := if_neg (by rw [h]; decide)

theorem field_bits (x y : Int) (w : World) : (Instr.field 79 (.agg #[.int .i64 x, .int .i64 y]) 1).run Tryz.prog w = .ok (.int .i64 y) w := by kernel_rfl

theorem implMajorityOf_any (n : Int) (a l : Option Addr) (cap capl : Nat) (zs vs : List Int) (w : World) (hi : Ints w a zs) (hj : Ints w l vs) (hn : zs.length ≤ 1048576) (hm : vs.length ≤ 1048576) :
    Calls Tryz.prog 82 #[.agg #[.int .i64 n, .slice a zs.length cap], .slice l vs.length capl] w fun e w' => e = .returned (.int .i64 (majV n zs vs)) ∧ Below w.heap.size w w' := by
  have S0 := SV.new w n a zs cap l vs 37 hi hj
  clear hi hj
  by_cases hv : vvB n zs vs = false
  · have HN := hide (majV_no hv)
    go_enter Tryz.func82, Tryz.ntmps82
    go_wp2_with fail
    refine (implValidVotes_any _ _ _ _ _ _ _ _ S0.2.1 S0.2.2.1 hn hm).mono ?_
    rintro e w1 ⟨rfl, hb⟩
    go_wp2
    go_ret
    exact ⟨ret_int HN.out.symm, (S0.below hb).2.2.2⟩
  · have hv : vvB n zs vs = true := by simpa using hv
    have HN := hide ((majV_yes hv).trans (wpB_yes hv).symm)
    go_enter Tryz.func82, Tryz.ntmps82
    go_wp2_with fail
    refine (implValidVotes_any _ _ _ _ _ _ _ _ S0.2.1 S0.2.2.1 hn hm).mono ?_
    rintro e w1 ⟨rfl, hb⟩
    have S1 := S0.below hb
    obtain ⟨⟨_, c0, c1⟩, _⟩ := S1.pair
    go_wp2_with fail
    refine (implWanted_any _ _ _ _ _ _ _ _ S1.2.1 S1.2.2.1 hn hm).mono ?_
    rintro e w2 ⟨rfl, hb2⟩
    have hfd := field_bits (wpC n zs vs) (wpB n zs vs)
    go_wp2
    go_ret
    exact ⟨ret_int HN.out.symm, (S1.below hb2).2.2.2⟩

set_option maxHeartbeats 1000000 in
theorem majority_any (m : Nat) (a l : Option Addr) (cap capl len : Nat) (vs : List Int) (w : World) (hj : Ints w l vs) (h5 : vs.length ≤ 5) (h4 : m ≤ 4) (hr : ∀ x ∈ vs, 0 ≤ x ∧ x ≤ 15) :
    Calls Tryz.prog 41 #[.agg #[.int .i64 m, .slice a len cap], .slice l vs.length capl] w fun e w' => e = .returned (.int .i64 (wantB vs m : Nat)) ∧ Below w.heap.size w w' := by
  have bx := Box.new w m a len cap 37
  have il := hj.below (bel1 w (.cells #[.int .i64 m, .slice a len cap] 37))
  have HR := hide hr
  clear hj hr
  go_enter Tryz.func41, Tryz.ntmps41
  go_wp2_with fail
  obtain ⟨_, c0, c1⟩ := bx
  go_loop [5, 6] (fun o i => ∃ k : Nat, k ≤ m ∧ i = .int .i64 k ∧ o = .int .i64 (wantB vs k : Nat)) (fun _ i => m - (intOf i).toNat)
  case atStart => exact ⟨0, Nat.zero_le _, rfl, rfl⟩
  case round =>
    obtain ⟨k, hk, rfl, rfl⟩ := hrel
    by_cases hlt : k < m
    · have hs := supN_le vs k
      have hp := pw_nat k
      have hpb := pow_small k (by omega)
      have hbl := wantB_lt vs k
      have hb16 : wantB vs k ≤ 16 := Nat.le_trans (Nat.le_of_lt hbl) (Nat.pow_le_pow_right (n := 2) (by omega) (show k ≤ 4 from by omega))
      clear hbl
      by_cases hgt : vs.length < 2 * supN vs k
      · have HB1 := hide (wantB_yes hgt)
        go_wp2_with (first
          | (go_at_call 64; refine (support_any _ _ _ _ _ il (by omega) HR.out (by omega)).mono ?_; rintro e w' ⟨rfl, rfl⟩)
          | (go_at_call 45; refine (power_any _ _ (by omega) (by omega)).mono ?_; rintro e w' ⟨rfl, rfl⟩))
        go_round
        case rel => exact ⟨k + 1, by omega, by go_num, by rw [HB1.out, Int.natCast_add, pow_cast]; try rw [hp]⟩
        case measure => simp only [intOf]; omega
      · have HB1 := hide (wantB_no hgt)
        go_wp2_with (first
          | (go_at_call 64; refine (support_any _ _ _ _ _ il (by omega) HR.out (by omega)).mono ?_; rintro e w' ⟨rfl, rfl⟩))
        go_round
        case rel => exact ⟨k + 1, by omega, by go_num, by rw [HB1.out]⟩
        case measure => simp only [intOf]; omega
    · obtain rfl : k = m := by omega
      go_wp2
      go_ret
      exact ⟨rfl, bel1 w _⟩

end Go.Proofs.YtgebplpbnaeckaaGreatDoor

/- WantS: WantedPart in the model. -/
namespace Go.Proofs.YtgebplpbnaeckaaGreatDoor
open Go.RowKit Go.Joins

theorem WV.set {w0 wx : World} {n : Int} {a l : Option Addr} {zs vs : List Int} {cap : Nat} (h : WV w0 n a zs cap l vs wx) (u v : Value) :
    Below w0.heap.size w0 ((wx.setCell ⟨w0.heap.size + 1, 0, none⟩ u).setCell ⟨w0.heap.size + 1, 1, none⟩ v) :=
  (h.2.2.2.2.setCell (p := ⟨w0.heap.size + 1, 0, none⟩) (by show w0.heap.size ≤ w0.heap.size + 1; omega) u).setCell (p := ⟨w0.heap.size + 1, 1, none⟩) (by show w0.heap.size ≤ w0.heap.size + 1; omega) v

set_option maxHeartbeats 4000000 in
theorem wanted_any (m : Nat) (a l : Option Addr) (cap capl : Nat) (zs vs : List Int) (w : World) (hi : Ints w a zs) (hj : Ints w l vs) (h5 : vs.length ≤ 5) (h4 : m ≤ 4) (hr : ∀ x ∈ vs, 0 ≤ x ∧ x ≤ 15) :
    Calls Tryz.prog 67 #[.agg #[.int .i64 m, .slice a zs.length cap], .slice l vs.length capl] w fun e w' => e = .returned (.agg #[.int .i64 (wantC vs m : Nat), .int .i64 (wantB vs m : Nat)]) ∧ Below w.heap.size w w' := by
  have S0 := WV.new w m a l zs vs cap hi hj
  have hblk0 := heap_alloc_new ((w.alloc (.cells #[.int .i64 m, .slice a zs.length cap] 37)).alloc (.cells #[.int .i64 0, .int .i64 0] 79)) (.cells #[.int .i64 0, .int .i64 0] 79)
  have hB0 := bel1 ((w.alloc (.cells #[.int .i64 m, .slice a zs.length cap] 37)).alloc (.cells #[.int .i64 0, .int .i64 0] 79)) (.cells #[.int .i64 0, .int .i64 0] 79)
  simp only [World.size_alloc] at hblk0
  obtain ⟨W0, hW0⟩ : ∃ W0 : World, W0 = (w.alloc (.cells #[.int .i64 m, .slice a zs.length cap] 37)).alloc (.cells #[.int .i64 0, .int .i64 0] 79) := ⟨_, rfl⟩
  have hz0 : W0.heap.size = w.heap.size + 1 + 1 := by rw [hW0]; simp
  rw [← hW0] at S0 hB0
  have HZ := hide hz0
  have HS := hide S0
  have HR := hide hr
  have HB0 : Hid (Below W0.heap.size W0 (((w.alloc (.cells #[.int .i64 m, .slice a zs.length cap] 37)).alloc (.cells #[.int .i64 0, .int .i64 0] 79)).alloc (.cells #[.int .i64 0, .int .i64 0] 79))) := by rw [← hW0]; exact hB0
  clear hi hj hr hW0 hz0 S0 hB0
  go_enter Tryz.func67, Tryz.ntmps67
  go_wp2_with fail
  go_loopw [6] (fun i wr => ∃ k : Nat, k ≤ m ∧ i = .int .i64 k ∧ wr.heap[w.heap.size + 1 + 1]? = some (.cells #[.int .i64 (wantC vs k : Nat), .int .i64 0] 79 (0, 0)) ∧ Below W0.heap.size W0 wr) (fun i _ => m - (intOf i).toNat)
  case atStart => exact ⟨0, Nat.zero_le _, rfl, hblk0, HB0.out⟩
  case round =>
    clear hblk0
    obtain ⟨k, hk, rfl, hblk, BR⟩ := hrel
    have SR := HS.out.below BR
    have ⟨⟨_, c0, c1⟩, iz, il, hres, _⟩ := SR
    have g0 := cell_of_block hblk 0
    have g1 := cell_of_block hblk 1
    have BH := hide BR
    have HBK := hide hblk
    clear SR BR
    by_cases hlt : k < m
    · have hs := supN_le vs k
      by_cases he : 2 * supN vs k = vs.length
      · have hE : ((2 * (supN vs k : Int)) != (vs.length : Int)) = false := by rw [bne_eq_false_iff_eq]; omega
        have HC1 := hide (wantC_no he)
        clear hblk hres
        go_wp2_with (go_at_call 64; refine (support_any _ _ _ _ _ il (by omega) HR.out (by omega)).mono ?_; rintro e w' ⟨rfl, rfl⟩)
        go_roundw
        case rel => exact ⟨k + 1, by omega, by go_num, by rw [HC1.out]; exact HBK.out, BH.out⟩
        case measure => simp only [intOf]; omega
      · have hE : ((2 * (supN vs k : Int)) != (vs.length : Int)) = true := by rw [bne_iff_ne]; omega
        have HC1 := hide (wantC_yes he)
        have hp := pw_nat k
        have hpb := pow_small k (by omega)
        have hcl := wantC_lt vs k
        have hc16 : wantC vs k ≤ 16 := Nat.le_trans (Nat.le_of_lt hcl) (Nat.pow_le_pow_right (n := 2) (by omega) (show k ≤ 4 from by omega))
        have hsum : IntKind.i64.wrap ((wantC vs k : Int) + 2 ^ k) = (wantC vs k : Int) + 2 ^ k := IntWalk.i64_in _ (by omega)
        have f0 := unfrozen_of_block hblk 0
        clear hblk hres hcl
        go_upto_region 6 with (go_at_call 64; refine (support_any _ _ _ _ _ il (by omega) HR.out (by omega)).mono ?_; rintro e w' ⟨rfl, rfl⟩)
        go_region_with ((go_at_call 45; refine (power_any _ _ (by omega) (by omega)).mono ?_; rintro e w' ⟨rfl, rfl⟩))
        all_goals go_wp2_with fail
        all_goals
          go_roundw
          case rel =>
            refine ⟨k + 1, by omega, by go_num, ?_, bdrew' (BH.out.setCell (p := ⟨w.heap.size + 1 + 1, 0, none⟩) (by show W0.heap.size ≤ w.heap.size + 1 + 1; rw [HZ.out]; exact Nat.le_refl _) _)⟩
            rw [HC1.out, Int.natCast_add, pow_cast]
            exact block_setCell (i := 0) HBK.out _
          case measure => simp [intOf]; omega
    · obtain rfl : k = m := by omega
      have f1 := unfrozen_of_block hblk 1
      have hgl := lt_of_block hblk
      have hrl := lt_of_block hres
      clear hblk
      go_wp2_with fail
      refine (majority_any _ _ _ _ _ _ _ _ il h5 h4 HR.out).mono ?_
      rintro e w3 ⟨rfl, hb3⟩
      have hblk3 := (hb3.block _ hgl).trans HBK.out
      have hres3 := (hb3.block _ hrl).trans hres
      have B3 := hide (bnext BH.out (hb3.mono (by exact Nat.le_refl _)))
      have p0 := cell_of_block hblk3 0
      have p1 := cell_of_block hblk3 1
      have q1 := unfrozen_of_block hblk3 1
      have f0 := unfrozen_of_block hres3 0
      have f2 := unfrozen_of_block hres3 1
      have r0 := cell_of_block hres3 0
      have r1 := cell_of_block hres3 1
      have HR3 := hide hres3
      clear g0 g1 c0 c1 f1 hblk3 hres3 hres
      go_wp2
      have hres4 := (Below.heap_setCell w3 ⟨w.heap.size + 1 + 1, 1, none⟩ (.int .i64 (wantB vs k : Nat)) (w.heap.size + 1) (by show w.heap.size + 1 ≠ w.heap.size + 1 + 1; omega)).trans HR3.out
      refine bodyPost_ret (ret_part rfl _ _ _ _ _ rfl (block_setCell (i := 1) (block_setCell (i := 0) hres4 _) _)) rfl ?_
      refine ⟨rfl, ?_⟩
      have hW := HS.out.2.2.2.2
      have hB := bnext hW B3.out
      exact ((hB.setCell (p := ⟨w.heap.size + 1 + 1, 1, none⟩) (by show w.heap.size ≤ w.heap.size + 1 + 1; omega) _).setCell (p := ⟨w.heap.size + 1, 0, none⟩) (by show w.heap.size ≤ w.heap.size + 1; omega) _).setCell (p := ⟨w.heap.size + 1, 1, none⟩) (by show w.heap.size ≤ w.heap.size + 1; omega) _

end Go.Proofs.YtgebplpbnaeckaaGreatDoor
