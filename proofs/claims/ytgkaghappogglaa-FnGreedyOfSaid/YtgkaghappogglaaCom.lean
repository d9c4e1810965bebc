/- CommitteesOf, in the model and in the program. -/
import Derived.Test.YtgkaghappogglaaBal
namespace Go.Proofs.Ytgkaghappogglaa
open Go.RowKit Go.Joins

theorem countOfNames_any (x : Nat) (w : World) (hx : x < 32) : Calls Try.prog 69 #[.int .i64 x] w fun e w' => e = .returned (.int .i64 (pc x)) ∧ w = w' := by
  go_enter Try.func69, Try.ntmps69
  go_wp2_with (go_at_call 102; refine (onesCount_any _ _ hx).mono ?_; rintro e w' ⟨rfl, rfl⟩)
  go_ret
  exact ⟨rfl, rfl⟩
/-- the first m numbers with k digits 1 -/
def comL (m : Nat) (k : Int) : List Int := ((List.range m).filter fun x => decide ((pc x : Int) = k)).map fun (x : Nat) => (x : Int)
theorem comL_zero (k : Int) : comL 0 k = [] := rfl
theorem comL_len (m : Nat) (k : Int) : (comL m k).length ≤ m := by
  unfold comL
  rw [List.length_map]
  exact Nat.le_trans (List.length_filter_le _ _) (by simp)
theorem comL_yes {m : Nat} {k : Int} (h : (pc m : Int) = k) : comL (m + 1) k = comL m k ++ [(m : Int)] := by
  unfold comL
  rw [List.range_succ, List.filter_append, List.map_append]
  congr 1
  rw [List.filter_cons_of_pos (by simpa using h)]
  rfl
theorem comL_no {m : Nat} {k : Int} (h : ¬ (pc m : Int) = k) : comL (m + 1) k = comL m k := by
  unfold comL
  rw [List.range_succ, List.filter_append, List.filter_cons_of_neg (by simpa using h)]
  simp
/-- what CommitteesOf answers -/
def comA (c k : Int) : List Int := if (1 ≤ c ∧ c ≤ 5) ∧ (1 ≤ k ∧ k ≤ c) then comL (2 ^ c.toNat) k else []
theorem comA_yes {c k : Int} (h : (1 ≤ c ∧ c ≤ 5) ∧ (1 ≤ k ∧ k ≤ c)) : comA c k = comL (2 ^ c.toNat) k := if_pos h
theorem comA_no {c k : Int} (h : ¬ ((1 ≤ c ∧ c ≤ 5) ∧ (1 ≤ k ∧ k ≤ c))) : comA c k = [] := if_neg h
theorem pow_le5 (c : Int) (h : c ≤ 5) : 2 ^ c.toNat ≤ 32 := by
  have h1 : c.toNat ≤ 5 := by omega
  have : 2 ^ c.toNat ≤ 2 ^ 5 := Nat.pow_le_pow_right (by omega) h1
  omega
theorem comA_len (c k : Int) : (comA c k).length ≤ 32 := by
  unfold comA
  split
  · rename_i h
    exact Nat.le_trans (comL_len _ _) (pow_le5 c h.1.2)
  · simp

set_option maxHeartbeats 1000000 in
theorem committees_any (c k : Int) (w : World) (h0 : 0 ≤ c) (h5 : c ≤ 5) :
    Calls Try.prog 71 #[.int .i64 c, .int .i64 k] w (Gives (comL (2 ^ c.toNat) k) w) := by
  obtain ⟨i0, hi0, hz0, hz1, hz2⟩ := info_parts info_int
  have hM := pow_le5 c h5
  obtain ⟨M, hMM⟩ : ∃ M, M = 2 ^ c.toNat := ⟨_, rfl⟩
  have hpw : pw c = (M : Int) := by unfold pw; rw [hMM]
  rw [← hMM] at hM ⊢
  have HPW := hide hpw
  clear hMM hpw
  have ho0 : Owns (w.alloc (.cells #[] 3)) w.heap.size (.slice (some ⟨w.heap.size, 0, none⟩) 0 0) [] := World.ownsRow_lit w #[] 0 (Nat.le_refl _) (by simp) rfl
  have BA := bel1 w (.cells #[] 3)
  go_enter Try.func71, Try.ntmps71
  go_wp2_with fail
  go_loopw [5, 6] (fun v i wr => ∃ x : Nat, x ≤ M ∧ i = .int .i64 x ∧ Owns wr w.heap.size v (comL x k) ∧ Below w.heap.size w wr) (fun _ i _ => M - (intOf i).toNat)
  case atStart => exact ⟨0, Nat.zero_le _, rfl, ho0, BA⟩
  case round =>
    clear ho0 BA
    obtain ⟨x, hx, rfl, hown, BR⟩ := hrel
    by_cases hlt : x < M
    · have hle : (comL x k).length ≤ x := comL_len x k
      have hsz := BR.size
      by_cases he : (pc x : Int) = k
      · have HY := hide (comL_yes he)
        have hE : ((pc x : Int) == k) = true := by simpa using he
        clear he
        go_wp2_with (first
          | (go_at_call 77; refine (power_any c _ h0 (by omega)).mono ?_; rintro e w' ⟨rfl, rfl⟩; rw [HPW.out])
          | (go_at_call 89; refine (weight_any x _ (by omega)).mono ?_; rintro e w' ⟨rfl, rfl⟩)
          | (at_builtin; refine wpList_append_own _ rfl _ _ 23 rfl w.heap.size 3 i0 (.int .i64 0) 1 8 Try.underlying23 hi0 hz0 hz1 hz2 rfl (by decide) _ _ _ rfl (hown.alloc _) ⟨wr.heap.size, 0, none⟩ 1 1 [.int .i64 x] rfl rfl ?c1 ?c2 ?c3 ?c4 ?c5 ?_))
        case c1 => exact cell_one_new _ _ _
        case c2 => intro u hu; simp at hu; subst hu; rfl
        case c3 => unfold maxLen; omega
        case c4 => omega
        case c5 => simp; omega
        intro v' w2 hown' hgrow _
        have hpush := hide (Owns.push hown')
        have hbel : Below w.heap.size w w2 := (BR.alloc hsz _).grown hgrow (by simp; omega) (fun j hj => own_ge hown j hj)
        clear hown' hgrow hown
        go_wp2
        go_roundw
        case rel => exact ⟨x + 1, by omega, by go_num, by rw [HY.out]; exact hpush.out, hbel⟩
        case measure => simp only [intOf]; omega
      · have HY := hide (comL_no he)
        have hE : ((pc x : Int) == k) = false := by simpa using he
        clear he
        go_wp2_with (first
          | (go_at_call 77; refine (power_any c _ h0 (by omega)).mono ?_; rintro e w' ⟨rfl, rfl⟩; rw [HPW.out])
          | (go_at_call 89; refine (weight_any x _ (by omega)).mono ?_; rintro e w' ⟨rfl, rfl⟩))
        go_roundw
        case rel => exact ⟨x + 1, by omega, by go_num, by rw [HY.out]; exact hown, BR⟩
        case measure => simp only [intOf]; omega
    · obtain rfl : x = M := by omega
      go_wp2_with (go_at_call 77; refine (power_any c _ h0 (by omega)).mono ?_; rintro e w' ⟨rfl, rfl⟩; rw [HPW.out])
      go_ret
      exact ⟨_, rfl, hown, BR⟩
theorem specCommitteesOf_any (c k : Int) (w : World) : Calls Try.prog 21 #[.int .i64 c, .int .i64 k] w (Gives (comA c k) w) := by
  by_cases h1 : 1 ≤ c ∧ c ≤ 5
  · have H1 := hide h1
    by_cases h2 : 1 ≤ k ∧ k ≤ c
    · have HN := hide (comA_yes ⟨h1, h2⟩)
      have H2 := hide h2
      clear h1 h2
      go_enter Try.func21, Try.ntmps21
      go_wp2_with (first
        | (go_at_call 70; (with_reducible refine (inRange_yes c _ _ _ H1.out).mono ?_); rintro e w' ⟨rfl, rfl⟩)
        | (go_at_call 70; (with_reducible refine (inRange_yes k _ _ _ H2.out).mono ?_); rintro e w' ⟨rfl, rfl⟩))
      refine (committees_any _ _ _ (by have := H1.out; omega) H1.out.2).mono ?_
      rintro e w1 ⟨v, rfl, hown, hb⟩
      go_wp2
      go_ret
      exact ⟨_, rfl, by rw [HN.out]; exact hown, hb⟩
    · have HN := hide (comA_no (fun h => h2 h.2))
      have H2 := hide h2
      clear h1 h2
      go_enter Try.func21, Try.ntmps21
      go_wp2_with (first
        | (go_at_call 70; (with_reducible refine (inRange_yes c _ _ _ H1.out).mono ?_); rintro e w' ⟨rfl, rfl⟩)
        | (go_at_call 70; (with_reducible refine (inRange_no k _ _ _ H2.out).mono ?_); rintro e w' ⟨rfl, rfl⟩))
      go_ret
      exact gives_nil HN.out (Below.refl _ _)
  · have HN := hide (comA_no (k := k) (fun h => h1 h.1))
    have H1 := hide h1
    clear h1
    go_enter Try.func21, Try.ntmps21
    go_wp2_with (go_at_call 70; refine (inRange_no c _ _ _ H1.out).mono ?_; rintro e w' ⟨rfl, rfl⟩)
    go_ret
    exact gives_nil HN.out (Below.refl _ _)
set_option maxHeartbeats 1000000 in
theorem implCommitteesOf_any (c k : Int) (w : World) : Calls Try.prog 19 #[.int .i64 c, .int .i64 k] w (Gives (comA c k) w) := by
  obtain ⟨i0, hi0, hz0, hz1, hz2⟩ := info_parts info_int
  by_cases h1 : 1 ≤ c ∧ c ≤ 5
  · have H1 := hide h1
    by_cases h2 : 1 ≤ k ∧ k ≤ c
    · have HN := hide (comA_yes ⟨h1, h2⟩)
      have H2 := hide h2
      have hp := wrap_pow5 c (by omega)
      have hM := pow_le5 c h1.2
      obtain ⟨M, hMM⟩ : ∃ M, M = 2 ^ c.toNat := ⟨_, rfl⟩
      have hpw : pw c = (M : Int) := by unfold pw; rw [hMM]
      rw [hpw] at hp
      have hc0 : 0 ≤ c := by omega
      have hc5 : c ≤ 5 := h1.2
      rw [← hMM] at hM HN
      have HP := hide hp
      clear h1 h2 hMM hpw hp
      go_enter Try.func19, Try.ntmps19
      go_wp2_with (first
        | (go_at_call 61; refine (validNames_yes _ _ H1.out).mono ?_; rintro e w' ⟨rfl, rfl⟩)
        | (go_at_call 68; refine (validSeats_yes _ _ _ H2.out).mono ?_; rintro e w' ⟨rfl, rfl⟩))
      rw [HP.out]
      go_loopw [5, 18] (fun v i wr => ∃ x : Nat, x ≤ M ∧ i = .int .i64 x ∧ Owns wr w.heap.size v (comL x k) ∧ Below w.heap.size w wr) (fun _ i _ => M - (intOf i).toNat)
      case atStart => exact ⟨0, Nat.zero_le _, rfl, World.ownsRow_nil _ _ _ _, Below.refl _ _⟩
      case round =>
        obtain ⟨x, hx, rfl, hown, BR⟩ := hrel
        by_cases hlt : x < M
        · have hle : (comL x k).length ≤ x := comL_len x k
          have hsz := BR.size
          by_cases he : (pc x : Int) = k
          · have HY := hide (comL_yes he)
            have hE : ((pc x : Int) == k) = true := by simpa using he
            clear he
            go_wp2_with (first
              | (go_at_call 69; refine (countOfNames_any x _ (by omega)).mono ?_; rintro e w' ⟨rfl, rfl⟩)
              | (at_builtin; refine wpList_append_own _ rfl _ _ 23 rfl w.heap.size 3 i0 (.int .i64 0) 1 8 Try.underlying23 hi0 hz0 hz1 hz2 rfl (by decide) _ _ _ rfl (hown.alloc _) ⟨wr.heap.size, 0, none⟩ 1 1 [.int .i64 x] rfl rfl ?c1 ?c2 ?c3 ?c4 ?c5 ?_))
            case c1 => exact cell_one_new _ _ _
            case c2 => intro u hu; simp at hu; subst hu; rfl
            case c3 => unfold maxLen; omega
            case c4 => omega
            case c5 => simp; omega
            intro v' w2 hown' hgrow _
            have hpush := hide (Owns.push hown')
            have hbel : Below w.heap.size w w2 := (BR.alloc hsz _).grown hgrow (by simp; omega) (fun j hj => own_ge hown j hj)
            clear hown' hgrow hown
            go_wp2
            go_roundw
            case rel => exact ⟨x + 1, by omega, by go_num, by rw [HY.out]; exact hpush.out, hbel⟩
            case measure => simp only [intOf]; omega
          · have HY := hide (comL_no he)
            have hE : ((pc x : Int) == k) = false := by simpa using he
            clear he
            go_wp2_with (go_at_call 69; refine (countOfNames_any x _ (by omega)).mono ?_; rintro e w' ⟨rfl, rfl⟩)
            go_roundw
            case rel => exact ⟨x + 1, by omega, by go_num, by rw [HY.out]; exact hown, BR⟩
            case measure => simp only [intOf]; omega
        · obtain rfl : x = M := by omega
          go_wp2
          go_ret
          exact ⟨_, rfl, by rw [HN.out]; exact hown, BR⟩
    · have HN := hide (comA_no (fun h => h2 h.2))
      have H2 := hide h2
      clear h1 h2
      go_enter Try.func19, Try.ntmps19
      go_wp2_with (first
        | (go_at_call 61; refine (validNames_yes _ _ H1.out).mono ?_; rintro e w' ⟨rfl, rfl⟩)
        | (go_at_call 68; refine (validSeats_no _ _ _ H2.out).mono ?_; rintro e w' ⟨rfl, rfl⟩))
      go_ret
      exact gives_nil HN.out (Below.refl _ _)
  · have HN := hide (comA_no (k := k) (fun h => h1 h.1))
    have H1 := hide h1
    clear h1
    go_enter Try.func19, Try.ntmps19
    go_wp2_with (go_at_call 61; refine (validNames_no _ _ H1.out).mono ?_; rintro e w' ⟨rfl, rfl⟩)
    go_ret
    exact gives_nil HN.out (Below.refl _ _)
end Go.Proofs.Ytgkaghappogglaa
