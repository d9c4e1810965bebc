/- Contracts of the two validity checks of a space. -/
import Derived.Test.YtbmodiobgkmngaaLaws
import Derived.Outline
namespace Go.Proofs.Ytbmodiobgkmngaa
open Go.RowKit Go.Joins

theorem quiet_left {P : Program} {f : FuncId} {args : Array Value} {w : World} {n : Nat} {v : Value}
    (h : Calls P f args (w.drewN n) fun e w' => e = .returned v ∧ w.drewN n = w') : Calls P f args (w.drewN n) fun e w'' => e = .returned v ∧ ∃ m, w'' = w.drewN m :=
  h.mono fun _ _ ⟨he, hm⟩ => ⟨he, n, hm.symm⟩
theorem wrap_pow (n : Int) (h4 : n ≤ 4) : wrap64 (2 ^ n.toNat) = pw n := by
  have h1 := pw_pos n
  have h2 := pw_le n h4
  have e : (2 : Int) ^ n.toNat = pw n := by unfold pw; rw [Int.natCast_pow]; rfl
  rw [e]
  unfold wrap64
  omega

/-- A judgment is in its range, and greater than the one before. -/
def okAt (n : Int) (zs : List Int) (i : Nat) : Prop := (0 ≤ zs.getD i 0 ∧ zs.getD i 0 ≤ pw n - 1) ∧ (0 < i → zs.getD (i - 1) 0 < zs.getD i 0)

set_option maxHeartbeats 1000000 in
theorem validSpace_any (n : Int) (a : Option Addr) (cap : Nat) (zs : List Int) (w : World) (hi : Ints w a zs) (hn : zs.length ≤ 1048576) :
    Calls Try.prog 30 #[.agg #[.int .i64 n, .slice a zs.length cap]] w fun e w' => e = .returned (.bool (vsB n zs)) ∧ Below w.heap.size w w' := by
  by_cases h1 : 1 ≤ n ∧ n ≤ 4
  · have hd : decide (1 ≤ n ∧ n ≤ 4) = true := by simpa using h1
    obtain ⟨h1, h4⟩ := h1
    by_cases h0 : zs.length = 0
    · have hz : ((zs.length : Int) == 0) = true := by simpa using h0
      have HF := hide (vsB_false (n := n) (zs := zs) (fun h => by have := h.2.1; omega))
      clear h0
      go_enter Try.func30, Try.ntmps30
      go_wp2_with (go_at_call 31; refine (inRange_any _ _ _ _).mono ?_; rintro e w' ⟨rfl, rfl⟩)
      go_ret
      exact ⟨ret_bool HF.out.symm, bel1 w _⟩
    · have hz : ((zs.length : Int) == 0) = false := by simpa using h0
      have hpos : 0 < zs.length := by omega
      clear h0
      obtain ⟨b, off, rfl, hbl, hc⟩ := hi hpos
      have p1 := pw_pos n
      have p2 := pw_le n h4
      go_enter Try.func30, Try.ntmps30
      go_wp2_with (go_at_call 31; refine (inRange_any _ _ _ _).mono ?_; rintro e w' ⟨rfl, rfl⟩)
      go_loopw [3] (fun i wr => ∃ k : Nat, k ≤ zs.length ∧ i = .int .i64 k ∧ (∀ j, j < k → okAt n zs j) ∧ Below (w.heap.size + 1) (w.alloc (.cells #[.int .i64 n, .slice (some ⟨b, off, none⟩) zs.length cap] 25)) wr) (fun i _ => zs.length - (intOf i).toNat)
      case atStart => exact ⟨0, Nat.zero_le _, rfl, fun j hj => by omega, Below.refl _ _⟩
      case round =>
        obtain ⟨k, hk, rfl, hall, hb⟩ := hrel
        have HA := hide hall
        clear hall
        have c0 : wr.cell? ⟨w.heap.size, 0, none⟩ = some (.int .i64 n) := (hb.cell (p := ⟨w.heap.size, 0, none⟩) (by simp)).trans (by simp [go_sem])
        have c1 : wr.cell? ⟨w.heap.size, 1, none⟩ = some (.slice (some ⟨b, off, none⟩) zs.length cap) := (hb.cell (p := ⟨w.heap.size, 1, none⟩) (by simp)).trans (by simp [go_sem])
        by_cases hlt : k < zs.length
        · have hck : wr.cell? ⟨b, off + k, none⟩ = some (.int .i64 zs[k]) := by
            rw [← getD_lt hlt]
            exact (hb.cell (p := ⟨b, off + k, none⟩) (by simp; omega)).trans ((World.cell?_alloc_past _ _ _ hbl).trans (hc k hlt))
          have hw : IntKind.i64.wrap (pw n - 1) = pw n - 1 := IntWalk.i64_in _ (by omega)
          by_cases hr : 0 ≤ zs[k] ∧ zs[k] ≤ pw n - 1
          · have hd2 : decide (0 ≤ zs[k] ∧ zs[k] ≤ pw n - 1) = true := by simpa using hr
            have HR := hide hr
            clear hr
            by_cases hk0 : k = 0
            · have hg : decide ((0 : Int) < (k : Int)) = false := by simp; omega
              have hg2 : decide (0 < k) = false := by simp; omega
              have HK := hide hk0
              clear hk0 hc
              go_wp2
              go_quiet ((first | (go_at_call 60; exact quiet_left (power_any _ _ (by omega) (by omega))) | (go_at_call 31; exact quiet_left (inRange_any _ _ _ _))))
              go_wp2
              go_roundw
              case rel => exact ⟨k + 1, by omega, by go_num, fun j hj => by
                obtain rfl : j = k := by have := HK.out; omega
                unfold okAt
                rw [getD_lt hlt]
                exact ⟨HR.out, fun h => by have := HK.out; omega⟩, hb.trans ((belN _ _).mono (by have := hb.size; simpa using this))⟩
              case measure => simp only [intOf]; omega
            · have hkp : 0 < k := by omega
              have hw2 : IntKind.i64.wrap ((k : Int) - 1) = (k : Int) - 1 := IntWalk.i64_in _ (by omega)
              have hn1 : (1 : Int) ≤ (k : Int) := by omega
              have ht : ((k : Int) - 1).toNat = k - 1 := by omega
              have hlt' : k - 1 < zs.length := by omega
              have hcm : wr.cell? ⟨b, off + (k - 1), none⟩ = some (.int .i64 zs[k - 1]) := by
                rw [← getD_lt hlt']
                exact (hb.cell (p := ⟨b, off + (k - 1), none⟩) (by simp; omega)).trans ((World.cell?_alloc_past _ _ _ hbl).trans (hc _ hlt'))
              clear hk0 hc
              by_cases hle : zs[k] ≤ zs[k - 1]
              · have hdl : decide (zs[k] ≤ zs[k - 1]) = true := by simpa using hle
                have HF := hide (vsB_false (n := n) (zs := zs) (fun h => by have := (h.2.2 k hlt).2 hkp; rw [getD_lt hlt, getD_lt hlt'] at this; omega))
                go_wp2
                go_quiet ((first | (go_at_call 60; exact quiet_left (power_any _ _ (by omega) (by omega))) | (go_at_call 31; exact quiet_left (inRange_any _ _ _ _))))
                go_wp2
                go_ret
                exact ⟨ret_bool HF.out.symm, ((bel1 w _).trans (hb.mono (by omega))).trans ((belN _ _).mono (by have := hb.size; simp at this; omega))⟩
              · have hdl : decide (zs[k] ≤ zs[k - 1]) = false := by simpa using hle
                have HLE := hide hle
                clear hle
                go_wp2
                go_quiet ((first | (go_at_call 60; exact quiet_left (power_any _ _ (by omega) (by omega))) | (go_at_call 31; exact quiet_left (inRange_any _ _ _ _))))
                go_wp2
                go_roundw
                case rel => exact ⟨k + 1, by omega, by go_num, fun j hj => by
                  rcases Nat.lt_or_ge j k with h | h
                  · exact HA.out j h
                  · obtain rfl : j = k := by omega
                    unfold okAt
                    rw [getD_lt hlt, getD_lt hlt']
                    exact ⟨HR.out, fun _ => by have := HLE.out; omega⟩, hb.trans ((belN _ _).mono (by have := hb.size; simpa using this))⟩
                case measure => simp only [intOf]; omega
          · have hd2 : decide (0 ≤ zs[k] ∧ zs[k] ≤ pw n - 1) = false := by simpa using hr
            have HF := hide (vsB_false (n := n) (zs := zs) (fun h => hr (by have := (h.2.2 k hlt).1; rwa [getD_lt hlt] at this)))
            clear hr hc
            go_wp2
            go_quiet ((first | (go_at_call 60; exact quiet_left (power_any _ _ (by omega) (by omega))) | (go_at_call 31; exact quiet_left (inRange_any _ _ _ _))))
            go_wp2
            go_ret
            exact ⟨ret_bool HF.out.symm, ((bel1 w _).trans (hb.mono (by omega))).trans ((belN _ _).mono (by have := hb.size; simp at this; omega))⟩
        · obtain rfl : k = zs.length := by omega
          go_wp2
          go_ret
          exact ⟨ret_bool (vsB_true ⟨⟨h1, h4⟩, hpos, HA.out⟩).symm, (bel1 w _).trans (hb.mono (by omega))⟩
  · have hd : decide (1 ≤ n ∧ n ≤ 4) = false := by simpa using h1
    have HF := hide (vsB_false (n := n) (zs := zs) (fun h => h1 h.1))
    clear h1
    go_enter Try.func30, Try.ntmps30
    go_wp2_with (go_at_call 31; refine (inRange_any _ _ _ _).mono ?_; rintro e w' ⟨rfl, rfl⟩)
    go_ret
    exact ⟨ret_bool HF.out.symm, bel1 w _⟩

theorem validIssues_any (n : Int) (w : World) : Calls Try.prog 34 #[.int .i64 n] w fun e w' => e = .returned (.bool (decide (1 ≤ n ∧ n ≤ 4))) ∧ w = w' := by
  by_cases h1 : 1 ≤ n <;> by_cases h2 : n ≤ 4
  all_goals
    go_enter Try.func34, Try.ntmps34
    go_wp2
    go_ret
    exact ⟨ret_bool (by simp [h1, h2]), rfl⟩

theorem isJudgment_any (n x : Int) (w : World) (h0 : 0 ≤ n) (h4 : n ≤ 4) : Calls Try.prog 35 #[.int .i64 n, .int .i64 x] w fun e w' => e = .returned (.bool (decide (0 ≤ x ∧ x ≤ pw n - 1))) ∧ w = w' := by
  have hp := wrap_pow n h4
  by_cases h1 : 0 ≤ x <;> by_cases h2 : x < pw n
  all_goals
    go_enter Try.func35, Try.ntmps35
    go_wp2
    go_ret
    exact ⟨ret_bool (by simp; omega), rfl⟩


set_option maxHeartbeats 1000000 in
theorem implValidSpace_any (n : Int) (a : Option Addr) (cap : Nat) (zs : List Int) (w : World) (hi : Ints w a zs) (hn : zs.length ≤ 1048576) :
    Calls Try.prog 9 #[.agg #[.int .i64 n, .slice a zs.length cap]] w fun e w' => e = .returned (.bool (vsB n zs)) ∧ Below w.heap.size w w' := by
  by_cases h1 : 1 ≤ n ∧ n ≤ 4
  · have hd : decide (1 ≤ n ∧ n ≤ 4) = true := by simpa using h1
    obtain ⟨h1, h4⟩ := h1
    by_cases h0 : zs.length = 0
    · have hz : ((zs.length : Int) == 0) = true := by simpa using h0
      have HF := hide (vsB_false (n := n) (zs := zs) (fun h => by have := h.2.1; omega))
      clear h0
      go_enter Try.func9, Try.ntmps9
      go_wp2_with (go_at_call 34; refine (validIssues_any _ _).mono ?_; rintro e w' ⟨rfl, rfl⟩)
      go_ret
      exact ⟨ret_bool HF.out.symm, bel1 w _⟩
    · have hz : ((zs.length : Int) == 0) = false := by simpa using h0
      have hpos : 0 < zs.length := by omega
      clear h0
      obtain ⟨b, off, rfl, hbl, hc⟩ := hi hpos
      have p1 := pw_pos n
      have p2 := pw_le n h4
      go_enter Try.func9, Try.ntmps9
      go_wp2_with (go_at_call 34; refine (validIssues_any _ _).mono ?_; rintro e w' ⟨rfl, rfl⟩)
      go_loopw [18] (fun i wr => ∃ k : Nat, k ≤ zs.length ∧ i = .int .i64 k ∧ (∀ j, j < k → okAt n zs j) ∧ Below (w.heap.size + 1) (w.alloc (.cells #[.int .i64 n, .slice (some ⟨b, off, none⟩) zs.length cap] 25)) wr) (fun i _ => zs.length - (intOf i).toNat)
      case atStart => exact ⟨0, Nat.zero_le _, rfl, fun j hj => by omega, Below.refl _ _⟩
      case round =>
        obtain ⟨k, hk, rfl, hall, hb⟩ := hrel
        have HA := hide hall
        clear hall
        have c0 : wr.cell? ⟨w.heap.size, 0, none⟩ = some (.int .i64 n) := (hb.cell (p := ⟨w.heap.size, 0, none⟩) (by simp)).trans (by simp [go_sem])
        have c1 : wr.cell? ⟨w.heap.size, 1, none⟩ = some (.slice (some ⟨b, off, none⟩) zs.length cap) := (hb.cell (p := ⟨w.heap.size, 1, none⟩) (by simp)).trans (by simp [go_sem])
        by_cases hlt : k < zs.length
        · have hck : wr.cell? ⟨b, off + k, none⟩ = some (.int .i64 zs[k]) := by
            rw [← getD_lt hlt]
            exact (hb.cell (p := ⟨b, off + k, none⟩) (by simp; omega)).trans ((World.cell?_alloc_past _ _ _ hbl).trans (hc k hlt))
          by_cases hr : 0 ≤ zs[k] ∧ zs[k] ≤ pw n - 1
          · have hd2 : decide (0 ≤ zs[k] ∧ zs[k] ≤ pw n - 1) = true := by simpa using hr
            have HR := hide hr
            clear hr
            by_cases hk0 : k = 0
            · have hg : decide ((0 : Int) < (k : Int)) = false := by simp; omega
              have hg2 : decide (0 < k) = false := by simp; omega
              have HK := hide hk0
              clear hk0 hc
              go_wp2_with (go_at_call 35; refine (isJudgment_any _ _ _ (by omega) (by omega)).mono ?_; rintro e w' ⟨rfl, rfl⟩)
              go_roundw
              case rel => exact ⟨k + 1, by omega, by go_num, fun j hj => by
                obtain rfl : j = k := by have := HK.out; omega
                unfold okAt
                rw [getD_lt hlt]
                exact ⟨HR.out, fun h => by have := HK.out; omega⟩, hb⟩
              case measure => simp only [intOf]; omega
            · have hkp : 0 < k := by omega
              have hlt' : k - 1 < zs.length := by omega
              have hcm : wr.cell? ⟨b, off + (k - 1), none⟩ = some (.int .i64 zs[k - 1]) := by
                rw [← getD_lt hlt']
                exact (hb.cell (p := ⟨b, off + (k - 1), none⟩) (by simp; omega)).trans ((World.cell?_alloc_past _ _ _ hbl).trans (hc _ hlt'))
              clear hk0 hc
              by_cases hle : zs[k] ≤ zs[k - 1]
              · have hdl : decide (zs[k] ≤ zs[k - 1]) = true := by simpa using hle
                have HF := hide (vsB_false (n := n) (zs := zs) (fun h => by have := (h.2.2 k hlt).2 hkp; rw [getD_lt hlt, getD_lt hlt'] at this; omega))
                go_wp2_with (go_at_call 35; refine (isJudgment_any _ _ _ (by omega) (by omega)).mono ?_; rintro e w' ⟨rfl, rfl⟩)
                go_ret
                exact ⟨ret_bool HF.out.symm, (bel1 w _).trans (hb.mono (by omega))⟩
              · have hdl : decide (zs[k] ≤ zs[k - 1]) = false := by simpa using hle
                have HLE := hide hle
                clear hle
                go_wp2_with (go_at_call 35; refine (isJudgment_any _ _ _ (by omega) (by omega)).mono ?_; rintro e w' ⟨rfl, rfl⟩)
                go_roundw
                case rel => exact ⟨k + 1, by omega, by go_num, fun j hj => by
                  rcases Nat.lt_or_ge j k with h | h
                  · exact HA.out j h
                  · obtain rfl : j = k := by omega
                    unfold okAt
                    rw [getD_lt hlt, getD_lt hlt']
                    exact ⟨HR.out, fun _ => by have := HLE.out; omega⟩, hb⟩
                case measure => simp only [intOf]; omega
          · have hd2 : decide (0 ≤ zs[k] ∧ zs[k] ≤ pw n - 1) = false := by simpa using hr
            have HF := hide (vsB_false (n := n) (zs := zs) (fun h => hr (by have := (h.2.2 k hlt).1; rwa [getD_lt hlt] at this)))
            clear hr hc
            go_wp2_with (go_at_call 35; refine (isJudgment_any _ _ _ (by omega) (by omega)).mono ?_; rintro e w' ⟨rfl, rfl⟩)
            go_ret
            exact ⟨ret_bool HF.out.symm, (bel1 w _).trans (hb.mono (by omega))⟩
        · obtain rfl : k = zs.length := by omega
          go_wp2
          go_ret
          exact ⟨ret_bool (vsB_true ⟨⟨h1, h4⟩, hpos, HA.out⟩).symm, (bel1 w _).trans (hb.mono (by omega))⟩
  · have hd : decide (1 ≤ n ∧ n ≤ 4) = false := by simpa using h1
    have HF := hide (vsB_false (n := n) (zs := zs) (fun h => h1 h.1))
    clear h1
    go_enter Try.func9, Try.ntmps9
    go_wp2_with (go_at_call 34; refine (validIssues_any _ _).mono ?_; rintro e w' ⟨rfl, rfl⟩)
    go_ret
    exact ⟨ret_bool HF.out.symm, bel1 w _⟩
theorem inRange_yes (n l h : Int) (w : World) (hh : l ≤ n ∧ n ≤ h) : Calls Try.prog 31 #[.int .i64 n, .int .i64 l, .int .i64 h] w fun e w' => e = .returned (.bool true) ∧ w = w' :=
  (inRange_any n l h w).mono fun _ _ ⟨he, hw⟩ => ⟨by rw [he, decide_eq_true hh], hw⟩
theorem inRange_no (n l h : Int) (w : World) (hh : ¬ (l ≤ n ∧ n ≤ h)) : Calls Try.prog 31 #[.int .i64 n, .int .i64 l, .int .i64 h] w fun e w' => e = .returned (.bool false) ∧ w = w' :=
  (inRange_any n l h w).mono fun _ _ ⟨he, hw⟩ => ⟨by rw [he, decide_eq_false hh], hw⟩
theorem valid_of {n : Int} {zs : List Int} (h : vsB n zs = true) : Valid n zs := by simpa [vsB] using h
theorem valid_range {n : Int} {zs : List Int} (h : Valid n zs) : ∀ x ∈ zs, 0 ≤ x ∧ x ≤ 15 := by
  intro x hx
  obtain ⟨j, hj, rfl⟩ := List.getElem_of_mem hx
  have := (h.2.2 j hj).1
  rw [getD_lt hj] at this
  have := pw_le n h.1.2
  omega
end Go.Proofs.Ytbmodiobgkmngaa
