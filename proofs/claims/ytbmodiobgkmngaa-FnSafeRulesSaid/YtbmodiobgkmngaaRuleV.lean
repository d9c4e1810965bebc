/- Whether a rule by groups is valid, in the model and in the program. -/
import Derived.Test.YtbmodiobgkmngaaRule
import Derived.Test.YtbmodiobgkmngaaVotes
import Derived.Deep.RegionWith
import Derived.Deep.QuietTactic
import Derived.BigQuiet
import Derived.Deep.DeepCutAuto
namespace Go.Proofs.Ytbmodiobgkmngaa
open Go.RowKit Go.Joins

theorem isVoters {v : Int} (h : 1 ≤ v ∧ v ≤ 3) : v = 1 ∨ v = 2 ∨ v = 3 := by omega

theorem validVoters_any (k : Int) (w : World) : Calls Try.prog 64 #[.int .i64 k] w fun e w' => e = .returned (.bool (decide (1 ≤ k ∧ k ≤ 3))) ∧ w = w' := by
  by_cases h1 : 1 ≤ k <;> by_cases h2 : k ≤ 3
  all_goals
    go_enter Try.func64, Try.ntmps64
    go_wp2
    go_ret
    exact ⟨ret_bool (by simp [h1, h2]), rfl⟩
theorem validVoters_yes (k : Int) (w : World) (h : 1 ≤ k ∧ k ≤ 3) : Calls Try.prog 64 #[.int .i64 k] w fun e w' => e = .returned (.bool true) ∧ w = w' :=
  (validVoters_any k w).mono fun _ _ ⟨he, hw⟩ => ⟨by rw [he, decide_eq_true h], hw⟩
theorem validVoters_no (k : Int) (w : World) (h : ¬ (1 ≤ k ∧ k ≤ 3)) : Calls Try.prog 64 #[.int .i64 k] w fun e w' => e = .returned (.bool false) ∧ w = w' :=
  (validVoters_any k w).mono fun _ _ ⟨he, hw⟩ => ⟨by rw [he, decide_eq_false h], hw⟩

theorem countOfWins_any (v : Int) (w : World) (hv : v = 1 ∨ v = 2 ∨ v = 3) : Calls Try.prog 53 #[.int .i64 v] w fun e w' => e = .returned (.int .i64 (pw (pw v))) ∧ w = w' := by
  rcases hv with rfl | rfl | rfl
  all_goals
    go_enter Try.func53, Try.ntmps53
    go_wp2
    go_ret
    exact ⟨ret_int rfl, rfl⟩

theorem ruleClosure_any (v x : Int) (b : Option Addr) (len cap g : Nat) (w : World) (hv : v = 1 ∨ v = 2 ∨ v = 3) (bx : Box w g v b len cap) :
    Calls Try.prog 65 #[.int .i64 x, .pointer (some ⟨g, 0, none⟩)] w fun e w' => e = .returned (.bool (!okWin v x)) ∧ Below w.heap.size w w' := by
  obtain ⟨_, c0, c1⟩ := bx
  have HV := hide hv
  clear hv
  by_cases h1 : x < 0
  · go_enter Try.func65, Try.ntmps65
    go_wp2
    go_ret
    exact ⟨ret_bool (by rw [okWin_false (by omega)]; rfl), Below.refl _ _⟩
  · by_cases h2 : pw (pw v) ≤ x
    · go_enter Try.func65, Try.ntmps65
      go_wp2_with (go_at_call 53; refine (countOfWins_any _ _ HV.out).mono ?_; rintro e w' ⟨rfl, rfl⟩)
      go_ret
      exact ⟨ret_bool (by rw [okWin_false (by omega)]; rfl), Below.refl _ _⟩
    · go_enter Try.func65, Try.ntmps65
      go_wp2_with (go_at_call 53; refine (countOfWins_any _ _ HV.out).mono ?_; rintro e w' ⟨rfl, rfl⟩)
      go_ret
      exact ⟨ret_bool (by rw [okWin_true (by omega)]; simp; omega), Below.refl _ _⟩

set_option maxHeartbeats 1000000 in
theorem indexFuncR_any (p : Int → Bool) (a : Option Addr) (cap g : Nat) (zs : List Int) (w : World) (hi : Ints w a zs) (hn : zs.length ≤ 1048576)
    (hf : ∀ (x : Int) (w' : World), x ∈ zs → Below w.heap.size w w' → Calls Try.prog 65 #[.int .i64 x, .pointer (some ⟨g, 0, none⟩)] w' fun e w'' => e = .returned (.bool (p x)) ∧ Below w'.heap.size w' w'') :
    Calls Try.prog 80 #[.slice a zs.length cap, .func (.func 65) #[] #[.pointer (some ⟨g, 0, none⟩)]] w (IdxGPost p zs w) := by
  have HF := hide hf
  clear hf
  go_enter Try.func80, Try.ntmps80
  go_wp2_with fail
  go_loopw [8] (fun i wr => ∃ k : Nat, k ≤ zs.length ∧ i = .int .i64 k ∧ (∀ j, j < k → p (zs.getD j 0) = false) ∧ Below w.heap.size w wr) (fun i _ => zs.length - (intOf i).toNat)
  case atStart => exact ⟨0, Nat.zero_le _, rfl, fun j hj => by omega, Below.refl _ _⟩
  case round =>
    obtain ⟨k, hk, rfl, hall, hb⟩ := hrel
    have HA := hide hall
    clear hall
    by_cases hlt : k < zs.length
    · obtain ⟨bb, off, rfl, hbl, hc⟩ := (hi.below hb) (by omega)
      have hck := hc k hlt
      rw [getD_lt hlt] at hck
      clear hc hi
      by_cases he : p zs[k] = true
      · have HF2 := hide (any_true hlt he)
        have HE := hide he
        clear he
        go_wp2_with fail
        refine (HF.out _ _ (mem_of_at hlt) hb).mono ?_
        rintro e w1 ⟨rfl, h1⟩
        have he := HE.out
        go_wp2
        go_ret
        exact ⟨k, .inl ⟨HF2.out, by omega⟩, by omega, rfl, bnext hb h1⟩
      · have he : p zs[k] = false := by simpa using he
        have HE := hide he
        clear he
        go_wp2_with fail
        refine (HF.out _ _ (mem_of_at hlt) hb).mono ?_
        rintro e w1 ⟨rfl, h1⟩
        have he := HE.out
        go_wp2
        go_roundw
        case rel => exact ⟨k + 1, by omega, by go_num, fun j hj => by
          rcases Nat.lt_or_ge j k with h | h
          · exact HA.out j h
          · obtain rfl : j = k := by omega
            rw [getD_lt hlt]
            exact HE.out, bnext hb h1⟩
        case measure => simp only [intOf]; omega
    · obtain rfl : k = zs.length := by omega
      go_wp2
      go_ret
      exact ⟨-1, .inr ⟨any_false HA.out, rfl⟩, by omega, rfl, hb⟩

set_option maxHeartbeats 1000000 in
theorem containsFuncR_any (p : Int → Bool) (a : Option Addr) (cap g : Nat) (zs : List Int) (w : World) (hi : Ints w a zs) (hn : zs.length ≤ 1048576)
    (hf : ∀ (x : Int) (w' : World), x ∈ zs → Below w.heap.size w w' → Calls Try.prog 65 #[.int .i64 x, .pointer (some ⟨g, 0, none⟩)] w' fun e w'' => e = .returned (.bool (p x)) ∧ Below w'.heap.size w' w'') :
    Calls Try.prog 57 #[.slice a zs.length cap, .func (.func 65) #[] #[.pointer (some ⟨g, 0, none⟩)]] w fun e w' => e = .returned (.bool (zs.any p)) ∧ Below w.heap.size w w' := by
  have HF := hide hf
  clear hf
  by_cases hm : zs.any p = true
  · have HM := hide hm
    clear hm
    go_enter Try.func57, Try.ntmps57
    go_wp2_with fail
    refine (indexFuncR_any p _ _ _ _ _ hi hn HF.out).mono ?_
    rintro e w' ⟨r, hr, hr2, rfl, hb⟩
    have h0 : 0 ≤ r := by
      rcases hr with ⟨_, h⟩ | ⟨h, _⟩
      · exact h
      · rw [HM.out] at h; cases h
    clear hr
    go_wp2
    go_ret
    exact ⟨ret_bool HM.out.symm, hb⟩
  · have hm : zs.any p = false := by simpa using hm
    have HM := hide hm
    clear hm
    go_enter Try.func57, Try.ntmps57
    go_wp2_with fail
    refine (indexFuncR_any p _ _ _ _ _ hi hn HF.out).mono ?_
    rintro e w' ⟨r, hr, hr2, rfl, hb⟩
    have h0 : r < 0 := by
      rcases hr with ⟨h, _⟩ | ⟨_, h⟩
      · rw [HM.out] at h; cases h
      · omega
    clear hr
    go_wp2
    go_ret
    exact ⟨ret_bool (by rw [HM.out]; simp; omega), hb⟩


theorem rule_any {n v : Int} {ws : List Int} (hv : 1 ≤ v ∧ v ≤ 3) (hl : (ws.length : Int) = n) : ruleB n v ws = !(ws.any fun x => !okWin v x) := by
  by_cases h : ∀ j, j < ws.length → okWin v (ws.getD j 0) = true
  · rw [ruleB_true ⟨hv, hl, h⟩, any_false (fun j hj => by rw [h j hj]; rfl)]; rfl
  · rw [ruleB_false (fun hh : RuleOk n v ws => h hh.2.2)]
    cases ha : ws.any fun x => !okWin v x
    · exfalso
      apply h
      intro j hj
      rw [List.any_eq_false] at ha
      have := ha _ (mem_of_at hj)
      rw [getD_lt hj]
      simpa using this
    · rfl

set_option maxHeartbeats 2000000 in
theorem implValidRule_any (n v : Int) (a b : Option Addr) (cap capb : Nat) (zs ws : List Int) (w : World) (hi : Ints w a zs) (hj : Ints w b ws) (hn : zs.length ≤ 1048576) (hm : ws.length ≤ 1048576) :
    Calls Try.prog 36 #[.agg #[.int .i64 n, .slice a zs.length cap], .agg #[.int .i64 v, .slice b ws.length capb]] w fun e w' => e = .returned (.bool (vrB n zs v ws)) ∧ Below w.heap.size w w' := by
  have S0 := SR.new w n v a b zs ws cap capb 25 34 hi hj
  clear hi hj
  by_cases hv : vsB n zs = false
  · have HV := hide (vrB_no (v := v) (ws := ws) hv)
    go_enter Try.func36, Try.ntmps36
    go_wp2_with fail
    refine (implValidSpace_any _ _ _ _ _ S0.2.2.1 hn).mono ?_
    rintro e w1 ⟨rfl, hb⟩
    go_wp2
    go_ret
    exact ⟨ret_bool HV.out.symm, (S0.below hb).2.2.2.2⟩
  · have hv : vsB n zs = true := by simpa using hv
    by_cases hr : 1 ≤ v ∧ v ≤ 3
    · by_cases hl : (ws.length : Int) = n
      · have HV := hide ((vrB_yes (v := v) (ws := ws) hv).trans (rule_any hr hl))
        have hE : ((ws.length : Int) != n) = false := by simpa using hl
        have HR := hide hr
        clear hl hr
        go_enter Try.func36, Try.ntmps36
        go_wp2_with fail
        refine (implValidSpace_any _ _ _ _ _ S0.2.2.1 hn).mono ?_
        rintro e w1 ⟨rfl, hb⟩
        have S1 := S0.below hb
        have HS := hide S1
        clear S0 hb
        obtain ⟨⟨_, c0, c1⟩, ⟨_, d0, d1⟩, _⟩ := S1
        go_wp2_with (go_at_call 64; refine (validVoters_yes _ _ HR.out).mono ?_; rintro e w' ⟨rfl, rfl⟩)
        refine (containsFuncR_any (fun x => !okWin v x) _ _ _ _ _ HS.out.2.2.2.1 hm (fun x w' _ hb' => ruleClosure_any v _ b ws.length capb _ _ (isVoters HR.out) (HS.out.below hb').2.1)).mono ?_
        rintro e w2 ⟨rfl, hb2⟩
        go_wp2
        go_ret
        exact ⟨ret_bool HV.out.symm, (HS.out.below hb2).2.2.2.2⟩
      · have HV := hide ((vrB_yes (v := v) (ws := ws) hv).trans (ruleB_false (fun h : RuleOk n v ws => hl h.2.1)))
        have hE : ((ws.length : Int) != n) = true := by simpa using hl
        have HR := hide hr
        clear hl hr
        go_enter Try.func36, Try.ntmps36
        go_wp2_with fail
        refine (implValidSpace_any _ _ _ _ _ S0.2.2.1 hn).mono ?_
        rintro e w1 ⟨rfl, hb⟩
        have S1 := S0.below hb
        have HS := hide S1
        clear S0 hb
        obtain ⟨⟨_, c0, c1⟩, ⟨_, d0, d1⟩, _⟩ := S1
        go_wp2_with (go_at_call 64; refine (validVoters_yes _ _ HR.out).mono ?_; rintro e w' ⟨rfl, rfl⟩)
        go_ret
        exact ⟨ret_bool HV.out.symm, HS.out.2.2.2.2⟩
    · have HV := hide ((vrB_yes (v := v) (ws := ws) hv).trans (ruleB_false (fun h : RuleOk n v ws => hr h.1)))
      have HR := hide hr
      clear hr
      go_enter Try.func36, Try.ntmps36
      go_wp2_with fail
      refine (implValidSpace_any _ _ _ _ _ S0.2.2.1 hn).mono ?_
      rintro e w1 ⟨rfl, hb⟩
      have S1 := S0.below hb
      have HS := hide S1
      clear S0 hb
      obtain ⟨⟨_, c0, c1⟩, ⟨_, d0, d1⟩, _⟩ := S1
      go_wp2_with (go_at_call 64; refine (validVoters_no _ _ HR.out).mono ?_; rintro e w' ⟨rfl, rfl⟩)
      go_ret
      exact ⟨ret_bool HV.out.symm, HS.out.2.2.2.2⟩
end Go.Proofs.Ytbmodiobgkmngaa
