/- Neutral rules and dictators, in the model. -/
import Derived.Test.YtklfpbidbiippaaTabS
namespace Go.Proofs.Ytklfpbidbiippaa
open Go.RowKit Go.Joins

/-- a group and that of the others win both, or neither -/
def badNeut (v : Int) (x g : Nat) : Bool := bitN x g == bitN x ((pw v).toNat - 1 - g)
def NeutS (v : Int) (ws : List Int) : Prop := ∀ j, j < ws.length → ∀ g : Nat, (g : Int) < pw v → badNeut v (ws.getD j 0).toNat g = false
def NeutPost (n : Int) (zs : List Int) (v : Int) (ws : List Int) (w : World) (e : Ending) (w' : World) : Prop := ∃ r : Bool, (r = true ↔ (vrB n zs v ws = true ∧ NeutS v ws)) ∧ e = .returned (.bool r) ∧ Below w.heap.size w w'
set_option maxHeartbeats 8000000 in
set_option maxRecDepth 100000 in
theorem specIsNeutral_post (n v : Int) (a b : Option Addr) (cap capb : Nat) (zs ws : List Int) (w : World) (hi : Ints w a zs) (hj : Ints w b ws) (hn : zs.length ≤ 1048576) (hm : ws.length ≤ 1048576) :
    Calls Try.prog 44 #[.agg #[.int .i64 n, .slice a zs.length cap], .agg #[.int .i64 v, .slice b ws.length capb]] w (NeutPost n zs v ws w) := by
  have S0 := SR.new w n v a b zs ws cap capb 25 41 hi hj
  clear hi hj
  by_cases hv : vsB n zs = false
  · have HV := hide (vrB_no (v := v) (ws := ws) hv)
    go_enter Try.func44, Try.ntmps44
    go_wp2_with fail
    refine (validSpace_any _ _ _ _ _ S0.2.2.1 hn).mono ?_
    rintro e w1 ⟨rfl, hb⟩
    go_wp2
    go_ret
    exact ⟨false, ⟨(fun h => by cases h), (fun h => by rw [HV.out] at h; cases h.1)⟩, rfl, (S0.below hb).2.2.2.2⟩
  · have hv : vsB n zs = true := by simpa using hv
    by_cases hr : ruleB n v ws = false
    · have HV := hide ((vrB_yes (v := v) (ws := ws) hv).trans hr)
      go_enter Try.func44, Try.ntmps44
      go_wp2_with fail
      refine (validSpace_any _ _ _ _ _ S0.2.2.1 hn).mono ?_
      rintro e w1 ⟨rfl, hb⟩
      have S1 := S0.below hb
      have HS := hide S1
      clear S0 hb
      obtain ⟨⟨_, c0, c1⟩, ⟨_, d0, d1⟩, _⟩ := S1
      go_wp2_with fail
      refine (validRule_any _ _ _ _ _ _ _ _ _ HS.out.2.2.1 HS.out.2.2.2.1 hm).mono ?_
      rintro e w2 ⟨rfl, hb2⟩
      go_wp2
      go_ret
      exact ⟨false, ⟨(fun h => by cases h), (fun h => by rw [HV.out] at h; cases h.1)⟩, rfl, (HS.out.below hb2).2.2.2.2⟩
    · have hr : ruleB n v ws = true := by simpa using hr
      have HV := hide ((vrB_yes (v := v) (ws := ws) hv).trans hr)
      have HRO := hide (rule_of hr)
      have HX := hide (rule_of hr).range
      have hv1 := (rule_of hr).1.1
      have hv3 := (rule_of hr).1.2
      have p1 := pw_pos v
      have p2 := pw_le3 v hv3
      have hw : IntKind.i64.wrap (pw v - 1) = pw v - 1 := IntWalk.i64_in _ (by omega)
      have HW := hide hw
      clear hw
      go_enter Try.func44, Try.ntmps44
      go_wp2_with fail
      refine (validSpace_any _ _ _ _ _ S0.2.2.1 hn).mono ?_
      rintro e w1 ⟨rfl, hb⟩
      have S1 := S0.below hb
      have HS := hide S1
      clear S0 hb
      obtain ⟨⟨_, c0, c1⟩, ⟨_, d0, d1⟩, _⟩ := S1
      go_wp2_with fail
      refine (validRule_any _ _ _ _ _ _ _ _ _ HS.out.2.2.1 HS.out.2.2.2.1 hm).mono ?_
      rintro e w2 ⟨rfl, hb2⟩
      have S2 := hide (HS.out.below hb2)
      clear c0 c1 d0 d1 HS hb2
      go_wp2_with fail
      go_loopw [5] (fun s wr => ∃ j : Nat, j ≤ ws.length ∧ s = .int .i64 j ∧ (∀ j', j' < j → ∀ g : Nat, (g : Int) < pw v → badNeut v (ws.getD j' 0).toNat g = false) ∧ SR w n a zs cap v b ws capb wr) (fun s _ => ws.length - (intOf s).toNat)
      case atStart => exact ⟨0, Nat.zero_le _, rfl, fun j hj => by omega, S2.out⟩
      case round =>
        clear S2
        obtain ⟨j, hj, rfl, hall, S1⟩ := hrel
        have HA := hide hall
        have HS1 := hide S1
        clear hall
        obtain ⟨_, ⟨_, c0, c1⟩, _, ib, _⟩ := S1
        by_cases hlt : j < ws.length
        · have hr2 := HX.out _ (mem_of_at hlt)
          have HR : Hid (0 ≤ ws[j] ∧ ws[j] ≤ 65535) := ⟨hr2.1, by omega⟩
          clear ib hr2
          go_wp2_with fail
          clear c0 c1
          obtain ⟨wo, hwo⟩ : ∃ wo : World, wo = wr := ⟨_, rfl⟩
          subst hwo
          go_loopw [6] (fun s wr => ∃ g : Nat, (g : Int) ≤ pw v ∧ s = .int .i64 g ∧ (∀ g', g' < g → badNeut v (ws.getD j 0).toNat g' = false) ∧ SR w n a zs cap v b ws capb wr) (fun s _ => 8 - (intOf s).toNat)
          case atStart => exact ⟨0, by omega, rfl, fun g hg => by omega, HS1.out⟩
          case round =>
            clear HS1
            obtain ⟨g, hg, rfl, hall, S2⟩ := hrel
            have HG := hide hall
            have HS2 := hide S2
            clear hall
            obtain ⟨_, ⟨_, c0, c1⟩, _, ib, _⟩ := S2
            by_cases hgl : (g : Int) < pw v
            · obtain ⟨bb, off, rfl, hbl, hc⟩ := ib (by omega)
              have hck := hc j hlt
              rw [getD_lt hlt] at hck
              have hw := HW.out
              have hw2 : IntKind.i64.wrap (pw v - 1 - (g : Int)) = pw v - 1 - (g : Int) := IntWalk.i64_in _ (by omega)
              have ht : (pw v - 1 - (g : Int)).toNat = (pw v).toNat - 1 - g := by omega
              clear hc ib
              cases h1 : (bitN ws[j].toNat g == bitN ws[j].toNat ((pw v).toNat - 1 - g))
              · have e1 : (((bitN ws[j].toNat g : Nat) : Int) == ((bitN ws[j].toNat ((pw v).toNat - 1 - g) : Nat) : Int)) = false := by rw [← h1]; exact beq_cast _ _
                have HN : Hid (badNeut v (ws.getD j 0).toNat g = false) := by unfold Hid badNeut; rw [getD_lt hlt, h1]
                clear h1
                go_wp2_with (go_at_call 98; refine (powerL_any _ _ (by omega) (by omega)).mono ?_; rintro e w' ⟨rfl, rfl⟩)
                go_quiet ((first | (go_at_call 98; exact quiet_left (powerL_any _ _ (by omega) (by omega))) | (go_at_call 112; exact quiet_left (bitZ_any _ _ _ HR.out (by omega)))))
                clear hw hw2 ht
                go_wp2
                go_roundw
                case rel => exact ⟨g + 1, by omega, by go_num, fun g' hg' => by
                  rcases Nat.lt_or_ge g' g with h | h
                  · exact HG.out g' h
                  · obtain rfl : g' = g := by omega
                    exact HN.out, HS2.out.below (belN _ _)⟩
                case measure => simp only [intOf]; omega
              · have e1 : (((bitN ws[j].toNat g : Nat) : Int) == ((bitN ws[j].toNat ((pw v).toNat - 1 - g) : Nat) : Int)) = true := by rw [← h1]; exact beq_cast _ _
                have HN : Hid (badNeut v (ws.getD j 0).toNat g = true) := by unfold Hid badNeut; rw [getD_lt hlt, h1]
                clear h1
                go_wp2_with (go_at_call 98; refine (powerL_any _ _ (by omega) (by omega)).mono ?_; rintro e w' ⟨rfl, rfl⟩)
                go_quiet ((first | (go_at_call 98; exact quiet_left (powerL_any _ _ (by omega) (by omega))) | (go_at_call 112; exact quiet_left (bitZ_any _ _ _ HR.out (by omega)))))
                clear hw hw2 ht
                go_wp2
                go_ret
                exact ⟨false, ⟨(fun h => by cases h), (fun h => by have := h.2 j hlt g hgl; rw [HN.out] at this; cases this)⟩, rfl, (HS2.out.below (belN _ _)).2.2.2.2⟩
            · have HGL := hide hgl
              go_wp2_with (go_at_call 98; refine (powerL_any _ _ (by omega) (by omega)).mono ?_; rintro e w' ⟨rfl, rfl⟩)
              go_roundw
              case rel => exact ⟨j + 1, by omega, by go_num, fun j' hj' g' hg' => by
                rcases Nat.lt_or_ge j' j with h | h
                · exact HA.out j' h g' hg'
                · obtain rfl : j' = j := by omega
                  exact HG.out g' (by have := HGL.out; omega), HS2.out⟩
              case measure => simp only [intOf]; omega
        · obtain rfl : j = ws.length := by omega
          go_wp2
          go_ret
          exact ⟨true, ⟨fun _ => ⟨HV.out, HA.out⟩, fun _ => rfl⟩, rfl, HS1.out.2.2.2.2⟩
end Go.Proofs.Ytklfpbidbiippaa
