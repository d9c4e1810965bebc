/- What the model says of sets of groups: monotone, unanimous, neutral, dictators. -/
import Derived.Test.YtbmodiobgkmngaaTabG
import Derived.Test.YtbmodiobgkmngaaBit
namespace Go.Proofs.Ytbmodiobgkmngaa
open Go.RowKit Go.Joins

theorem bitZ_any (x j : Int) (w : World) (hx : 0 ≤ x ∧ x ≤ 65535) (hj : 0 ≤ j ∧ j ≤ 8) : Calls Try.prog 83 #[.int .i64 x, .int .i64 j] w fun e w' => e = .returned (.int .i64 (bitN x.toNat j.toNat : Nat)) ∧ w = w' := by
  obtain ⟨a, rfl⟩ := Int.eq_ofNat_of_zero_le hx.1
  have h0 : pw 0 = 1 := rfl
  have h1 : pw 1 = 2 := rfl
  have h2 : pw 2 = 4 := rfl
  have h3 : pw 3 = 8 := rfl
  have h4 : pw 4 = 16 := rfl
  have h5 : pw 5 = 32 := rfl
  have h6 : pw 6 = 64 := rfl
  have h7 : pw 7 = 128 := rfl
  have h8 : pw 8 = 256 := rfl
  have ha : a ≤ 65535 := by omega
  rcases (show j = 0 ∨ j = 1 ∨ j = 2 ∨ j = 3 ∨ j = 4 ∨ j = 5 ∨ j = 6 ∨ j = 7 ∨ j = 8 from by omega) with rfl | rfl | rfl | rfl | rfl | rfl | rfl | rfl | rfl
  all_goals
    go_enter Try.func83, Try.ntmps83
    go_wp2_with (go_at_call 60; refine (powerL_any _ _ (by omega) (by omega)).mono ?_; rintro e w' ⟨rfl, rfl⟩)
    go_ret
    exact ⟨ret_int (by unfold bitN; simp only [Int.toNat_natCast]; simp; try omega), rfl⟩
theorem bitG_any (x : Int) (j : Nat) (w : World) (hx : 0 ≤ x ∧ x ≤ 255) (hj : j ≤ 8) : Calls Try.prog 83 #[.int .i64 x, .int .i64 j] w fun e w' => e = .returned (.int .i64 (bitN x.toNat j : Nat)) ∧ w = w' := by
  have h := bitZ_any x j w ⟨hx.1, by omega⟩ ⟨by omega, by omega⟩
  rwa [Int.toNat_natCast] at h

/-- a rule in a variable -/
def RV (w0 : World) (v : Int) (b : Option Addr) (ws : List Int) (capb : Nat) (wx : World) : Prop := SV w0 v b ws capb none [] wx
theorem RV.below {w0 wx wy : World} {v : Int} {b : Option Addr} {ws : List Int} {capb : Nat} (h : RV w0 v b ws capb wx) (hb : Below wx.heap.size wx wy) : RV w0 v b ws capb wy := SV.below h hb
theorem RV.new (w : World) (v : Int) (b : Option Addr) (ws : List Int) (capb : Nat) (t : TypeId) (hi : Ints w b ws) : RV w v b ws capb (w.alloc (.cells #[.int .i64 v, .slice b ws.length capb] t)) :=
  SV.new w v b ws capb none [] t hi (Ints.nil _ _)

/-- a group that wins, and one with a voter more that does not -/
def badStep (x g i : Nat) : Bool := bitN x g == 1 && bitN x (g ||| 2 ^ i) == 0
def MonoS (v : Int) (ws : List Int) : Prop := ∀ j, j < ws.length → ∀ g : Nat, (g : Int) < pw v → ∀ i : Nat, (i : Int) < v → badStep (ws.getD j 0).toNat g i = false
theorem or_pw (g i : Nat) (hg : g < 8) (hi : i < 3) : bits .or .i64 (g : Int) (pw (i : Int)) = ((g ||| 2 ^ i : Nat) : Int) ∧ g ||| 2 ^ i < 8 := by
  have e : pw (i : Int) = ((2 ^ i : Nat) : Int) := by unfold pw; rw [Int.toNat_natCast]
  have h8 : 2 ^ i < 8 := by rcases (show i = 0 ∨ i = 1 ∨ i = 2 from by omega) with rfl | rfl | rfl <;> decide
  rw [e]
  exact ⟨or_gen _ _ (by omega) (by omega), Nat.or_lt_two_pow (n := 3) hg h8⟩
def MonoPost (v : Int) (ws : List Int) (w : World) (e : Ending) (w' : World) : Prop := ∃ r : Bool, (r = true ↔ MonoS v ws) ∧ e = .returned (.bool r) ∧ Below w.heap.size w w'

set_option maxHeartbeats 4000000 in
set_option maxRecDepth 100000 in
theorem monotone_any (v : Int) (b : Option Addr) (ws : List Int) (capb : Nat) (w : World) (hv : 1 ≤ v ∧ v ≤ 3) (hx : ∀ x ∈ ws, 0 ≤ x ∧ x ≤ 255) (hj : Ints w b ws) (hm : ws.length ≤ 1048576) :
    Calls Try.prog 62 #[.agg #[.int .i64 v, .slice b ws.length capb]] w (MonoPost v ws w) := by
  have S0 := hide (RV.new w v b ws capb 34 hj)
  have HX := hide hx
  have hv1 := hv.1
  have hv3 := hv.2
  have p1 := pw_pos v
  have p2 := pw_le3 v hv.2
  clear hj hx hv
  go_enter Try.func62, Try.ntmps62
  go_wp2_with fail
  go_loopw [3] (fun s wr => ∃ j : Nat, j ≤ ws.length ∧ s = .int .i64 j ∧ (∀ j', j' < j → ∀ g : Nat, (g : Int) < pw v → ∀ i : Nat, (i : Int) < v → badStep (ws.getD j' 0).toNat g i = false) ∧ RV w v b ws capb wr) (fun s _ => ws.length - (intOf s).toNat)
  case atStart => exact ⟨0, Nat.zero_le _, rfl, fun j hj => by omega, S0.out⟩
  case round =>
    clear S0
    obtain ⟨j, hj, rfl, hall, S1⟩ := hrel
    have HA := hide hall
    have HS1 := hide S1
    clear hall
    obtain ⟨⟨_, c0, c1⟩, ib, _⟩ := S1
    by_cases hlt : j < ws.length
    · have hr := HX.out _ (mem_of_at hlt)
      have HR := hide hr
      clear ib hr
      go_wp2_with fail
      clear c0 c1
      obtain ⟨wo, hwo⟩ : ∃ wo : World, wo = wr := ⟨_, rfl⟩
      subst hwo
      go_loopw [4] (fun s wr => ∃ g : Nat, (g : Int) ≤ pw v ∧ s = .int .i64 g ∧ (∀ g', g' < g → ∀ i : Nat, (i : Int) < v → badStep (ws.getD j 0).toNat g' i = false) ∧ RV w v b ws capb wr) (fun s _ => 8 - (intOf s).toNat)
      case atStart => exact ⟨0, by omega, rfl, fun g hg => by omega, HS1.out⟩
      case round =>
        clear HS1
        obtain ⟨g, hg, rfl, hall, S2⟩ := hrel
        have HG := hide hall
        have HS2 := hide S2
        clear hall
        obtain ⟨⟨_, c0, c1⟩, _⟩ := S2
        by_cases hgl : (g : Int) < pw v
        · go_wp2_with (go_at_call 60; refine (powerL_any _ _ (by omega) (by omega)).mono ?_; rintro e w' ⟨rfl, rfl⟩)
          clear c0 c1
          obtain ⟨wo2, hwo2⟩ : ∃ wo2 : World, wo2 = wr := ⟨_, rfl⟩
          subst hwo2
          go_loopw [5] (fun s wr => ∃ i : Nat, (i : Int) ≤ v ∧ s = .int .i64 i ∧ (∀ i', i' < i → badStep (ws.getD j 0).toNat g i' = false) ∧ RV w v b ws capb wr) (fun s _ => 3 - (intOf s).toNat)
          case atStart => exact ⟨0, by omega, rfl, fun i hi => by omega, HS2.out⟩
          case round =>
            clear HS2
            obtain ⟨i, hi, rfl, hall, S3⟩ := hrel
            have HI := hide hall
            have HS3 := hide S3
            clear hall
            obtain ⟨⟨_, c0, c1⟩, ib, _⟩ := S3
            by_cases hil : (i : Int) < v
            · obtain ⟨bb, off, rfl, hbl, hc⟩ := ib (by omega)
              have hck := hc j hlt
              rw [getD_lt hlt] at hck
              have ho := (or_pw g i (by omega) (by omega)).1
              have ho8 := (or_pw g i (by omega) (by omega)).2
              clear hc ib
              cases h1 : (bitN ws[j].toNat g == 1)
              · have e1 : (((bitN ws[j].toNat g : Nat) : Int) == 1) = false := by rw [← h1, Bool.eq_iff_iff, beq_iff_eq, beq_iff_eq]; omega
                have HN : Hid (badStep (ws.getD j 0).toNat g i = false) := by unfold Hid badStep; rw [getD_lt hlt, h1]; rfl
                clear h1
                go_wp2
                go_quiet ((first | (go_at_call 60; exact quiet_left (powerL_any _ _ (by omega) (by omega))) | (go_at_call 83; exact quiet_left (bitG_any _ _ _ HR.out (by omega)))))
                go_wp2
                go_roundw
                case rel => exact ⟨i + 1, by omega, by go_num, fun i' hi' => by
                  rcases Nat.lt_or_ge i' i with h | h
                  · exact HI.out i' h
                  · obtain rfl : i' = i := by omega
                    exact HN.out, HS3.out.below (belN _ _)⟩
                case measure => simp only [intOf]; omega
              · have e1 : (((bitN ws[j].toNat g : Nat) : Int) == 1) = true := by rw [← h1, Bool.eq_iff_iff, beq_iff_eq, beq_iff_eq]; omega
                cases h2 : (bitN ws[j].toNat (g ||| 2 ^ i) == 0)
                · have e2 : (((bitN ws[j].toNat (g ||| 2 ^ i) : Nat) : Int) == 0) = false := by rw [← h2, Bool.eq_iff_iff, beq_iff_eq, beq_iff_eq]; omega
                  have HN : Hid (badStep (ws.getD j 0).toNat g i = false) := by unfold Hid badStep; rw [getD_lt hlt, h1, h2]; rfl
                  clear h1 h2
                  go_wp2
                  go_quiet ((first | (go_at_call 60; exact quiet_left (powerL_any _ _ (by omega) (by omega))) | (go_at_call 83; exact quiet_left (bitG_any _ _ _ HR.out (by omega)))))
                  go_wp2
                  go_roundw
                  case rel => exact ⟨i + 1, by omega, by go_num, fun i' hi' => by
                    rcases Nat.lt_or_ge i' i with h | h
                    · exact HI.out i' h
                    · obtain rfl : i' = i := by omega
                      exact HN.out, HS3.out.below (belN _ _)⟩
                  case measure => simp only [intOf]; omega
                · have e2 : (((bitN ws[j].toNat (g ||| 2 ^ i) : Nat) : Int) == 0) = true := by rw [← h2, Bool.eq_iff_iff, beq_iff_eq, beq_iff_eq]; omega
                  have HN : Hid (badStep (ws.getD j 0).toNat g i = true) := by unfold Hid badStep; rw [getD_lt hlt, h1, h2]; rfl
                  clear h1 h2
                  go_wp2
                  go_quiet ((first | (go_at_call 60; exact quiet_left (powerL_any _ _ (by omega) (by omega))) | (go_at_call 83; exact quiet_left (bitG_any _ _ _ HR.out (by omega)))))
                  go_wp2
                  go_ret
                  exact ⟨false, ⟨(fun h => by cases h), (fun h => by have := h j hlt g hgl i hil; rw [HN.out] at this; cases this)⟩, rfl, (HS3.out.below (belN _ _)).2.2.2⟩
            · have hiv : (i : Int) = v := by omega
              have HIV := hide hiv
              clear hiv
              go_wp2_with fail
              go_roundw
              case rel => exact ⟨g + 1, by omega, by go_num, fun g' hg' i' hi' => by
                rcases Nat.lt_or_ge g' g with h | h
                · exact HG.out g' h i' hi'
                · obtain rfl : g' = g := by omega
                  exact HI.out i' (by have := HIV.out; omega), HS3.out⟩
              case measure => simp only [intOf]; omega
        · have HGL := hide hgl
          go_wp2_with (go_at_call 60; refine (powerL_any _ _ (by omega) (by omega)).mono ?_; rintro e w' ⟨rfl, rfl⟩)
          go_roundw
          case rel => exact ⟨j + 1, by omega, by go_num, fun j' hj' g' hg' i' hi' => by
            rcases Nat.lt_or_ge j' j with h | h
            · exact HA.out j' h g' hg' i' hi'
            · obtain rfl : j' = j := by omega
              exact HG.out g' (by have := HGL.out; omega) i' hi', HS2.out⟩
          case measure => simp only [intOf]; omega
    · obtain rfl : j = ws.length := by omega
      go_wp2
      go_ret
      exact ⟨true, ⟨fun _ => HA.out, fun _ => rfl⟩, rfl, HS1.out.2.2.2⟩

theorem beq_cast (a b : Nat) : (((a : Nat) : Int) == ((b : Nat) : Int)) = (a == b) := by rw [Bool.eq_iff_iff, beq_iff_eq, beq_iff_eq]; omega
theorem beq_one (a : Nat) : (((a : Nat) : Int) == 1) = (a == 1) := beq_cast a 1
theorem beq_zero (a : Nat) : (((a : Nat) : Int) == 0) = (a == 0) := beq_cast a 0
/-- the group of none wins, or that of all does not -/
def badUnan (v : Int) (x : Nat) : Bool := bitN x 0 == 1 || bitN x ((pw v).toNat - 1) == 0
def UnanS (v : Int) (ws : List Int) : Prop := ∀ j, j < ws.length → badUnan v (ws.getD j 0).toNat = false
def UnanPost (v : Int) (ws : List Int) (w : World) (e : Ending) (w' : World) : Prop := ∃ r : Bool, (r = true ↔ UnanS v ws) ∧ e = .returned (.bool r) ∧ Below w.heap.size w w'
set_option maxHeartbeats 4000000 in
theorem unanimous_any (v : Int) (b : Option Addr) (ws : List Int) (capb : Nat) (w : World) (hv : 1 ≤ v ∧ v ≤ 3) (hx : ∀ x ∈ ws, 0 ≤ x ∧ x ≤ 255) (hj : Ints w b ws) (hm : ws.length ≤ 1048576) :
    Calls Try.prog 63 #[.agg #[.int .i64 v, .slice b ws.length capb]] w (UnanPost v ws w) := by
  have S0 := hide (RV.new w v b ws capb 34 hj)
  have HX := hide hx
  have hv1 := hv.1
  have hv3 := hv.2
  have p1 := pw_pos v
  have p2 := pw_le3 v hv.2
  have hw : IntKind.i64.wrap (pw v - 1) = pw v - 1 := IntWalk.i64_in _ (by omega)
  have HW := hide hw
  clear hj hx hv hw
  go_enter Try.func63, Try.ntmps63
  go_wp2_with fail
  go_loopw [3] (fun s wr => ∃ j : Nat, j ≤ ws.length ∧ s = .int .i64 j ∧ (∀ j', j' < j → badUnan v (ws.getD j' 0).toNat = false) ∧ RV w v b ws capb wr) (fun s _ => ws.length - (intOf s).toNat)
  case atStart => exact ⟨0, Nat.zero_le _, rfl, fun j hj => by omega, S0.out⟩
  case round =>
    clear S0
    obtain ⟨j, hj, rfl, hall, S1⟩ := hrel
    have HA := hide hall
    have HS1 := hide S1
    clear hall
    obtain ⟨⟨_, c0, c1⟩, ib, _⟩ := S1
    by_cases hlt : j < ws.length
    · have hr := HX.out _ (mem_of_at hlt)
      have HR : Hid (0 ≤ ws[j] ∧ ws[j] ≤ 65535) := ⟨hr.1, by omega⟩
      obtain ⟨bb, off, rfl, hbl, hc⟩ := ib (by omega)
      have hck := hc j hlt
      rw [getD_lt hlt] at hck
      clear hc ib hr
      cases h1 : (bitN ws[j].toNat 0 == 1)
      · have e1 : (((bitN ws[j].toNat (Int.toNat 0) : Nat) : Int) == 1) = false := by rw [← h1]; exact beq_one _
        have e1' : (((bitN ws[j].toNat 0 : Nat) : Int) == 1) = false := by rw [← h1]; exact beq_one _
        cases h2 : (bitN ws[j].toNat ((pw v).toNat - 1) == 0)
        · have e2 : (((bitN ws[j].toNat ((pw v).toNat - 1) : Nat) : Int) == 0) = false := by rw [← h2]; exact beq_zero _
          have HN : Hid (badUnan v (ws.getD j 0).toNat = false) := by unfold Hid badUnan; rw [getD_lt hlt, h1, h2]; rfl
          have hw := HW.out
          clear h1 h2
          go_wp2
          go_quiet ((first | (go_at_call 60; exact quiet_left (powerL_any _ _ (by omega) (by omega))) | (go_at_call 83; exact quiet_left (bitZ_any _ _ _ HR.out (by omega)))))
          clear hw
          go_wp2
          go_roundw
          case rel => exact ⟨j + 1, by omega, by go_num, fun j' hj' => by
            rcases Nat.lt_or_ge j' j with h | h
            · exact HA.out j' h
            · obtain rfl : j' = j := by omega
              exact HN.out, HS1.out.below (belN _ _)⟩
          case measure => simp only [intOf]; omega
        · have e2 : (((bitN ws[j].toNat ((pw v).toNat - 1) : Nat) : Int) == 0) = true := by rw [← h2]; exact beq_zero _
          have HN : Hid (badUnan v (ws.getD j 0).toNat = true) := by unfold Hid badUnan; rw [getD_lt hlt, h1, h2]; rfl
          have hw := HW.out
          clear h1 h2
          go_wp2
          go_quiet ((first | (go_at_call 60; exact quiet_left (powerL_any _ _ (by omega) (by omega))) | (go_at_call 83; exact quiet_left (bitZ_any _ _ _ HR.out (by omega)))))
          clear hw
          go_wp2
          go_ret
          exact ⟨false, ⟨(fun h => by cases h), (fun h => by have := h j hlt; rw [HN.out] at this; cases this)⟩, rfl, (HS1.out.below (belN _ _)).2.2.2⟩
      · have e1 : (((bitN ws[j].toNat (Int.toNat 0) : Nat) : Int) == 1) = true := by rw [← h1]; exact beq_one _
        have e1' : (((bitN ws[j].toNat 0 : Nat) : Int) == 1) = true := by rw [← h1]; exact beq_one _
        have HN : Hid (badUnan v (ws.getD j 0).toNat = true) := by unfold Hid badUnan; rw [getD_lt hlt, h1]; rfl
        clear h1
        go_wp2
        go_quiet ((first | (go_at_call 60; exact quiet_left (powerL_any _ _ (by omega) (by omega))) | (go_at_call 83; exact quiet_left (bitZ_any _ _ _ HR.out (by omega)))))
        go_wp2
        go_ret
        exact ⟨false, ⟨(fun h => by cases h), (fun h => by have := h j hlt; rw [HN.out] at this; cases this)⟩, rfl, (HS1.out.below (belN _ _)).2.2.2⟩
    · obtain rfl : j = ws.length := by omega
      go_wp2
      go_ret
      exact ⟨true, ⟨fun _ => HA.out, fun _ => rfl⟩, rfl, HS1.out.2.2.2⟩
end Go.Proofs.Ytbmodiobgkmngaa
