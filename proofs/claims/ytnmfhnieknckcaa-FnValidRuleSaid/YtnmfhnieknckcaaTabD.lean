/- Dictators, in the model. -/
import Derived.Test.YtnmfhnieknckcaaTabS
namespace Go.Proofs.Ytnmfhnieknckcaa
open Go.RowKit Go.Joins

/-- a group wins exactly if it has the voter -/
def sameB (x g i : Nat) : Bool := bitN x g == bitN g i
def DictJ (v : Int) (ws : List Int) (i k : Nat) : Prop := ∀ j, j < k → ∀ g : Nat, (g : Int) < pw v → sameB (ws.getD j 0).toNat g i = true
def DictS (v : Int) (ws : List Int) (i : Nat) : Prop := DictJ v ws i ws.length
def IsDict (v : Int) (ws : List Int) (r : Int) : Prop := (∃ i : Nat, (i : Int) < v ∧ DictS v ws i ∧ (∀ i', i' < i → ¬ DictS v ws i') ∧ r = i) ∨ ((∀ i : Nat, (i : Int) < v → ¬ DictS v ws i) ∧ r = -1)
def DictPost (v : Int) (ws : List Int) (w : World) (e : Ending) (w' : World) : Prop := ∃ r : Int, IsDict v ws r ∧ e = .returned (.int .i64 r) ∧ Below w.heap.size w w'
theorem dictJ_step {v : Int} {ws : List Int} {i j : Nat} {ok : Bool} (h : ok = true ↔ (DictJ v ws i j ∧ ∀ g : Nat, (g : Int) < pw v → sameB (ws.getD j 0).toNat g i = true)) : ok = true ↔ DictJ v ws i (j + 1) := by
  rw [h]
  constructor
  · rintro ⟨h1, h2⟩ j' hj' g hg
    rcases Nat.lt_or_ge j' j with hh | hh
    · exact h1 j' hh g hg
    · obtain rfl : j' = j := by omega
      exact h2 g hg
  · intro h
    exact ⟨fun j' hj' g hg => h j' (by omega) g hg, fun g hg => h j (by omega) g hg⟩
theorem dictG_step {P : Prop} {x g i : Nat} {ok r : Bool} (h : ok = true ↔ (P ∧ ∀ g', g' < g → sameB x g' i = true)) (hr : r = (ok && sameB x g i)) : r = true ↔ (P ∧ ∀ g', g' < g + 1 → sameB x g' i = true) := by
  rw [hr, Bool.and_eq_true, h]
  constructor
  · rintro ⟨⟨h1, h2⟩, h3⟩
    refine ⟨h1, fun g' hg' => ?_⟩
    rcases Nat.lt_or_ge g' g with hh | hh
    · exact h2 g' hh
    · obtain rfl : g' = g := by omega
      exact h3
  · rintro ⟨h1, h2⟩
    exact ⟨⟨h1, fun g' hg' => h2 g' (by omega)⟩, h2 g (by omega)⟩
theorem dictG_done {P : Prop} {v : Int} {x g i : Nat} {ok : Bool} (h : ok = true ↔ (P ∧ ∀ g', g' < g → sameB x g' i = true)) (hg : ¬ (g : Int) < pw v) (hg2 : (g : Int) ≤ pw v) : ok = true ↔ (P ∧ ∀ g' : Nat, (g' : Int) < pw v → sameB x g' i = true) := by
  rw [h]
  constructor
  · rintro ⟨h1, h2⟩
    exact ⟨h1, fun g' hg' => h2 g' (by omega)⟩
  · rintro ⟨h1, h2⟩
    exact ⟨h1, fun g' hg' => h2 g' (by omega)⟩

set_option maxHeartbeats 8000000 in
set_option maxRecDepth 100000 in
theorem dictator_any (v : Int) (b : Option Addr) (ws : List Int) (capb : Nat) (w : World) (hv : 1 ≤ v ∧ v ≤ 3) (hx : ∀ x ∈ ws, 0 ≤ x ∧ x ≤ 255) (hj : Ints w b ws) (hm : ws.length ≤ 1048576) :
    Calls Try.prog 70 #[.agg #[.int .i64 v, .slice b ws.length capb]] w (DictPost v ws w) := by
  have S0 := hide (RV.new w v b ws capb 27 hj)
  have HX := hide hx
  have hv1 := hv.1
  have hv3 := hv.2
  have p1 := pw_pos v
  have p2 := pw_le3 v hv.2
  clear hj hx hv
  go_enter Try.func70, Try.ntmps70
  go_wp2_with fail
  go_loopw [3] (fun s wr => ∃ i : Nat, (i : Int) ≤ v ∧ s = .int .i64 i ∧ (∀ i', i' < i → ¬ DictS v ws i') ∧ RV w v b ws capb wr) (fun s _ => 3 - (intOf s).toNat)
  case atStart => exact ⟨0, by omega, rfl, fun i hi => by omega, S0.out⟩
  case round =>
    clear S0
    obtain ⟨i, hi, rfl, hall, S1⟩ := hrel
    have HA := hide hall
    have HS1 := hide S1
    clear hall
    obtain ⟨⟨_, c0, c1⟩, _⟩ := S1
    by_cases hil : (i : Int) < v
    · go_wp2_with fail
      clear c0 c1
      obtain ⟨wo, hwo⟩ : ∃ wo : World, wo = wr := ⟨_, rfl⟩
      subst hwo
      go_loopw [4, 5] (fun s4 s5 wr => ∃ (j : Nat) (ok : Bool), j ≤ ws.length ∧ s5 = .int .i64 j ∧ s4 = .bool ok ∧ (ok = true ↔ DictJ v ws i j) ∧ RV w v b ws capb wr) (fun _ s _ => ws.length - (intOf s).toNat)
      case atStart => exact ⟨0, true, Nat.zero_le _, rfl, rfl, ⟨fun _ j hj => by omega, fun _ => rfl⟩, HS1.out⟩
      case round =>
        clear HS1
        obtain ⟨j, ok, hj, rfl, rfl, hall, S2⟩ := hrel
        have HJ := hide hall
        have HS2 := hide S2
        clear hall
        obtain ⟨⟨_, c0, c1⟩, _⟩ := S2
        by_cases hlt : j < ws.length
        · have hr2 := HX.out _ (mem_of_at hlt)
          have HR : Hid (0 ≤ ws[j] ∧ ws[j] ≤ 65535) := ⟨hr2.1, by omega⟩
          clear hr2
          go_wp2_with fail
          clear c0 c1
          obtain ⟨wo2, hwo2⟩ : ∃ wo2 : World, wo2 = wr := ⟨_, rfl⟩
          subst hwo2
          go_loopw [4, 6] (fun s4 s6 wr => ∃ (g : Nat) (ok : Bool), (g : Int) ≤ pw v ∧ s6 = .int .i64 g ∧ s4 = .bool ok ∧ (ok = true ↔ (DictJ v ws i j ∧ ∀ g', g' < g → sameB (ws.getD j 0).toNat g' i = true)) ∧ RV w v b ws capb wr) (fun _ s _ => 8 - (intOf s).toNat)
          case atStart => exact ⟨0, ok, by omega, rfl, rfl, by rw [HJ.out]; exact ⟨fun h => ⟨h, fun g hg => by omega⟩, fun h => h.1⟩, HS2.out⟩
          case round =>
            clear HS2
            obtain ⟨g, ok2, hg, rfl, rfl, hall, S3⟩ := hrel
            have HG := hide hall
            have HS3 := hide S3
            clear hall
            obtain ⟨⟨_, c0, c1⟩, ib, _⟩ := S3
            by_cases hgl : (g : Int) < pw v
            · obtain ⟨bb, off, rfl, hbl, hc⟩ := ib (by omega)
              have hck := hc j hlt
              rw [getD_lt hlt] at hck
              clear hc ib
              cases ok2
              · go_wp2_with (first
                  | (go_at_call 64; refine (powerL_any _ _ (by omega) (by omega)).mono ?_; rintro e w' ⟨rfl, rfl⟩))
                go_roundw
                case rel => exact ⟨g + 1, false, by omega, by go_num, rfl, dictG_step HG.out rfl, HS3.out⟩
                case measure => simp only [intOf]; omega
              · have e1 := beq_cast (bitN ws[j].toNat g) (bitN g i)
                cases h1 : (bitN ws[j].toNat g == bitN g i)
                all_goals
                  rw [h1] at e1
                  have HN := hide (dictG_step (r := (true && sameB (ws.getD j 0).toNat g i)) HG.out rfl)
                  have HE : Hid (sameB (ws.getD j 0).toNat g i = (bitN ws[j].toNat g == bitN g i)) := by unfold Hid sameB; rw [getD_lt hlt]
                  have H1 := hide h1
                  clear h1
                  go_wp2_with (first
                    | (go_at_call 64; refine (powerL_any _ _ (by omega) (by omega)).mono ?_; rintro e w' ⟨rfl, rfl⟩)
                    | (go_at_call 82; refine (bitZ_any _ _ _ (by first | exact HR.out | omega) (by omega)).mono ?_; rintro e w' ⟨rfl, rfl⟩))
                  go_roundw
                  case rel => exact ⟨g + 1, _, by omega, by go_num, rfl, by have h := HN.out; rw [HE.out, H1.out] at h; exact h, HS3.out⟩
                  case measure => simp only [intOf]; omega
            · have HGL := hide (dictJ_step (dictG_done HG.out hgl hg))
              go_wp2_with (go_at_call 64; refine (powerL_any _ _ (by omega) (by omega)).mono ?_; rintro e w' ⟨rfl, rfl⟩)
              go_roundw
              case rel => exact ⟨j + 1, ok2, by omega, by go_num, rfl, HGL.out, HS3.out⟩
              case measure => simp only [intOf]; omega
        · obtain rfl : j = ws.length := by omega
          cases ok
          · have HN : Hid (¬ DictS v ws i) := fun h => by have := HJ.out.2 h; cases this
            go_wp2_with fail
            go_roundw
            case rel => exact ⟨i + 1, by omega, by go_num, fun i' hi' => by
              rcases Nat.lt_or_ge i' i with h | h
              · exact HA.out i' h
              · obtain rfl : i' = i := by omega
                exact HN.out, HS2.out⟩
            case measure => simp only [intOf]; omega
          · have HN : Hid (DictS v ws i) := HJ.out.1 rfl
            go_wp2
            go_ret
            exact ⟨i, .inl ⟨i, hil, HN.out, HA.out, rfl⟩, rfl, HS2.out.2.2.2⟩
    · go_wp2
      go_ret
      exact ⟨-1, .inr ⟨fun i' hi' => HA.out i' (by omega), rfl⟩, rfl, HS1.out.2.2.2⟩
end Go.Proofs.Ytnmfhnieknckcaa
