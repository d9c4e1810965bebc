/- The model's HullOf. -/
import Derived.Test.YtklfpbidbiippaaHullM
import Derived.Test.YtklfpbidbiippaaSV
import Derived.Test.YtklfpbidbiippaaPick
import Derived.Deep.RegionWith
namespace Go.Proofs.Ytklfpbidbiippaa
open Go.RowKit Go.Joins

set_option maxHeartbeats 2000000 in
set_option maxRecDepth 100000 in
theorem specHullOf_any (n : Int) (a l : Option Addr) (cap capl : Nat) (zs ls : List Int) (w : World) (hi : Ints w a zs) (hj : Ints w l ls) (hn : zs.length ≤ 1048576) (hm : ls.length ≤ 1048576) :
    Calls Try.prog 30 #[.agg #[.int .i64 n, .slice a zs.length cap], .slice l ls.length capl] w (Gives (hullL n zs ls) w) := by
  obtain ⟨i0, hi0, hz0, hz1, hz2⟩ := info_parts info_int
  have S0 := SV.new w n a zs cap l ls 25 hi hj
  clear hi hj
  by_cases hv : vsB n zs = false
  · have HN := hide (hullL_no (ls := ls) (fun h : HullOk n zs ls => by rw [vsB_true h.1] at hv; cases hv))
    go_enter Try.func30, Try.ntmps30
    go_wp2_with fail
    refine (validSpace_any _ _ _ _ _ S0.2.1 hn).mono ?_
    rintro e w1 ⟨rfl, hb⟩
    go_wp2
    go_ret
    exact gives_nil HN.out (S0.below hb).2.2.2
  · have hv : vsB n zs = true := by simpa using hv
    have hV := hide (valid_of hv)
    have h14 := hV.out.1
    have HR := hide (valid_range hV.out)
    have p1 := pw_pos n
    have p2 := pw_le n h14.2
    by_cases hlen : 1 ≤ (ls.length : Int) ∧ (ls.length : Int) ≤ 10
    · have HL := hide hlen
      have hpos : 0 < ls.length := by omega
      have hle10 : ls.length ≤ 10 := by omega
      clear hlen
      go_enter Try.func30, Try.ntmps30
      go_wp2_with fail
      refine (validSpace_any _ _ _ _ _ S0.2.1 hn).mono ?_
      rintro e w1 ⟨rfl, hb⟩
      have S1 := S0.below hb
      clear S0 hb
      have ⟨⟨_, c0, c1⟩, _, _, _⟩ := S1
      go_wp2_with (first
        | (go_at_call 97; refine (inRange_yes _ _ _ _ HL.out).mono ?_; rintro e w' ⟨rfl, rfl⟩)
        | (go_at_call 98; refine (power_any _ _ (by omega) (by omega)).mono ?_; rintro e w' ⟨rfl, rfl⟩))
      clear c0 c1
      go_loopw [5, 6] (fun c i wr => ∃ k : Nat, k ≤ ls.length ∧ i = .int .i64 k ∧ c = .int .i64 (careK n ls k : Nat) ∧ (∀ j, j < k → ls.getD j 0 ∈ zs) ∧ SV w n a zs cap l ls wr) (fun _ i _ => ls.length - (intOf i).toNat)
      case atStart => exact ⟨0, Nat.zero_le _, rfl, by unfold careK; rw [Int.toNat_of_nonneg (by omega)], fun j hj => by omega, S1⟩
      case round =>
        clear S1
        obtain ⟨k, hk, rfl, rfl, hall, SR⟩ := hrel
        have HA := hide hall
        clear hall
        obtain ⟨⟨_, c0, c1⟩, iz, il, _⟩ := SR.pair
        by_cases hlt : k < ls.length
        · obtain ⟨lb, lo, rfl, hlb, hlc⟩ := il hpos
          have hk0 := hlc 0 hpos
          have hkk := hlc k hlt
          rw [getD_lt hpos, Nat.add_zero] at hk0
          rw [getD_lt hlt] at hkk
          clear hlc il
          by_cases he : ls[k] ∈ zs
          · have hE := hasB_true he
            have he0 : ls[0] ∈ zs := by
              rcases Nat.eq_zero_or_pos k with h | h
              · subst h; exact he
              · have := HA.out 0 h
                rwa [getD_lt hpos] at this
            have hx : bits .xor .i64 ls[k] ls[0] = ((ls[k].toNat ^^^ ls[0].toNat : Nat) : Int) := by
              have h1 := HR.out _ he
              have h2 := HR.out _ he0
              rw [← xor_small _ _ (by omega) (by omega), Int.toNat_of_nonneg h1.1, Int.toNat_of_nonneg h2.1]
            have hd : ls[k].toNat ^^^ ls[0].toNat < 16 := Nat.xor_lt_two_pow (n := 4) (by have := HR.out _ he; omega) (by have := HR.out _ he0; omega)
            have hcl := careK_le n h14.2 ls k
            have hand := and_small (careK n ls k) _ hcl hd
            have hsub : IntKind.i64.wrap ((careK n ls k : Int) - ((careK n ls k &&& (ls[k].toNat ^^^ ls[0].toNat) : Nat) : Int)) = (careK n ls k : Int) - ((careK n ls k &&& (ls[k].toNat ^^^ ls[0].toNat) : Nat) : Int) :=
              IntWalk.i64_in _ (by have : careK n ls k &&& (ls[k].toNat ^^^ ls[0].toNat) ≤ careK n ls k := Nat.and_le_left; omega)
            have HM := hide he
            clear he he0
            go_wp2
            go_region_with ((go_at_call 99; refine (has_any _ _ _ _ _ _ (SR.drew.2.1) hn).mono ?_; rintro e w3 ⟨rfl, hb3⟩; have S3 := SR.drew.below hb3; have ⟨⟨_, d0, d1⟩, _, jl, _⟩ := S3; have e0 := ((bdrew hb3).cell (p := ⟨lb, lo, none⟩) hlb).trans hk0; have ek := ((bdrew hb3).cell (p := ⟨lb, lo + k, none⟩) hlb).trans hkk))
            all_goals
              clear hk0 hkk c0 c1 jl hb3
              go_wp2
              go_quiet (fail)
              go_wp2
              go_roundw
              case rel => exact ⟨k + 1, by omega, by go_num, by
                have h : careK n ls (k + 1) = careK n ls k - (careK n ls k &&& (ls[k].toNat ^^^ ls[0].toNat)) := by rw [careK, getD_lt hlt, getD_lt hpos]
                have hle : careK n ls k &&& (ls[k].toNat ^^^ ls[0].toNat) ≤ careK n ls k := Nat.and_le_left
                rw [h, Int.ofNat_sub hle], fun j hj => by
                rcases Nat.lt_or_ge j k with h | h
                · exact HA.out j h
                · obtain rfl : j = k := by omega
                  rw [getD_lt hlt]
                  exact HM.out, S3.below (belN _ _)⟩
              case measure => simp only [intOf]; omega
          · have hE := hasB_false he
            have HN := hide (hullL_no (fun h : HullOk n zs ls => he (by have := h.2.2 k hlt; rwa [getD_lt hlt] at this)))
            clear he
            go_wp2
            go_region_with ((go_at_call 99; refine (has_any _ _ _ _ _ _ (SR.drew.2.1) hn).mono ?_; rintro e w3 ⟨rfl, hb3⟩))
            all_goals
              go_wp2
              go_ret
              exact gives_nil HN.out (SR.drew.below hb3).2.2.2
        · obtain rfl : k = ls.length := by omega
          have HK : Hid (HullOk n zs ls) := ⟨hV.out, ⟨hpos, hle10⟩, HA.out⟩
          obtain ⟨lb, lo, rfl, hlb, hlc⟩ := il hpos
          have hl0 := hlc 0 hpos
          rw [getD_lt hpos, Nat.add_zero] at hl0
          have HZ : Hid (ls[0] ∈ zs) := by have := HA.out 0 hpos; rwa [getD_lt hpos] at this
          clear hlc il HA c0 c1 iz
          have hcl := careK_le n h14.2 ls ls.length
          obtain ⟨wo, rfl⟩ : ∃ wo : World, wo = wr := ⟨_, rfl⟩
          have ho0 : Owns (wo.alloc (.cells #[] 3)) wo.heap.size (.slice (some ⟨wo.heap.size, 0, none⟩) 0 0) [] := World.ownsRow_lit wo #[] 0 (Nat.le_refl _) (by simp) rfl
          have BA := bel1 wo (.cells #[] 3)
          go_wp2
          go_loopw [7, 8] (fun v i wr => ∃ k : Nat, k ≤ zs.length ∧ i = .int .i64 k ∧ Owns wr wo.heap.size v ((zs.take k).filter (hullP n ls)) ∧ Below wo.heap.size wo wr) (fun _ i _ => zs.length - (intOf i).toNat)
          case atStart => exact ⟨0, Nat.zero_le _, rfl, ho0, BA⟩
          case round =>
            clear ho0 BA
            obtain ⟨k, hk, rfl, hown, BR⟩ := hrel
            obtain ⟨⟨_, c0, c1⟩, iz, _, _⟩ := (SR.below BR).pair
            have l0 := (BR.cell (p := ⟨lb, lo, none⟩) hlb).trans hl0
            by_cases hlt : k < zs.length
            · obtain ⟨b, off, rfl, hbl, hc⟩ := iz (by omega)
              have hck := hc k hlt
              rw [getD_lt hlt] at hck
              have hft := hide (filter_take (hullP n ls) zs k hlt)
              have hle := filter_le (hullP n ls) zs k
              have hzr := hide (HR.out _ (mem_of_at hlt))
              have hlr := hide (HR.out _ HZ.out)
              have hx : bits .xor .i64 zs[k] ls[0] = ((zs[k].toNat ^^^ ls[0].toNat : Nat) : Int) := by
                have h1 := hzr.out
                have h2 := hlr.out
                rw [← xor_small _ _ (by omega) (by omega), Int.toNat_of_nonneg h1.1, Int.toNat_of_nonneg h2.1]
              have hd : zs[k].toNat ^^^ ls[0].toNat < 16 := Nat.xor_lt_two_pow (n := 4) (by have := hzr.out; omega) (by have := hlr.out; omega)
              have hand := and_small _ (careK n ls ls.length) hd hcl
              have hp : hullP n ls zs[k] = ((zs[k].toNat ^^^ ls[0].toNat) &&& careK n ls ls.length == 0) := by unfold hullP; rw [getD_lt hpos]
              have hsz := BR.size
              clear hc iz
              by_cases he : hullP n ls zs[k] = true
              · have HE := hide he
                have h0 : (((zs[k].toNat ^^^ ls[0].toNat) &&& careK n ls ls.length : Nat) : Int) = 0 := by
                  rw [hp, beq_iff_eq] at he; omega
                have hE : ((((zs[k].toNat ^^^ ls[0].toNat) &&& careK n ls ls.length : Nat) : Int) == 0) = true := by rw [h0]; rfl
                clear he hp h0
                go_wp2
                go_quiet (fail)
                have ho1 : (wr.drewN nq).ownsRow wo.heap.size 3 1 u7 ((zs.take k).filter (hullP n ls)).length (((zs.take k).filter (hullP n ls)).map (Value.int .i64)) := hown.below (belN _ _)
                go_wp2_with ((at_builtin; refine wpList_append_own _ rfl _ _ 23 rfl wo.heap.size 3 i0 (.int .i64 0) 1 8 Try.underlying23 hi0 hz0 hz1 hz2 rfl (by decide) _ _ _ rfl (ho1.alloc _) ⟨wr.heap.size, 0, none⟩ 1 1 [.int .i64 zs[k]] rfl rfl ?c1 ?c2 ?c3 ?c4 ?c5 ?_))
                case c1 => exact cell_one_new (wr.drewN nq) _ _
                case c2 => intro u hu; simp at hu; subst hu; rfl
                case c3 => unfold maxLen; omega
                case c4 => omega
                case c5 => simp; omega
                intro v' w2 hown' hgrow _
                have hpush := hide (Owns.push hown')
                have hbel : Below wo.heap.size wo w2 := ((bnext BR (belN wr nq)).alloc hsz _).grown hgrow (by simp; omega) (fun j hj => (ho1.lt j hj).1)
                clear hown' hgrow ho1
                go_wp2
                go_roundw
                case rel => exact ⟨k + 1, by omega, by go_num, by rw [hft.out, if_pos HE.out]; exact hpush.out, hbel⟩
                case measure => simp only [intOf]; omega
              · have he : hullP n ls zs[k] = false := by simpa using he
                have HE := hide he
                have h0 : (((zs[k].toNat ^^^ ls[0].toNat) &&& careK n ls ls.length : Nat) : Int) ≠ 0 := by
                  rw [hp, beq_eq_false_iff_ne] at he; omega
                have hE : ((((zs[k].toNat ^^^ ls[0].toNat) &&& careK n ls ls.length : Nat) : Int) == 0) = false := by rw [beq_eq_false_iff_ne]; exact h0
                clear he hp h0
                go_wp2
                go_quiet (fail)
                go_wp2
                go_roundw
                case rel => exact ⟨k + 1, by omega, by go_num, by rw [hft.out, if_neg (by rw [HE.out]; decide), List.append_nil]; exact hown.below (belN _ _), bnext BR (belN _ _)⟩
                case measure => simp only [intOf]; omega
            · obtain rfl : k = zs.length := by omega
              have hwo := SR.2.2.2
              go_wp2
              go_ret
              exact ⟨_, rfl, by rw [List.take_length] at hown; rw [hullL_yes HK.out]; exact hown.le hwo.size, bnext hwo BR⟩
    · have HL := hide hlen
      have HN := hide (hullL_no (fun h : HullOk n zs ls => hlen (by have := h.2.1; omega)))
      clear hlen
      go_enter Try.func30, Try.ntmps30
      go_wp2_with fail
      refine (validSpace_any _ _ _ _ _ S0.2.1 hn).mono ?_
      rintro e w1 ⟨rfl, hb⟩
      go_wp2_with (go_at_call 97; refine (inRange_no _ _ _ _ HL.out).mono ?_; rintro e w' ⟨rfl, rfl⟩)
      go_ret
      exact gives_nil HN.out (S0.below hb).2.2.2
end Go.Proofs.Ytklfpbidbiippaa
