/- impl.HullOf. -/
import Derived.Test.YtklfpbidbiippaaHullS
import Derived.Deep.RegionWith
import Derived.RegionTactic
import Derived.BigRegion
namespace Go.Proofs.Ytklfpbidbiippaa
open Go.RowKit Go.Joins

theorem hullClosure_any (x c b : Int) (g : Nat) (w : World) (bx : PBox w g c b) (hx : 0 ≤ x ∧ x ≤ 15) (hc : 0 ≤ c ∧ c ≤ 15) (hb : 0 ≤ b) :
    Calls Try.prog 95 #[.int .i64 x, .pointer (some ⟨g, 0, none⟩)] w fun e w' => e = .returned (.bool (hpB x c b)) ∧ Below w.heap.size w w' := by
  obtain ⟨_, c0, c1⟩ := bx
  go_enter Try.func95, Try.ntmps95
  go_wp2_with fail
  refine (hasPart_any _ _ _ _ hx hc hb).mono ?_
  rintro e w1 ⟨rfl, h1⟩
  go_wp2
  go_ret
  exact ⟨rfl, h1⟩

set_option maxHeartbeats 2000000 in
set_option maxRecDepth 100000 in
theorem implHullOf_any (n : Int) (a l : Option Addr) (cap capl : Nat) (zs ls : List Int) (w : World) (hi : Ints w a zs) (hj : Ints w l ls) (hn : zs.length ≤ 1048576) (hm : ls.length ≤ 1048576) :
    Calls Try.prog 28 #[.agg #[.int .i64 n, .slice a zs.length cap], .slice l ls.length capl] w (Gives (hullL n zs ls) w) := by
  have S0 := SV.new w n a zs cap l ls 25 hi hj
  clear hi hj
  by_cases hv : vsB n zs = false
  · have HN := hide (hullL_no (ls := ls) (fun h : HullOk n zs ls => by rw [vsB_true h.1] at hv; cases hv))
    go_enter Try.func28, Try.ntmps28
    go_wp2_with fail
    refine (implValidSpace_any _ _ _ _ _ S0.2.1 hn).mono ?_
    rintro e w1 ⟨rfl, hb⟩
    go_wp2
    go_ret
    exact gives_nil HN.out (S0.below hb).2.2.2
  · have hv : vsB n zs = true := by simpa using hv
    have hV := hide (valid_of hv)
    have h14 := hV.out.1
    have HR := hide (valid_range hV.out)
    have p1 := pw_pos n
    have p2 := pw_le n h14.2
    have hpw := wrap_pow n h14.2
    by_cases h0 : ls.length = 0
    · have hz : ((ls.length : Int) == 0) = true := by simpa using h0
      have HN := hide (hullL_no (fun h : HullOk n zs ls => by have := h.2.1.1; omega))
      clear h0
      go_enter Try.func28, Try.ntmps28
      go_wp2_with fail
      refine (implValidSpace_any _ _ _ _ _ S0.2.1 hn).mono ?_
      rintro e w1 ⟨rfl, hb⟩
      go_wp2
      go_ret
      exact gives_nil HN.out (S0.below hb).2.2.2
    · have hz : ((ls.length : Int) == 0) = false := by simpa using h0
      have hpos : 0 < ls.length := by omega
      clear h0
      by_cases h10 : 10 < ls.length
      · have HN := hide (hullL_no (fun h : HullOk n zs ls => by have := h.2.1.2; omega))
        go_enter Try.func28, Try.ntmps28
        go_wp2_with fail
        refine (implValidSpace_any _ _ _ _ _ S0.2.1 hn).mono ?_
        rintro e w1 ⟨rfl, hb⟩
        go_wp2
        go_ret
        exact gives_nil HN.out (S0.below hb).2.2.2
      · have hle10 : ls.length ≤ 10 := by omega
        clear h10
        go_enter Try.func28, Try.ntmps28
        go_wp2_with fail
        refine (implValidSpace_any _ _ _ _ _ S0.2.1 hn).mono ?_
        rintro e w1 ⟨rfl, hb⟩
        have S1 := S0.below hb
        clear S0 hb
        obtain ⟨⟨_, c0, c1⟩, _, il, _⟩ := S1.pair
        obtain ⟨lb, lo, rfl, hlb, hlc⟩ := il hpos
        have hl0 := hlc 0 hpos
        rw [getD_lt hpos, Nat.add_zero] at hl0
        clear hlc il
        have hw : IntKind.i64.wrap (pw n - 1) = pw n - 1 := IntWalk.i64_in _ (by omega)
        go_wp2
        go_region
        go_wp2
        clear hpw
        go_loopw [31] (fun i wr => ∃ k : Nat, k ≤ ls.length ∧ i = .int .i64 k ∧ (∀ j, j < k → ls.getD j 0 ∈ zs) ∧ wr.heap[w1.heap.size]? = some (.cells #[.int .i64 (careK n ls k : Nat), .int .i64 ls[0]] 80 (0, 0)) ∧ Below w1.heap.size w1 wr) (fun i _ => ls.length - (intOf i).toNat)
        case atStart =>
          have hc0 : ((careK n ls 0 : Nat) : Int) = pw n - 1 := by unfold careK; rw [Int.toNat_of_nonneg (by omega)]
          exact ⟨0, Nat.zero_le _, rfl, fun j hj => by omega, by rw [hc0]; exact heap_alloc_new w1 _, bdrew' (bel1 w1 _)⟩
        case round =>
          clear c0 c1
          obtain ⟨k, hk, rfl, hall, hblk, BR⟩ := hrel
          have HA := hide hall
          clear hall
          have SR := S1.below BR
          obtain ⟨⟨_, c0, c1⟩, iz, il, _⟩ := SR.pair
          have g0 := cell_of_block hblk 0
          have g1 := cell_of_block hblk 1
          have hgl := lt_of_block hblk
          by_cases hlt : k < ls.length
          · obtain ⟨lb', lo', e', hlb', hlc⟩ := il hpos
            simp only [Option.some.injEq, Addr.mk.injEq, and_true] at e'
            obtain ⟨rfl, rfl⟩ := e'
            have hk0 := hlc 0 hpos
            have hkk := hlc k hlt
            rw [getD_lt hpos, Nat.add_zero] at hk0
            rw [getD_lt hlt] at hkk
            clear hlc il
            by_cases he : ls[k] ∈ zs
            · have hE := hasB_true he
              have he0 : ls[0] ∈ zs := by
                rcases Nat.eq_zero_or_pos k with h | h
                · subst h; exact he
                · have := HA.out 0 h
                  rwa [getD_lt hpos] at this
              have hx : bits .xor .i64 ls[k] ls[0] = ((ls[k].toNat ^^^ ls[0].toNat : Nat) : Int) := by
                have h1 := HR.out _ he
                have h2 := HR.out _ he0
                rw [← xor_small _ _ (by omega) (by omega), Int.toNat_of_nonneg h1.1, Int.toNat_of_nonneg h2.1]
              have hd : ls[k].toNat ^^^ ls[0].toNat < 16 := Nat.xor_lt_two_pow (n := 4) (by have := HR.out _ he; omega) (by have := HR.out _ he0; omega)
              have hcl := careK_le n h14.2 ls k
              have hand := andNot_small (careK n ls k) _ hcl hd
              have HM := hide he
              clear he he0
              go_wp2_with fail
              refine (contains_any _ _ _ _ _ iz hn).mono ?_
              rintro e w3 ⟨rfl, hb3⟩
              have hblk3 := (hb3.block _ hgl).trans hblk
              have e0 := cell_of_block hblk3 0
              have e1 := cell_of_block hblk3 1
              have f0 := unfrozen_of_block hblk3 0
              have l0 := (hb3.cell (p := ⟨lb, lo, none⟩) hlb').trans hk0
              have B3 : Below w1.heap.size w1 w3 := bnext BR hb3
              clear g0 g1 c0 c1 hk0 hkk hb3 BR
              go_wp2
              go_region
              all_goals go_wp2
              all_goals
                go_roundw
                case rel =>
                  have hnext : ∀ j, j < k + 1 → ls.getD j 0 ∈ zs := fun j hj => by
                    rcases Nat.lt_or_ge j k with h | h
                    · exact HA.out j h
                    · obtain rfl : j = k := by omega
                      rw [getD_lt hlt]
                      exact HM.out
                  have hcare : careK n ls (k + 1) = careK n ls k - (careK n ls k &&& (ls[k].toNat ^^^ ls[0].toNat)) := by rw [careK, getD_lt hlt, getD_lt hpos]
                  refine ⟨k + 1, by omega, by go_num, hnext, ?_, bdrew' (B3.setCell (p := ⟨w1.heap.size, 0, none⟩) (Nat.le_refl _) _)⟩
                  rw [hcare]
                  exact block_setCell (i := 0) hblk3 _
                case measure => simp [intOf]; omega
            · have hE := hasB_false he
              have HN := hide (hullL_no (fun h : HullOk n zs ls => he (by have := h.2.2 k hlt; rwa [getD_lt hlt] at this)))
              clear he
              go_wp2_with fail
              refine (contains_any _ _ _ _ _ iz hn).mono ?_
              rintro e w3 ⟨rfl, hb3⟩
              go_wp2
              go_ret
              exact gives_nil HN.out (SR.below hb3).2.2.2
          · obtain rfl : k = ls.length := by omega
            have HK : Hid (HullOk n zs ls) := ⟨hV.out, ⟨hpos, hle10⟩, HA.out⟩
            have HZ : Hid (0 ≤ ls[0] ∧ ls[0] ≤ 15) := HR.out _ (by have := HA.out 0 hpos; rwa [getD_lt hpos] at this)
            have hcl := careK_le n h14.2 ls ls.length
            have hand : bits .and .i64 ls[0] (careK n ls ls.length : Nat) = ((ls[0].toNat &&& careK n ls ls.length : Nat) : Int) := by
              have h2 := HZ.out
              rw [← and_small _ _ (by omega) hcl, Int.toNat_of_nonneg h2.1]
            have f1 := unfrozen_of_block hblk 1
            have hblk2 := block_setCell (i := 1) hblk (.int .i64 ((ls[0].toNat &&& careK n ls ls.length : Nat) : Int))
            have B2 := BR.setCell (p := ⟨w1.heap.size, 1, none⟩) (Nat.le_refl _) (.int .i64 ((ls[0].toNat &&& careK n ls ls.length : Nat) : Int))
            have S2 := S1.below B2
            have px : PBox (wr.setCell ⟨w1.heap.size, 1, none⟩ (.int .i64 ((ls[0].toNat &&& careK n ls ls.length : Nat) : Int))) w1.heap.size (careK n ls ls.length : Nat) ((ls[0].toNat &&& careK n ls ls.length : Nat) : Int) :=
              ⟨lt_of_block hblk2, cell_of_block hblk2 0, cell_of_block hblk2 1⟩
            have HX := hide px
            have HS := hide S2
            clear px S2 HA SR iz il
            go_wp2_with fail
            refine (picked_hull (fun x => hpB x (careK n ls ls.length : Nat) ((ls[0].toNat &&& careK n ls ls.length : Nat) : Int)) _ _ _ _ _ HS.out.2.1 hn
              (fun x w' hx hb => hullClosure_any _ _ _ _ _ (HX.out.below hb) (HR.out _ hx) ⟨by omega, by omega⟩ (by omega))).mono ?_
            rintro e w4 ⟨v, rfl, hov, hb4⟩
            go_wp2
            go_ret
            refine ⟨v, rfl, ?_, (HS.out.below hb4).2.2.2⟩
            have hfe : zs.filter (fun x => hpB x (careK n ls ls.length : Nat) ((ls[0].toNat &&& careK n ls ls.length : Nat) : Int)) = hullL n zs ls := by
              rw [hullL_yes HK.out]
              refine List.filter_congr (fun x hx => ?_)
              have h := hull_eq (n := n) (ls := ls) h14.2 (HR.out _ hx) (by rw [getD_lt hpos]; exact HZ.out)
              rwa [getD_lt hpos] at h
            rw [← hfe]
            exact hov.le HS.out.2.2.2.size
end Go.Proofs.Ytklfpbidbiippaa
