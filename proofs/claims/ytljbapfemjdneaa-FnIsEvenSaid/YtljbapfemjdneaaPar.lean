/- IsEven: the model's loops. -/
import Derived.Test.YtljbapfemjdneaaMed
import Derived.Test.YtljbapfemjdneaaJoinP
import Derived.Deep.RegionHeld3
import Derived.Deep.RegionWith
namespace Go.Proofs.Ytljbapfemjdneaa
open Go.RowKit Go.Joins

set_option maxHeartbeats 4000000 in
theorem specIsEven_any (n : Int) (a : Option Addr) (cap : Nat) (zs : List Int) (w : World) (hi : Ints w a zs) (hn : zs.length ≤ 1048576) :
    Calls Try.prog 28 #[.agg #[.int .i64 n, .slice a zs.length cap]] w fun e w' => e = .returned (.bool (closedB par n zs)) ∧ Below w.heap.size w w' := by
  have S0 := SV.new w n a zs cap none [] 25 hi (Ints.nil _ _)
  clear hi
  by_cases hv : vsB n zs = false
  · have HN := hide (closedB_no (f := par) hv)
    go_enter Try.func28, Try.ntmps28
    go_wp2_with fail
    refine (validSpace_any _ _ _ _ _ S0.2.1 hn).mono ?_
    rintro e w1 ⟨rfl, hb⟩
    go_wp2
    go_ret
    exact ⟨ret_bool HN.out.symm, (S0.below hb).2.2.2⟩
  · have hv : vsB n zs = true := by simpa using hv
    have hV := hide (valid_of hv)
    have hpos := hV.out.2.1
    go_enter Try.func28, Try.ntmps28
    go_wp2_with fail
    refine (validSpace_any _ _ _ _ _ S0.2.1 hn).mono ?_
    rintro e w1 ⟨rfl, hb⟩
    have S1 := S0.below hb
    clear S0 hb
    go_wp2
    go_loopw [3] (fun c wr => ∃ i : Nat, i ≤ zs.length ∧ c = .int .i64 i ∧ (∀ i0 j k, i0 < i → j < zs.length → k < zs.length → In3 par zs i0 j k) ∧ SV w n a zs cap none [] wr) (fun c _ => zs.length - (intOf c).toNat)
    case atStart => exact ⟨0, Nat.zero_le _, rfl, fun i0 j k h => by omega, S1⟩
    case round =>
      clear S1
      obtain ⟨i, hile, rfl, hall, SR⟩ := hrel
      have HA := hide hall
      clear hall
      obtain ⟨⟨_, c0, c1⟩, _⟩ := SR.pair
      by_cases hli : i < zs.length
      · obtain ⟨wo, rfl⟩ : ∃ wo : World, wo = wr := ⟨_, rfl⟩
        go_wp2
        clear c0 c1
        go_loopw [4] (fun c wr => ∃ j : Nat, j ≤ zs.length ∧ c = .int .i64 j ∧ (∀ j0 k, j0 < j → k < zs.length → In3 par zs i j0 k) ∧ SV w n a zs cap none [] wr) (fun c _ => zs.length - (intOf c).toNat)
        case atStart => exact ⟨0, Nat.zero_le _, rfl, fun j0 k h => by omega, SR⟩
        case round =>
          clear SR
          obtain ⟨j, hjle, rfl, hall, SR⟩ := hrel
          have HB := hide hall
          clear hall
          obtain ⟨⟨_, c0, c1⟩, _⟩ := SR.pair
          by_cases hlj : j < zs.length
          · obtain ⟨wi, rfl⟩ : ∃ wi : World, wi = wr := ⟨_, rfl⟩
            go_wp2
            clear c0 c1
            go_loopw [5] (fun c wr => ∃ k : Nat, k ≤ zs.length ∧ c = .int .i64 k ∧ (∀ k0, k0 < k → In3 par zs i j k0) ∧ SV w n a zs cap none [] wr) (fun c _ => zs.length - (intOf c).toNat)
            case atStart => exact ⟨0, Nat.zero_le _, rfl, fun k0 h => by omega, SR⟩
            case round =>
              clear SR
              obtain ⟨k, hkle, rfl, hall, SR⟩ := hrel
              have HC := hide hall
              clear hall
              obtain ⟨⟨_, c0, c1⟩, iz, _⟩ := SR.pair
              by_cases hlk : k < zs.length
              · obtain ⟨b, off, rfl, hbl, hc⟩ := iz hpos
                have hxi := hc i hli
                have hxj := hc j hlj
                have hxk := hc k hlk
                rw [getD_lt hli, (zN_at hV.out hli).1] at hxi
                rw [getD_lt hlj, (zN_at hV.out hlj).1] at hxj
                rw [getD_lt hlk, (zN_at hV.out hlk).1] at hxk
                have l1 := (zN_at hV.out hli).2
                have l2 := (zN_at hV.out hlj).2
                have l3 := (zN_at hV.out hlk).2
                have x1 := xor_small _ _ l1 l2
                have l4 : zN zs i ^^^ zN zs j < 16 := Nat.xor_lt_two_pow (n := 4) l1 l2
                have x2 : bits .xor .i64 ((zN zs i ^^^ zN zs j : Nat) : Int) (zN zs k : Int) = ((par (zN zs i) (zN zs j) (zN zs k) : Nat) : Int) := xor_small _ _ l4 l3
                clear hc iz
                by_cases he : In3 par zs i j k
                · have hE := hasB_true he
                  have HE := hide he
                  clear he
                  go_wp2
                  go_region_held3 (fun w' => w'.cell? ⟨w.heap.size, 0, none⟩ = some (.int .i64 n) ∧ w'.cell? ⟨w.heap.size, 1, none⟩ = some (.slice (some ⟨b, off, none⟩) zs.length cap) ∧ w'.cell? ⟨b, off + i, none⟩ = some (.int .i64 (zN zs i)) ∧ w'.cell? ⟨b, off + j, none⟩ = some (.int .i64 (zN zs j)) ∧ w'.cell? ⟨b, off + k, none⟩ = some (.int .i64 (zN zs k)))
                    (first
                      | exact ⟨c0, c1, hxi, hxj, hxk⟩
                      | exact ⟨S3.1.2.1, S3.1.2.2, ((bdrew hb3).cell (p := ⟨b, off + i, none⟩) hbl).trans hxi, ((bdrew hb3).cell (p := ⟨b, off + j, none⟩) hbl).trans hxj, ((bdrew hb3).cell (p := ⟨b, off + k, none⟩) hbl).trans hxk⟩
                      | go_keep)
                    (first
                      | (go_at_call 70; refine (has_any _ _ _ _ _ _ SR.drew.2.1 hn).mono ?_; rintro e w3 ⟨rfl, hb3⟩; have S3 := SR.drew.below hb3))
                  go_wp2
                  go_roundw
                  case rel => exact ⟨k + 1, by omega, by go_num, fun k0 h0 => by
                    rcases Nat.lt_or_ge k0 k with h | h
                    · exact HC.out k0 h
                    · obtain rfl : k0 = k := by omega
                      exact HE.out, SR.drew.below hb3⟩
                  case measure => simp only [intOf]; omega
                · have hE := hasB_false he
                  have HN : Hid (closedB par n zs = false) := by
                    unfold Hid
                    cases hc : closedB par n zs
                    · rfl
                    · exact absurd ((closed_iff join_par hV.out).1 hc i j k hli hlj hlk) he
                  clear he
                  go_wp2
                  go_region_held3 (fun w' => w'.cell? ⟨w.heap.size, 0, none⟩ = some (.int .i64 n) ∧ w'.cell? ⟨w.heap.size, 1, none⟩ = some (.slice (some ⟨b, off, none⟩) zs.length cap) ∧ w'.cell? ⟨b, off + i, none⟩ = some (.int .i64 (zN zs i)) ∧ w'.cell? ⟨b, off + j, none⟩ = some (.int .i64 (zN zs j)) ∧ w'.cell? ⟨b, off + k, none⟩ = some (.int .i64 (zN zs k)))
                    (first
                      | exact ⟨c0, c1, hxi, hxj, hxk⟩
                      | exact ⟨S3.1.2.1, S3.1.2.2, ((bdrew hb3).cell (p := ⟨b, off + i, none⟩) hbl).trans hxi, ((bdrew hb3).cell (p := ⟨b, off + j, none⟩) hbl).trans hxj, ((bdrew hb3).cell (p := ⟨b, off + k, none⟩) hbl).trans hxk⟩
                      | go_keep)
                    (first
                      | (go_at_call 70; refine (has_any _ _ _ _ _ _ SR.drew.2.1 hn).mono ?_; rintro e w3 ⟨rfl, hb3⟩; have S3 := SR.drew.below hb3))
                  go_wp2
                  go_ret
                  exact ⟨ret_bool HN.out.symm, (SR.drew.below hb3).2.2.2⟩
              · obtain rfl : k = zs.length := by omega
                go_wp2
                go_roundw
                case rel => exact ⟨j + 1, by omega, by go_num, fun j0 k0 hj0 hk0 => by
                  rcases Nat.lt_or_ge j0 j with h | h
                  · exact HB.out j0 k0 h hk0
                  · obtain rfl : j0 = j := by omega
                    exact HC.out k0 hk0, SR⟩
                case measure => simp only [intOf]; omega
          · obtain rfl : j = zs.length := by omega
            go_wp2
            go_roundw
            case rel => exact ⟨i + 1, by omega, by go_num, fun i0 j0 k0 hi0 hj0 hk0 => by
              rcases Nat.lt_or_ge i0 i with h | h
              · exact HA.out i0 j0 k0 h hj0 hk0
              · obtain rfl : i0 = i := by omega
                exact HB.out j0 k0 hj0 hk0, SR⟩
            case measure => simp only [intOf]; omega
      · obtain rfl : i = zs.length := by omega
        have HN := hide ((closed_iff join_par hV.out).2 HA.out)
        go_wp2
        go_ret
        exact ⟨ret_bool HN.out.symm, SR.2.2.2⟩
end Go.Proofs.Ytljbapfemjdneaa
