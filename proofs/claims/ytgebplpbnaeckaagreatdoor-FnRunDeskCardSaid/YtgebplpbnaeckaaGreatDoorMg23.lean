/- Texts of this seat one behind the other: RankR, PrsK, DskA, DskI. Conditions: none. -/
import Derived.Test.YtgebplpbnaeckaaGreatDoorMg20
import Derived.Test.YtgebplpbnaeckaaGreatDoorMg22
import Derived.Test.YtgebplpbnaeckaaGreatDoorMg18
import Derived.Test.YtgebplpbnaeckaaGreatDoorMg17
import Derived.Test.YtgebplpbnaeckaaGreatDoorMg08
import Derived.Test.YtgebplpbnaeckaaGreatDoorMg12
import Derived.Test.YtgebplpbnaeckaaGreatDoorMg13
import Derived.Test.YtgebplpbnaeckaaGreatDoorMg21
import Derived.Test.YtgebplpbnaeckaaGreatDoorMg16
import Derived.Deep.RegionHeld3

/- RankR: RankedRule of the program and of the model. -/
namespace Go.Proofs.YtgebplpbnaeckaaGreatDoor
open Go.RowKit Go.Joins

set_option maxHeartbeats 4000000 in
theorem implRankedRule_any (n : Int) (a l : Option Addr) (cap capl : Nat) (zs vs : List Int) (w : World) (hi : Ints w a zs) (hj : Ints w l vs) (hn : zs.length ≤ 1048576) (hm : vs.length ≤ 1048576) :
    Calls Tryz.prog 89 #[.agg #[.int .i64 n, .slice a zs.length cap], .slice l vs.length capl] w fun e w' => e = .returned (.int .i64 (rankV n zs vs)) ∧ Below w.heap.size w w' := by
  have S0 := SV.new w n a zs cap l vs 37 hi hj
  clear hi hj
  by_cases hv : vvB n zs vs = false
  · have HN := hide (rankV_no hv)
    have HV := hide hv
    clear hv
    obtain ⟨⟨_, c0, c1⟩, _⟩ := S0.pair
    go_enter Tryz.func89, Tryz.ntmps89
    go_wp2_with fail
    refine (votes_was _ _ _ _ _ _ _ _ false S0.2.1 S0.2.2.1 hn hm HV.out).mono ?_
    rintro e w1 ⟨rfl, hb⟩
    go_wp2
    go_ret
    exact ⟨ret_int HN.out.symm, (S0.below hb).2.2.2⟩
  · have hv : vvB n zs vs = true := by simpa using hv
    have hV := vv_of hv
    obtain ⟨m, rfl⟩ := Int.eq_ofNat_of_zero_le (show 0 ≤ n from by have := hV.1.1; omega)
    have h4 : m ≤ 4 := by have := hV.1.1; omega
    have h1 : 1 ≤ m := by have := hV.1.1; omega
    have hv5 : 0 ≤ (vs.length : Int) ∧ (vs.length : Int) ≤ 5 := by have := hV.2.2; omega
    have HV := hide hv
    have HSA : Hid (supA (m : Int) zs vs = supL m vs) := (supA_yes hv).trans (by rw [Int.toNat_natCast])
    have HSL := hide (supL_le (m := m) (vs := vs))
    have HN : Hid (rankV (m : Int) zs vs = turnV (m : Int) zs vs (clearL vs.length (supL m vs))) := by unfold Hid rankV; rw [Int.toNat_natCast]
    have hql := clearL_len vs.length (supL m vs)
    have hsl := supL_length m vs
    clear hv hV
    obtain ⟨ss, hss⟩ : ∃ ss, supL m vs = ss := ⟨_, rfl⟩
    rw [hss] at HSA HSL HN hql hsl
    obtain ⟨q, hqe⟩ : ∃ q, clearL vs.length ss = q := ⟨_, rfl⟩
    rw [hqe] at HN hql
    have HQ := hide hqe
    have hs1 : 0 < ss.length := by omega
    have hs4 : ss.length ≤ 4 := by omega
    have hq : q.length ≤ 1048576 := by omega
    clear hss hqe hql hsl
    obtain ⟨⟨_, c0, c1⟩, _⟩ := S0.pair
    go_enter Tryz.func89, Tryz.ntmps89
    go_wp2_with fail
    refine (votes_was _ _ _ _ _ _ _ _ true S0.2.1 S0.2.2.1 hn hm HV.out).mono ?_
    rintro e w1 ⟨rfl, hb⟩
    have S1 := S0.below hb
    clear S0 hb c0 c1
    obtain ⟨⟨_, c0, c1⟩, _⟩ := S1.pair
    go_wp2
    refine wp_region_held_drew (S := (fun w' => w'.cell? ⟨w.heap.size, 0, none⟩ = some (.int .i64 (m : Int)) ∧ w'.cell? ⟨w.heap.size, 1, none⟩ = some (.slice a zs.length cap))) (by kernel_rfl) ?_ (fun hHeld => ?_)
    · exact ⟨c0, c1⟩
    refine wpAnyH_take (i := 0) (v := ?vvt1) rfl (by kernel_rfl) (by kernel_rfl) (by kernel_rfl) (fun _ _ _ h => h) (Or.inl ⟨by rfl, ?hyt1⟩) (by assumption) ?restt1
    case hyt1 => (intro w hSw; (try dsimp only at hSw); go_simp; (try with_reducible rfl))
    case restt1 =>
      (try simp only [Act.put, List.setIfInBounds_toArray, List.set_cons_zero, List.set_cons_succ, List.getElem_toArray, List.getElem_cons_zero])
      refine wpAnyH_take (i := 1) (v := ?vvt2) rfl (by kernel_rfl) (by kernel_rfl) (by kernel_rfl) (fun _ _ _ h => h) (Or.inl ⟨by rfl, ?hyt2⟩) (by assumption) ?restt2
      case hyt2 => (intro w hSw; (try dsimp only at hSw); go_simp; (try with_reducible rfl))
      case restt2 =>
        (try simp only [Act.put, List.setIfInBounds_toArray, List.set_cons_zero, List.set_cons_succ, List.getElem_toArray, List.getElem_cons_zero, List.getElem_cons_succ])
        refine wpAnyH_take (i := 2) (v := ?vvt3) rfl (by kernel_rfl) (by kernel_rfl) (by kernel_rfl) (fun _ _ _ h => h) (Or.inl ⟨by rfl, ?hyt3⟩) (by assumption) ?restt3
        case hyt3 => (intro w hSw; (try dsimp only at hSw); go_simp; (try with_reducible rfl))
        case restt3 =>
          (try simp only [Act.put, List.setIfInBounds_toArray, List.set_cons_zero, List.set_cons_succ, List.getElem_toArray, List.getElem_cons_zero, List.getElem_cons_succ])
          refine wpAnyH_take (i := 3) (v := ?vvt4) rfl (by kernel_rfl) (by kernel_rfl) (by kernel_rfl) (fun _ _ _ h => h) (Or.inl ⟨by rfl, ?hyt4⟩) (by assumption) ?restt4
          case hyt4 => (intro w hSw; (try dsimp only at hSw); go_simp; (try with_reducible rfl))
          case restt4 =>
            (try simp only [Act.put, List.setIfInBounds_toArray, List.set_cons_zero, List.set_cons_succ, List.getElem_toArray, List.getElem_cons_zero, List.getElem_cons_succ])
            refine wpAnyH_take (i := 5) (v := ?vvt5) rfl (by kernel_rfl) (by kernel_rfl) (by kernel_rfl) (fun _ _ _ h => h) (Or.inl ⟨by rfl, ?hyt5⟩) (by assumption) ?restt5
            case hyt5 => (intro w hSw; (try dsimp only at hSw); go_simp; (try with_reducible rfl))
            case restt5 =>
              (try simp only [Act.put, List.setIfInBounds_toArray, List.set_cons_zero, List.set_cons_succ, List.getElem_toArray, List.getElem_cons_zero, List.getElem_cons_succ])
              refine wpAnyH_take (i := 6) (v := ?vvt6) rfl (by kernel_rfl) (by kernel_rfl) (by kernel_rfl) (fun _ _ _ h => h) (Or.inl ⟨by rfl, ?hyt6⟩) (by assumption) ?restt6
              case hyt6 => (intro w hSw; (try dsimp only at hSw); go_simp; (try with_reducible rfl))
              case restt6 =>
                (try simp only [Act.put, List.setIfInBounds_toArray, List.set_cons_zero, List.set_cons_succ, List.getElem_toArray, List.getElem_cons_zero, List.getElem_cons_succ])
                refine wpAnyH_ready (rs := [4]) (by kernel_rfl) (by simp) ?_
                refine (AllReadyH.cons rfl (fun K hK => ?_) AllReadyH.nil)
                go_simp
                go_at_call 113
                refine (implSupportOf_any _ _ _ _ _ _ _ _ (S1.below (bdrew' (Below.refl _ _))).2.1 (S1.below (bdrew' (Below.refl _ _))).2.2.1 hn hm).mono ?_
                rintro e w2 ⟨v2, rfl, ov, hb2⟩
                rw [HSA.out] at ov
                obtain ⟨av, cv, rfl, iv, _⟩ := ov.form
                have S2 := S1.below (bdrew hb2)
                have IV := hide iv
                clear ov iv hb2 c0 c1
                obtain ⟨⟨_, c0, c1⟩, _⟩ := S2.pair
                refine hK.out _ _ ?_ (fun hHeld => ?_)
                · exact ⟨c0, c1⟩
                clear hK K
                (try simp only [Act.put, List.setIfInBounds_toArray, List.set_cons_zero, List.set_cons_succ, List.getElem_toArray, List.getElem_cons_zero, List.getElem_cons_succ])
                refine wpAnyH_ready (rs := [7]) (by kernel_rfl) (by simp) ?_
                refine (AllReadyH.cons rfl (fun K hK => ?_) AllReadyH.nil)
                go_simp
                go_at_call 112
                refine (clearestFirst_any _ _ _ _ _ IV.out hs1 hs4 hv5 HSL.out).mono ?_
                rintro e w3 ⟨v3, rfl, oq, hb3⟩
                rw [HQ.out] at oq
                obtain ⟨aq, cq, rfl, iq, _⟩ := oq.form
                have S3 := S2.below hb3
                have IQ := hide iq
                clear oq iq hb3 c0 c1
                obtain ⟨⟨_, c0, c1⟩, _⟩ := S3.pair
                refine hK.out _ _ ?_ (fun hHeld => ?_)
                · exact ⟨c0, c1⟩
                clear hK K
                (try simp only [Act.put, List.setIfInBounds_toArray, List.set_cons_zero, List.set_cons_succ, List.getElem_toArray, List.getElem_cons_zero, List.getElem_cons_succ])
                refine wpAnyH_ready (rs := [8]) (by kernel_rfl) (by simp) ?_
                refine (AllReadyH.cons rfl (fun K hK => ?_) AllReadyH.nil)
                go_simp
                go_at_call 111
                refine (implTurnRule_any _ _ _ _ _ _ _ _ _ _ _ S3.2.1 S3.2.2.1 IQ.out hn hm hq).mono ?_
                rintro e w4 ⟨rfl, hb4⟩
                have S4 := S3.below hb4
                clear c0 c1
                obtain ⟨⟨_, c0, c1⟩, _⟩ := S4.pair
                refine hK.out _ _ ?_ (fun hHeld => ?_)
                · exact ⟨c0, c1⟩
                clear hK K
                (try simp only [Act.put, List.setIfInBounds_toArray, List.set_cons_zero, List.set_cons_succ, List.getElem_toArray, List.getElem_cons_zero, List.getElem_cons_succ])
                refine wpAnyH_take (i := 9) (v := ?vvt7) rfl (by kernel_rfl) (by kernel_rfl) (by kernel_rfl) (fun _ _ _ h => h) (Or.inl ⟨by rfl, ?hyt7⟩) (by assumption) ?restt7
                case hyt7 => (intro w hSw; (try dsimp only at hSw); go_simp; (try with_reducible rfl))
                case restt7 =>
                  (try simp only [Act.put, List.setIfInBounds_toArray, List.set_cons_zero, List.set_cons_succ, List.getElem_toArray, List.getElem_cons_zero, List.getElem_cons_succ])
                  refine wpAnyH_done (by kernel_rfl) ?_ _
                  go_wp2
                  go_ret
                  exact ⟨ret_int HN.out.symm, S4.2.2.2⟩

theorem rowF_yes {f : Int → Int} {d : Int} {k : Nat} (h : f (k : Int) = d) : rowF f d (k + 1) = rowF f d k ++ [(k : Int)] := by rw [rowF, if_pos h]
theorem rowF_no {f : Int → Int} {d : Int} {k : Nat} (h : ¬ f (k : Int) = d) : rowF f d (k + 1) = rowF f d k := by rw [rowF, if_neg h]
theorem lead_sup {m : Nat} {vs : List Int} {j : Nat} (h : j < m) : leadV vs.length (supL m vs) (j : Int) = max (2 * (supN vs j : Int) - vs.length) (vs.length - 2 * (supN vs j : Int)) := by
  unfold leadV supL
  rw [Int.toNat_natCast, supKL_getD _ _ _ _ h]
  rfl
set_option maxHeartbeats 4000000 in
set_option maxRecDepth 100000 in
theorem specRankedRule_any (n : Int) (a l : Option Addr) (cap capl : Nat) (zs vs : List Int) (w : World) (hi : Ints w a zs) (hj : Ints w l vs) (hn : zs.length ≤ 1048576) (hm : vs.length ≤ 1048576) :
    Calls Tryz.prog 44 #[.agg #[.int .i64 n, .slice a zs.length cap], .slice l vs.length capl] w fun e w' => e = .returned (.int .i64 (rankV n zs vs)) ∧ Below w.heap.size w w' := by
  obtain ⟨i0, hi0, hz0, hz1, hz2⟩ := info_parts info_int
  have S0 := SV.new w n a zs cap l vs 37 hi hj
  clear hi hj
  by_cases hv : vsB n zs = false
  · have HN := hide (rankV_no (vvB_no (vs := vs) hv))
    go_enter Tryz.func44, Tryz.ntmps44
    go_wp2_with fail
    refine (validSpace_any _ _ _ _ _ S0.2.1 hn).mono ?_
    rintro e w1 ⟨rfl, hb⟩
    go_wp2
    go_ret
    exact ⟨ret_int HN.out.symm, (S0.below hb).2.2.2⟩
  · have hv : vsB n zs = true := by simpa using hv
    have hV := hide (valid_of hv)
    have HVV := hide (vvB_yes (vs := vs) hv)
    by_cases hvo : votesB zs vs = false
    · have HN := hide (rankV_no (HVV.out.trans hvo))
      go_enter Tryz.func44, Tryz.ntmps44
      go_wp2_with fail
      refine (validSpace_any _ _ _ _ _ S0.2.1 hn).mono ?_
      rintro e w1 ⟨rfl, hb⟩
      have S1 := S0.below hb
      obtain ⟨⟨_, c0, c1⟩, _⟩ := S1.pair
      go_wp2_with fail
      refine (validVotes_any _ _ _ _ _ _ _ _ S1.2.1 S1.2.2.1 hn hm).mono ?_
      rintro e w2 ⟨rfl, hb2⟩
      go_wp2
      go_ret
      exact ⟨ret_int HN.out.symm, (S1.below hb2).2.2.2⟩
    · have hvo : votesB zs vs = true := by simpa using hvo
      have hvv := HVV.out.trans hvo
      have HVO := hide (votes_of hvo)
      have HR := hide (votes_range hV.out HVO.out)
      have HZ := hide (valid_range hV.out)
      have h5 : vs.length ≤ 5 := by have := HVO.out.2; omega
      obtain ⟨m, rfl⟩ := Int.eq_ofNat_of_zero_le (show 0 ≤ n from by have := hV.out.1; omega)
      have h4 : m ≤ 4 := by have := hV.out.1; omega
      have h1 : 1 ≤ m := by have := hV.out.1; omega
      have hk := rankV_yes hvv
      rw [hk.1] at hk
      have HOK := hide hk.2.1
      have HN := hide hk.2.2
      have HLS : Hid (∀ j : Nat, j < m → leadV vs.length (supL m vs) (j : Int) = max (2 * (supN vs j : Int) - vs.length) (vs.length - 2 * (supN vs j : Int))) := fun j hj => lead_sup hj
      obtain ⟨f, hf⟩ : ∃ f, leadV vs.length (supL m vs) = f := ⟨_, rfl⟩
      rw [hf] at HOK HN HLS
      clear hvv hvo hk hf
      go_enter Tryz.func44, Tryz.ntmps44
      go_wp2_with fail
      refine (validSpace_any _ _ _ _ _ S0.2.1 hn).mono ?_
      rintro e w1 ⟨rfl, hb⟩
      have S1 := S0.below hb
      obtain ⟨⟨_, c0, c1⟩, _⟩ := S1.pair
      go_wp2_with fail
      refine (validVotes_any _ _ _ _ _ _ _ _ S1.2.1 S1.2.2.1 hn hm).mono ?_
      rintro e wo ⟨rfl, hb2⟩
      have SR := S1.below hb2
      clear S0 hb S1 hb2 c0 c1
      obtain ⟨⟨_, c0, c1⟩, _⟩ := SR.pair
      have ho0 : Owns (wo.alloc (.cells #[] 3)) wo.heap.size (.slice (some ⟨wo.heap.size, 0, none⟩) 0 0) [] := World.ownsRow_lit wo #[] 0 (Nat.le_refl _) (by simp) rfl
      have BA := bel1 wo (.cells #[] 3)
      go_wp2
      clear c0 c1
      go_loopw [5, 6] (fun v d wr => ∃ t : Nat, t ≤ vs.length + 1 ∧ d = .int .i64 ((vs.length : Int) - (t : Int)) ∧ Owns wr wo.heap.size v (rowsF f vs.length m t) ∧ Below wo.heap.size wo wr) (fun _ d _ => (intOf d + 1).toNat)
      case atStart => exact ⟨0, Nat.zero_le _, by simp, ho0, BA⟩
      case round =>
        clear ho0 BA
        obtain ⟨t, ht, rfl, hown, BR⟩ := hrel
        obtain ⟨wk, rfl⟩ : ∃ wk, wk = wr := ⟨_, rfl⟩
        obtain ⟨⟨_, c0, c1⟩, _, il, _⟩ := (SR.below BR).pair
        have hws : IntKind.i64.wrap ((vs.length : Int) - (t : Int) - 1) = (vs.length : Int) - ((t + 1 : Nat) : Int) := by rw [IntWalk.i64_in _ (by omega)]; omega
        obtain ⟨d, hd⟩ : ∃ d : Int, (vs.length : Int) - (t : Int) = d := ⟨_, rfl⟩
        rw [hd] at hws ⊢
        by_cases hlt : t ≤ vs.length
        · have hd0 : 0 ≤ d := by omega
          have HD := hide hd
          have HR1 : Hid (rowsF f vs.length m (t + 1) = rowsF f vs.length m t ++ rowF f d m) := by unfold Hid; rw [← hd]; rfl
          have hlen := rowsF_len f vs.length m t
          have hlen' : (rowsF f vs.length m t).length ≤ 24 := Nat.le_trans hlen (Nat.le_trans (Nat.mul_le_mul h4 (show t ≤ 6 by omega)) (by decide))
          obtain ⟨L0, hL0⟩ : ∃ L0, rowsF f vs.length m t = L0 := ⟨_, rfl⟩
          rw [hL0] at hown HR1 hlen'
          clear hd hlen hL0
          go_wp2
          clear c0 c1 il
          go_loopw [5, 7] (fun v i wq => ∃ j : Nat, j ≤ m ∧ i = .int .i64 j ∧ Owns wq wo.heap.size v (L0 ++ rowF f d j) ∧ Below wo.heap.size wo wq) (fun _ i _ => m - (intOf i).toNat)
          case atStart => exact ⟨0, Nat.zero_le _, rfl, by rw [rowF, List.append_nil]; exact hown, BR⟩
          case round =>
            clear hown BR
            obtain ⟨j, hj, rfl, hown, BR⟩ := hrel
            obtain ⟨wq, rfl⟩ : ∃ wq, wq = wr := ⟨_, rfl⟩
            obtain ⟨⟨_, c0, c1⟩, _, il, _⟩ := (SR.below BR).pair
            by_cases hjt : j < m
            · have hsz := BR.size
              have hsn := supN_le vs j
              have hls := HLS.out j hjt
              have hle := rowF_len f d j
              have hwa : IntKind.i64.wrap (2 * (supN vs j : Int)) = 2 * (supN vs j : Int) := IntWalk.i64_in _ (by omega)
              have hwb : IntKind.i64.wrap (2 * (supN vs j : Int) - (vs.length : Int)) = 2 * (supN vs j : Int) - (vs.length : Int) := IntWalk.i64_in _ (by omega)
              have hwc : IntKind.i64.wrap (-(2 * (supN vs j : Int) - (vs.length : Int))) = (vs.length : Int) - 2 * (supN vs j : Int) := by rw [IntWalk.i64_in _ (by omega)]; omega
              obtain ⟨F, hF⟩ : ∃ F, f (j : Int) = F := ⟨_, rfl⟩
              have hmx : max (2 * (supN vs j : Int) - (vs.length : Int)) (-(2 * (supN vs j : Int) - (vs.length : Int))) = F := by rw [← hF, hls]; omega
              obtain ⟨LL, hLL⟩ : ∃ LL, L0 ++ rowF f d j = LL := ⟨_, rfl⟩
              have hll : LL.length ≤ 28 := by rw [← hLL, List.length_append]; omega
              rw [hLL] at hown
              clear hls hwc hle
              by_cases hyes : F = d
              · have HRW : Hid (L0 ++ rowF f d (j + 1) = LL ++ [(j : Int)]) := by unfold Hid; rw [rowF_yes (hF.trans hyes), ← List.append_assoc, hLL]
                clear hF HLS hLL
                go_wp2_with (first | (go_at_call 64; refine (support_any _ _ _ _ _ il hm HR.out (by omega)).mono ?_; rintro e w' ⟨rfl, rfl⟩) | (at_builtin; refine wpList_append_own _ rfl _ _ 35 rfl wo.heap.size 3 i0 (.int .i64 0) 1 8 Tryz.underlying35 hi0 hz0 hz1 hz2 rfl (by decide) _ _ _ rfl (hown.alloc _) ⟨wq.heap.size, 0, none⟩ 1 1 [.int .i64 (j : Int)] rfl rfl ?c1 ?c2 ?c3 ?c4 ?c5 ?_))
                case c1 => exact cell_one_new _ _ _
                case c2 => intro u hu; simp at hu; subst hu; rfl
                case c3 => unfold maxLen; omega
                case c4 => omega
                case c5 => simp; omega
                intro v' w2 hown' hgrow _
                have hpush := hide (Owns.push hown')
                have hbel : Below wo.heap.size wo w2 := (BR.alloc hsz _).grown hgrow (by simp; omega) (fun k hk => own_ge hown k hk)
                clear hown' hgrow hown
                go_wp2
                go_roundw
                case rel => exact ⟨j + 1, by omega, by go_num, by rw [HRW.out]; exact hpush.out, hbel⟩
                case measure => simp only [intOf]; omega
              · have hno : ¬ F = d := hyes
                have HRW : Hid (L0 ++ rowF f d (j + 1) = LL) := by unfold Hid; rw [rowF_no (fun e => hno (hF.symm.trans e)), hLL]
                clear hF HLS hyes hLL
                go_wp2_with (go_at_call 64; refine (support_any _ _ _ _ _ il hm HR.out (by omega)).mono ?_; rintro e w' ⟨rfl, rfl⟩)
                go_roundw
                case rel => exact ⟨j + 1, by omega, by go_num, by rw [HRW.out]; exact hown, BR⟩
                case measure => simp only [intOf]; omega
            · obtain rfl : j = m := by omega
              go_wp2
              go_roundw
              case rel => exact ⟨t + 1, by omega, by go_num, by rw [HR1.out]; exact hown, BR⟩
              case measure => simp only [intOf]; have := HD.out; omega
        · obtain rfl : t = vs.length + 1 := by omega
          have hd1 : ¬ (0 ≤ d) := by omega
          have hlen := rowsF_len f vs.length m (vs.length + 1)
          obtain ⟨L, hL⟩ : ∃ L, rowsF f vs.length m (vs.length + 1) = L := ⟨_, rfl⟩
          rw [hL] at hown HOK HN
          obtain ⟨av, cv, rfl, iv, _⟩ := hown.form
          have IV := hide iv
          clear hown iv hL hlen hd hws
          go_wp2_with fail
          refine (inTurn_any _ _ _ _ _ _ _ _ _ _ _ (SR.below BR).2.1 (SR.below BR).2.2.1 IV.out hn h5 h1 h4 HZ.out HR.out HOK.out).mono ?_
          rintro e w9 ⟨rfl, hb9⟩
          go_wp2
          go_ret
          exact ⟨ret_int HN.out.symm, ((SR.below BR).below hb9).2.2.2⟩
end Go.Proofs.YtgebplpbnaeckaaGreatDoor

/- PrsK: ParseSpace of the program. -/
namespace Go.Proofs.YtgebplpbnaeckaaGreatDoor
open Go.RowKit Go.Joins

theorem cut_was (s H T : ByteArray) (b : Bool) (w : World) (hs : s.size ≤ 1048576) (hg : GV w) (hH : ⟨(Lib.cut s.data.toList [58]).1.toArray⟩ = H) (hT : ⟨(Lib.cut s.data.toList [58]).2.1.toArray⟩ = T) (hb : (Lib.cut s.data.toList [58]).2.2 = b) :
    Calls Tryz.prog 130 #[.string s, .string ⟨#[58]⟩] w fun e w' => e = .returned (.tuple #[.string H, .string T, .bool b]) ∧ Below w.heap.size w w' := by
  subst hH hT hb
  obtain ⟨m, hm⟩ := hg.ml
  refine (Tryz.strings_Cut s ⟨#[58]⟩ m w (by omega) hm).mono ?_
  rintro e w' ⟨rfl, n, rfl⟩
  exact ⟨rfl, ⟨rfl, rfl, rfl, Nat.le_refl _, fun _ _ => rfl⟩⟩
theorem cut_small (l : List UInt8) : (Lib.cut l [58]).1.length ≤ l.length ∧ ((Lib.cut l [58]).2.1.length = 0 ∨ (Lib.cut l [58]).2.1.length + 1 ≤ l.length) := by
  rcases cut_spl 58 l with ⟨_, hc⟩ | ⟨a, b, rfl, _, hc⟩
  · rw [hc]; simp
  · rw [hc]
    simp only [List.length_append, List.length_cons]
    omega
def bothO : Option Int → Option (List Int) → Option (Int × List Int)
  | some n, some zs => if vsB n zs = true then some (n, zs) else none
  | _, _ => none
theorem parI_eq (l : List UInt8) (o1 : Option Int) (o2 : Option (List Int)) (h1 : prN (Lib.cut l [58]).1 = o1) (h2 : prL (spl 44 (Lib.cut l [58]).2.1) = o2) : parS l = bothO o1 o2 := by
  subst h1 h2
  rw [← par_same]
  unfold parI bothO
  rfl
set_option maxHeartbeats 2000000 in
set_option maxRecDepth 100000 in
theorem implParse_any (s : ByteArray) (o : Option (Int × List Int)) (w : World) (hs : s.size ≤ 1048576) (hg : GV w) (ho : parS s.data.toList = o) :
    Calls Tryz.prog 106 #[.string s] w fun e w' => PsE o w w' e ∧ Below w.heap.size w w' := by
  subst ho
  obtain ⟨H, hH⟩ : ∃ H : ByteArray, ⟨(Lib.cut s.data.toList [58]).1.toArray⟩ = H := ⟨_, rfl⟩
  obtain ⟨T, hT⟩ : ∃ T : ByteArray, ⟨(Lib.cut s.data.toList [58]).2.1.toArray⟩ = T := ⟨_, rfl⟩
  obtain ⟨b, hb⟩ : ∃ b, (Lib.cut s.data.toList [58]).2.2 = b := ⟨_, rfl⟩
  have hHl : (Lib.cut s.data.toList [58]).1 = H.data.toList := by rw [← hH]
  have hTl : (Lib.cut s.data.toList [58]).2.1 = T.data.toList := by rw [← hT]
  have hcs := cut_small s.data.toList
  rw [hHl, hTl, Array.length_toList, Array.length_toList, Array.length_toList] at hcs
  have hHs : H.size ≤ 1048576 := Nat.le_trans hcs.1 hs
  have hTn : T.size + 1 ≤ 1048576 := by
    have h3 : T.data.size = T.size := rfl
    have h4 : s.data.size = s.size := rfl
    omega
  have hTs : T.size ≤ 1048576 := by omega
  obtain ⟨o1, h1⟩ : ∃ o1, prN H.data.toList = o1 := ⟨_, rfl⟩
  obtain ⟨o2, h2⟩ : ∃ o2, prL (spl 44 T.data.toList) = o2 := ⟨_, rfl⟩
  have HPE := hide (parI_eq s.data.toList o1 o2 (by rw [hHl]; exact h1) (by rw [hTl]; exact h2))
  have HC1 := hide hH
  have HC2 := hide hT
  have HC3 := hide hb
  have HO1 := hide h1
  have HO2 := hide h2
  have BB := bel1 w (.cells #[.int .i64 0, .slice none 0 0] 37)
  have hb0 := heap_alloc_new w (.cells #[.int .i64 0, .slice none 0 0] 37)
  obtain ⟨W, hW⟩ : ∃ W : World, W = w.alloc (.cells #[.int .i64 0, .slice none 0 0] 37) := ⟨_, rfl⟩
  rw [← hW] at BB hb0
  have hW1 : w.heap.size < W.heap.size := lt_of_block hb0
  have HKB := hide hb0
  clear hH hT hb hHl hTl hcs h1 h2 hb0
  go_enter Tryz.func106, Tryz.ntmps106
  go_wp2_with fail
  rw [← hW]
  clear hW
  refine (cut_was s H T b _ hs (hg.below BB) HC1.out HC2.out HC3.out).mono ?_
  rintro e w1 ⟨rfl, hb1⟩
  have B1 := BB.trans (hb1.mono BB.size)
  go_wp2_with fail
  refine (parseNumber_any H o1 _ hHs (hg.below B1) HO1.out).mono ?_
  rintro e w2 ⟨hE, hb2⟩
  have B2 := bnext B1 hb2
  have hs2 : w.heap.size < w2.heap.size := by have := hb1.size; have := hb2.size; omega
  have r2 := (hb2.block _ (by have := hb1.size; omega)).trans ((hb1.block _ hW1).trans HKB.out)
  have HR2 := hide r2
  clear hb1 hb2 B1 r2 BB HC1 HC2 HC3 HO1 HKB
  have fin0 : ∀ (w3 : World), Below w.heap.size w w3 → Below w.heap.size w ((w3.setCell ⟨w.heap.size, 0, none⟩ (.int .i64 0)).setCell ⟨w.heap.size, 1, none⟩ (.slice none 0 0)) := fun w3 h => (h.setCell (p := ⟨w.heap.size, 0, none⟩) (Nat.le_refl _) _).setCell (p := ⟨w.heap.size, 1, none⟩) (Nat.le_refl _) _
  rcases hE with ⟨n, rfl, rfl⟩ | ⟨rfl, rfl⟩
  · go_wp2_with fail
    refine (parseNumbers_any T o2 _ hTs (hg.below B2) HO2.out).mono ?_
    rintro e w3 ⟨hE3, hb3⟩
    have B3 := bnext B2 hb3
    have r3 := (hb3.block _ hs2).trans HR2.out
    have hs3 : w.heap.size < w3.heap.size := lt_of_block r3
    rcases hE3 with ⟨zs, a3, c3, rfl, rfl, OW, hzl⟩ | ⟨rfl, rfl⟩
    · have bb := bel1 w3 (.cells #[.int .i64 n, .slice a3 zs.length c3] 37)
      have kb := heap_alloc_new w3 (.cells #[.int .i64 n, .slice a3 zs.length c3] 37)
      have iw := OW.ints.below bb
      go_wp2_with fail
      refine (implValidSpace_any _ _ _ _ _ iw (by omega)).mono ?_
      rintro e w4 ⟨rfl, hb4⟩
      have B4 := bnext (bnext B3 bb) hb4
      have r4 := (hb4.block _ (by simp; omega)).trans ((bb.block _ hs3).trans r3)
      have k4 := (hb4.block _ (by simp)).trans kb
      have f0 := unfrozen_of_block r4 0
      have f1 := unfrozen_of_block r4 1
      have g0 := cell_of_block r4 0
      have g1 := cell_of_block r4 1
      have x0 := cell_of_block k4 0
      have x1 := cell_of_block k4 1
      have HRS := hide r4
      have HOW := hide (OW.below (bb.trans (hb4.mono bb.size)))
      clear r3 r4 k4 OW iw hb3 hb4 kb
      cases hvb : vsB n zs with
      | true =>
        have HN : Hid (parS s.data.toList = some (n, zs)) := HPE.out.trans (if_pos hvb)
        clear hvb
        go_wp2
        refine bodyPost_ret (ret_spb rfl _ _ _ _ _ rfl (block_setCell (i := 1) (block_setCell (i := 0) HRS.out _) _)) rfl ?_
        refine ⟨.inl ⟨n, zs, a3, c3, HN.out, rfl, ?_⟩, (B4.setCell (p := ⟨w.heap.size, 0, none⟩) (Nat.le_refl _) _).setCell (p := ⟨w.heap.size, 1, none⟩) (Nat.le_refl _) _⟩
        exact ((HOW.out.setBelow (p := ⟨w.heap.size, 0, none⟩) hs2 _).setBelow (p := ⟨w.heap.size, 1, none⟩) hs2 _).le B2.size
      | false =>
        have HN : Hid (parS s.data.toList = none) := HPE.out.trans (if_neg (by rw [hvb]; decide))
        clear hvb
        go_wp2
        refine bodyPost_ret (ret_spb rfl _ _ _ _ _ rfl (block_setCell (i := 1) (block_setCell (i := 0) HRS.out _) _)) rfl ?_
        exact ⟨.inr ⟨HN.out, rfl⟩, fin0 _ B4⟩
    · have f0 := unfrozen_of_block r3 0
      have f1 := unfrozen_of_block r3 1
      have g0 := cell_of_block r3 0
      have g1 := cell_of_block r3 1
      have HRS := hide r3
      have HN : Hid (parS s.data.toList = none) := HPE.out
      clear r3
      go_wp2
      refine bodyPost_ret (ret_spb rfl _ _ _ _ _ rfl (((bel1 _ _).block _ (by simp; exact hs3)).trans (block_setCell (i := 1) (block_setCell (i := 0) HRS.out _) _))) rfl ?_
      exact ⟨.inr ⟨HN.out, rfl⟩, (fin0 _ B3).alloc (by simp; omega) _⟩
  · have HN : Hid (parS s.data.toList = none) := HPE.out
    go_wp2_with fail
    refine (parseNumbers_any T o2 _ hTs (hg.below B2) HO2.out).mono ?_
    rintro e w3 ⟨hE3, hb3⟩
    have B3 := bnext B2 hb3
    have r3 := (hb3.block _ hs2).trans HR2.out
    have hs3 : w.heap.size < w3.heap.size := lt_of_block r3
    obtain ⟨a3, n3, c3, b3, rfl⟩ : ∃ (a3 : Option Addr) (n3 c3 : Nat) (b3 : Bool), e = .returned (.tuple #[.slice a3 n3 c3, .bool b3]) := by
      rcases hE3 with ⟨zs, a3, c3, _, e3, _⟩ | ⟨_, e3⟩
      · exact ⟨_, _, _, _, e3⟩
      · exact ⟨_, _, _, _, e3⟩
    have f0 := unfrozen_of_block r3 0
    have f1 := unfrozen_of_block r3 1
    have g0 := cell_of_block r3 0
    have g1 := cell_of_block r3 1
    have HRS := hide r3
    clear r3 hE3
    go_wp2
    refine bodyPost_ret (ret_spb rfl _ _ _ _ _ rfl (((bel1 _ _).block _ (by simp; exact hs3)).trans (block_setCell (i := 1) (block_setCell (i := 0) HRS.out _) _))) rfl ?_
    exact ⟨.inr ⟨HN.out, rfl⟩, (fin0 _ B3).alloc (by simp; omega) _⟩
end Go.Proofs.YtgebplpbnaeckaaGreatDoor

/- DskA: The desk of the program: what is asked of a space, or of votes in it. -/
namespace Go.Proofs.YtgebplpbnaeckaaGreatDoor
open Go.RowKit Go.Joins

theorem yesOrNo_was (b : Bool) (S : ByteArray) (w : World) (h : yesB b = S) : Calls Tryz.prog 76 #[.bool b] w fun e w' => e = .returned (.string S) ∧ w = w' := by
  subst h
  cases b <;> (go_enter Tryz.func76, Tryz.ntmps76; go_wp2; go_ret; exact ⟨rfl, rfl⟩)
theorem itoa_nat (n : Nat) (S : ByteArray) (w : World) (h : n < 100) (hS : numS n = S) : Calls Tryz.prog 73 #[.int .i64 n] w fun e w' => e = .returned (.string S) ∧ w' = w := by
  subst hS
  exact Tryz.strconv_Itoa_small n h w
theorem critI_was (n : Int) (K : Nat) (a : Option Addr) (cap : Nat) (zs : List Int) (w : World) (hi : Ints w a zs) (hn : zs.length ≤ 1048576) (hV : Valid n zs) (hK : (critL n.toNat zs).length = K) :
    Calls Tryz.prog 74 #[.agg #[.int .i64 n, .slice a zs.length cap]] w fun e w' => ∃ va vc, e = .returned (.slice va K vc) ∧ Below w.heap.size w w' := by
  refine (implCriticalParts_any n a cap zs w hi hn).mono ?_
  rintro e w' ⟨v, rfl, ow, hb⟩
  obtain ⟨va, vc, rfl, _⟩ := ow.form
  exact ⟨va, vc, by rw [← hK, crR_yes (vsB_true hV)]; simp [ofP], hb⟩
theorem medianI_was (n : Int) (a : Option Addr) (cap : Nat) (zs : List Int) (w : World) (r : Bool) (hi : Ints w a zs) (hn : zs.length ≤ 1048576) (hc : zs.length ≤ cap) (hr : closedB med n zs = r) :
    Calls Tryz.prog 77 #[.agg #[.int .i64 n, .slice a zs.length cap]] w fun e w' => e = .returned (.bool r) ∧ Below w.heap.size w w' := by
  subst hr; exact implIsMedian_any n a cap zs w hi hn hc
theorem blockedI_was (n : Int) (a : Option Addr) (cap : Nat) (zs : List Int) (w : World) (r : Bool) (hi : Ints w a zs) (hn : zs.length ≤ 1048576) (hr : blkB n zs = r) :
    Calls Tryz.prog 79 #[.agg #[.int .i64 n, .slice a zs.length cap]] w fun e w' => e = .returned (.bool r) ∧ Below w.heap.size w w' := by
  subst hr; exact implIsBlocked_any n a cap zs w hi hn
theorem majI_was (n : Int) (K : Nat) (a l : Option Addr) (cap capl : Nat) (zs vs : List Int) (w : World) (hi : Ints w a zs) (hj : Ints w l vs) (hn : zs.length ≤ 1048576) (hm : vs.length ≤ 1048576) (hv : vvB n zs vs = true) (hK : wantB vs n.toNat = K) :
    Calls Tryz.prog 82 #[.agg #[.int .i64 n, .slice a zs.length cap], .slice l vs.length capl] w fun e w' => e = .returned (.int .i64 K) ∧ Below w.heap.size w w' := by
  rw [← hK, ← majV_yes hv]; exact implMajorityOf_any n a l cap capl zs vs w hi hj hn hm
theorem mdnsI_was (n : Int) (a l : Option Addr) (cap capl : Nat) (zs vs L : List Int) (w : World) (hi : Ints w a zs) (hj : Ints w l vs) (hn : zs.length ≤ 1048576) (hm : vs.length ≤ 1048576) (hL : bestA n zs vs = L) :
    Calls Tryz.prog 85 #[.agg #[.int .i64 n, .slice a zs.length cap], .slice l vs.length capl] w fun e w' => ∃ va vc, e = .returned (.slice va L.length vc) ∧ Ints w' va L ∧ Below w.heap.size w w' := by
  subst hL
  refine (implMedianRule_any n a l cap capl zs vs w hi hj hn hm).mono ?_
  rintro e w' ⟨v, rfl, ow, hb⟩
  obtain ⟨va, vc, rfl, iv, _⟩ := ow.form
  exact ⟨va, vc, rfl, iv, hb⟩
theorem slatI_was (n : Int) (a l : Option Addr) (cap capl : Nat) (zs vs L : List Int) (w : World) (hi : Ints w a zs) (hj : Ints w l vs) (hn : zs.length ≤ 1048576) (hm : vs.length ≤ 1048576) (hL : bestM n zs vs = L) :
    Calls Tryz.prog 87 #[.agg #[.int .i64 n, .slice a zs.length cap], .slice l vs.length capl] w fun e w' => ∃ va vc, e = .returned (.slice va L.length vc) ∧ Ints w' va L ∧ Below w.heap.size w w' := by
  subst hL
  refine (implSlaterRule_any n a l cap capl zs vs w hi hj hn hm).mono ?_
  rintro e w' ⟨v, rfl, ow, hb⟩
  obtain ⟨va, vc, rfl, iv, _⟩ := ow.form
  exact ⟨va, vc, rfl, iv, hb⟩
theorem rankI_was (n : Int) (K : Nat) (a l : Option Addr) (cap capl : Nat) (zs vs : List Int) (w : World) (hi : Ints w a zs) (hj : Ints w l vs) (hn : zs.length ≤ 1048576) (hm : vs.length ≤ 1048576) (h0 : 0 ≤ rankV n zs vs) (hK : (rankV n zs vs).toNat = K) :
    Calls Tryz.prog 89 #[.agg #[.int .i64 n, .slice a zs.length cap], .slice l vs.length capl] w fun e w' => e = .returned (.int .i64 K) ∧ Below w.heap.size w w' := by
  have e : rankV n zs vs = (K : Int) := by omega
  rw [← e]; exact implRankedRule_any n a l cap capl zs vs w hi hj hn hm
theorem numsI_was (L : List Int) (a : Option Addr) (len cap : Nat) (S : ByteArray) (w : World) (hi : Ints w a L) (hb : (∀ x ∈ L, 0 ≤ x ∧ x < 100) ∧ L.length ≤ 16) (hl : L.length = len) (hS : lstS L len = S) :
    Calls Tryz.prog 84 #[.slice a len cap] w fun e w' => e = .returned (.string S) ∧ Below w.heap.size w w' := by
  subst hl hS; exact numbersText_any a cap L w hi hb.1 (by omega)
set_option maxHeartbeats 2000000 in
theorem askCrit_any (n : Int) (S : ByteArray) (a : Option Addr) (cap : Nat) (zs : List Int) (w : World) (hi : Ints w a zs) (_hc : zs.length ≤ cap) (hV : Valid n zs) (hS : (askS wCrit n zs).getD wrongB = S) :
    Calls Tryz.prog 72 #[.agg #[.int .i64 n, .slice a zs.length cap]] w fun e w' => e = .returned (.string S) ∧ Below w.heap.size w w' := by
  obtain ⟨K, hK⟩ : ∃ K, (critL n.toNat zs).length = K := ⟨_, rfl⟩
  rw [askS_crit, hK] at hS
  have hk : K ≤ 81 := hK ▸ crit_81 n.toNat zs (by have := hV.1; omega)
  have hz := valid_len hV
  have HV := hide hV
  have HK := hide hK
  have HS := hide hS
  have bw := Box.new w n a zs.length cap 37
  have B1 := bel1 w (.cells #[.int .i64 n, .slice a zs.length cap] 37)
  have i1 := hi.below B1
  obtain ⟨_, p0, p1⟩ := bw.pair
  clear hi hV hK hS
  go_enter Tryz.func72, Tryz.ntmps72
  go_wp2_with fail
  refine (critI_was n K _ _ _ _ i1 (by omega) HV.out HK.out).mono ?_
  rintro e w2 ⟨va, vc, rfl, hb2⟩
  go_wp2_with fail
  refine (itoa_nat K S _ (by omega) HS.out).mono ?_
  rintro e w3 ⟨rfl, rfl⟩
  go_wp2
  go_ret
  exact ⟨rfl, bnext B1 hb2⟩
set_option maxHeartbeats 2000000 in
theorem askMedn_any (n : Int) (S : ByteArray) (a : Option Addr) (cap : Nat) (zs : List Int) (w : World) (hi : Ints w a zs) (hc : zs.length ≤ cap) (hV : Valid n zs) (hS : (askS wMedn n zs).getD wrongB = S) :
    Calls Tryz.prog 75 #[.agg #[.int .i64 n, .slice a zs.length cap]] w fun e w' => e = .returned (.string S) ∧ Below w.heap.size w w' := by
  obtain ⟨r, hr⟩ : ∃ r, closedB med n zs = r := ⟨_, rfl⟩
  rw [askS_medn, hr] at hS
  have hz := valid_len hV
  have HK := hide hr
  have HS := hide hS
  have bw := Box.new w n a zs.length cap 37
  have B1 := bel1 w (.cells #[.int .i64 n, .slice a zs.length cap] 37)
  have i1 := hi.below B1
  obtain ⟨_, p0, p1⟩ := bw.pair
  clear hi hV hr hS
  go_enter Tryz.func75, Tryz.ntmps75
  go_wp2_with fail
  refine (medianI_was n _ _ _ _ r i1 (by omega) hc HK.out).mono ?_
  rintro e w2 ⟨rfl, hb2⟩
  go_wp2_with fail
  refine (yesOrNo_was r S _ HS.out).mono ?_
  rintro e w3 ⟨rfl, rfl⟩
  go_wp2
  go_ret
  exact ⟨rfl, bnext B1 hb2⟩
set_option maxHeartbeats 2000000 in
theorem askBlck_any (n : Int) (S : ByteArray) (a : Option Addr) (cap : Nat) (zs : List Int) (w : World) (hi : Ints w a zs) (_hc : zs.length ≤ cap) (hV : Valid n zs) (hS : (askS wBlck n zs).getD wrongB = S) :
    Calls Tryz.prog 78 #[.agg #[.int .i64 n, .slice a zs.length cap]] w fun e w' => e = .returned (.string S) ∧ Below w.heap.size w w' := by
  obtain ⟨r, hr⟩ : ∃ r, blkB n zs = r := ⟨_, rfl⟩
  rw [askS_blck, hr] at hS
  have hz := valid_len hV
  have HK := hide hr
  have HS := hide hS
  have bw := Box.new w n a zs.length cap 37
  have B1 := bel1 w (.cells #[.int .i64 n, .slice a zs.length cap] 37)
  have i1 := hi.below B1
  obtain ⟨_, p0, p1⟩ := bw.pair
  clear hi hV hr hS
  go_enter Tryz.func78, Tryz.ntmps78
  go_wp2_with fail
  refine (blockedI_was n _ _ _ _ r i1 (by omega) HK.out).mono ?_
  rintro e w2 ⟨rfl, hb2⟩
  go_wp2_with fail
  refine (yesOrNo_was r S _ HS.out).mono ?_
  rintro e w3 ⟨rfl, rfl⟩
  go_wp2
  go_ret
  exact ⟨rfl, bnext B1 hb2⟩
set_option maxHeartbeats 2000000 in
theorem askMajr_any (n : Int) (S : ByteArray) (a l : Option Addr) (cap capl : Nat) (zs vs : List Int) (w : World) (hi : Ints w a zs) (hj : Ints w l vs) (hV : Valid n zs) (hm : vs.length ≤ 1048576) (hvb : votesB zs vs = true) (hS : (askV wMajr n zs vs).getD wrongB = S) :
    Calls Tryz.prog 81 #[.agg #[.int .i64 n, .slice a zs.length cap], .slice l vs.length capl] w fun e w' => e = .returned (.string S) ∧ Below w.heap.size w w' := by
  have hvv : vvB n zs vs = true := by unfold vvB; rw [vsB_true hV, hvb]; rfl
  have hz := valid_len hV
  obtain ⟨K, hK⟩ : ∃ K, wantB vs n.toNat = K := ⟨_, rfl⟩
  rw [askV_majr, hK] at hS
  have hk : K < 100 := by have := want_in vs hV; rw [hK] at this; omega
  have HK := hide hK
  have HS := hide hS
  clear hK hS
  have bw := Box.new w n a zs.length cap 37
  have B1 := bel1 w (.cells #[.int .i64 n, .slice a zs.length cap] 37)
  have i1 := hi.below B1
  have j1 := hj.below B1
  obtain ⟨_, p0, p1⟩ := bw.pair
  have HVV := hide hvv
  clear hi hj hV hvb hvv
  go_enter Tryz.func81, Tryz.ntmps81
  go_wp2_with fail
  refine (majI_was n K _ _ _ _ _ _ _ i1 j1 (by omega) hm HVV.out HK.out).mono ?_
  rintro e w2 ⟨rfl, hb2⟩
  go_wp2_with fail
  refine (itoa_nat K S _ hk HS.out).mono ?_
  rintro e w3 ⟨rfl, rfl⟩
  go_wp2
  go_ret
  exact ⟨rfl, bnext B1 hb2⟩
set_option maxHeartbeats 2000000 in
theorem askMdns_any (n : Int) (S : ByteArray) (a l : Option Addr) (cap capl : Nat) (zs vs : List Int) (w : World) (hi : Ints w a zs) (hj : Ints w l vs) (hV : Valid n zs) (hm : vs.length ≤ 1048576) (hvb : votesB zs vs = true) (hS : (askV wMdns n zs vs).getD wrongB = S) :
    Calls Tryz.prog 83 #[.agg #[.int .i64 n, .slice a zs.length cap], .slice l vs.length capl] w fun e w' => e = .returned (.string S) ∧ Below w.heap.size w w' := by
  have hvv : vvB n zs vs = true := by unfold vvB; rw [vsB_true hV, hvb]; rfl
  have hz := valid_len hV
  obtain ⟨L, hL⟩ : ∃ L, bestA n zs vs = L := ⟨_, rfl⟩
  rw [askV_mdns, hL] at hS
  have HB := hide (bestA_in (vs := vs) hV)
  rw [hL] at HB
  have HK := hide hL
  obtain ⟨len, hlen⟩ : ∃ len, L.length = len := ⟨_, rfl⟩
  rw [hlen] at hS
  have HS := hide hS
  have HLN := hide hlen
  clear hL hS hlen
  have bw := Box.new w n a zs.length cap 37
  have B1 := bel1 w (.cells #[.int .i64 n, .slice a zs.length cap] 37)
  have i1 := hi.below B1
  have j1 := hj.below B1
  obtain ⟨_, p0, p1⟩ := bw.pair
  have HVV := hide hvv
  clear hi hj hV hvb hvv
  go_enter Tryz.func83, Tryz.ntmps83
  go_wp2_with fail
  refine (mdnsI_was n _ _ _ _ _ _ L _ i1 j1 (by omega) hm HK.out).mono ?_
  rintro e w2 ⟨va, vc, rfl, il, hb2⟩
  rw [HLN.out]
  go_wp2_with fail
  refine (numsI_was L _ _ _ S _ il HB.out HLN.out HS.out).mono ?_
  rintro e w3 ⟨rfl, hb3⟩
  go_wp2
  go_ret
  exact ⟨rfl, bnext (bnext B1 hb2) hb3⟩
set_option maxHeartbeats 2000000 in
theorem askSlat_any (n : Int) (S : ByteArray) (a l : Option Addr) (cap capl : Nat) (zs vs : List Int) (w : World) (hi : Ints w a zs) (hj : Ints w l vs) (hV : Valid n zs) (hm : vs.length ≤ 1048576) (hvb : votesB zs vs = true) (hS : (askV wSlat n zs vs).getD wrongB = S) :
    Calls Tryz.prog 86 #[.agg #[.int .i64 n, .slice a zs.length cap], .slice l vs.length capl] w fun e w' => e = .returned (.string S) ∧ Below w.heap.size w w' := by
  have hvv : vvB n zs vs = true := by unfold vvB; rw [vsB_true hV, hvb]; rfl
  have hz := valid_len hV
  obtain ⟨L, hL⟩ : ∃ L, bestM n zs vs = L := ⟨_, rfl⟩
  rw [askV_slat, hL] at hS
  have HB := hide (bestM_in (vs := vs) hV)
  rw [hL] at HB
  have HK := hide hL
  obtain ⟨len, hlen⟩ : ∃ len, L.length = len := ⟨_, rfl⟩
  rw [hlen] at hS
  have HS := hide hS
  have HLN := hide hlen
  clear hL hS hlen
  have bw := Box.new w n a zs.length cap 37
  have B1 := bel1 w (.cells #[.int .i64 n, .slice a zs.length cap] 37)
  have i1 := hi.below B1
  have j1 := hj.below B1
  obtain ⟨_, p0, p1⟩ := bw.pair
  have HVV := hide hvv
  clear hi hj hV hvb hvv
  go_enter Tryz.func86, Tryz.ntmps86
  go_wp2_with fail
  refine (slatI_was n _ _ _ _ _ _ L _ i1 j1 (by omega) hm HK.out).mono ?_
  rintro e w2 ⟨va, vc, rfl, il, hb2⟩
  rw [HLN.out]
  go_wp2_with fail
  refine (numsI_was L _ _ _ S _ il HB.out HLN.out HS.out).mono ?_
  rintro e w3 ⟨rfl, hb3⟩
  go_wp2
  go_ret
  exact ⟨rfl, bnext (bnext B1 hb2) hb3⟩
set_option maxHeartbeats 2000000 in
theorem askRank_any (n : Int) (S : ByteArray) (a l : Option Addr) (cap capl : Nat) (zs vs : List Int) (w : World) (hi : Ints w a zs) (hj : Ints w l vs) (hV : Valid n zs) (hm : vs.length ≤ 1048576) (hvb : votesB zs vs = true) (hS : (askV wRank n zs vs).getD wrongB = S) :
    Calls Tryz.prog 88 #[.agg #[.int .i64 n, .slice a zs.length cap], .slice l vs.length capl] w fun e w' => e = .returned (.string S) ∧ Below w.heap.size w w' := by
  have hvv : vvB n zs vs = true := by unfold vvB; rw [vsB_true hV, hvb]; rfl
  have hz := valid_len hV
  obtain ⟨K, hK⟩ : ∃ K, (rankV n zs vs).toNat = K := ⟨_, rfl⟩
  rw [askV_rank, hK] at hS
  have hri := rank_in hV hvb
  have hk : K < 100 := by omega
  have HR0 := hide hri.1
  clear hri
  have HK := hide hK
  have HS := hide hS
  clear hK hS
  have bw := Box.new w n a zs.length cap 37
  have B1 := bel1 w (.cells #[.int .i64 n, .slice a zs.length cap] 37)
  have i1 := hi.below B1
  have j1 := hj.below B1
  obtain ⟨_, p0, p1⟩ := bw.pair
  have HVV := hide hvv
  clear hi hj hV hvb hvv
  go_enter Tryz.func88, Tryz.ntmps88
  go_wp2_with fail
  refine (rankI_was n K _ _ _ _ _ _ _ i1 j1 (by omega) hm HR0.out HK.out).mono ?_
  rintro e w2 ⟨rfl, hb2⟩
  go_wp2_with fail
  refine (itoa_nat K S _ hk HS.out).mono ?_
  rintro e w3 ⟨rfl, rfl⟩
  go_wp2
  go_ret
  exact ⟨rfl, bnext B1 hb2⟩
end Go.Proofs.YtgebplpbnaeckaaGreatDoor

/- DskI: The desk of the program: spaces and votes are read and what is asked is answered. (Written by tools/gendski.py.) -/
namespace Go.Proofs.YtgebplpbnaeckaaGreatDoor
open Go.RowKit Go.Joins

theorem votes_read {n : Int} {zs vs : List Int} {ps : List (List UInt8)} (hV : Valid n zs) (hvs : ps.map rdN = vs) :
    (prL ps = none → votesB zs vs = false) ∧ (∀ ys, prL ps = some ys → vvB n zs ys = true → ys = vs ∧ votesB zs vs = true) ∧ (∀ ys, prL ps = some ys → vvB n zs ys = false → votesB zs vs = false) := by
  have hin : ∀ ys, votesB zs ys = true → ∀ x ∈ ys, 0 ≤ x ∧ x ≤ 15 := fun ys hy x hx => by
    have h : VotesOk zs ys := by simpa [votesB] using hy
    obtain ⟨j, hj, rfl⟩ := List.getElem_of_mem hx
    have := h.1 j hj
    rw [getD_lt hj] at this
    exact valid_range hV _ this
  have hback : votesB zs vs = true → prL ps = some vs := fun h => (prL_iff (hin vs h)).2 ((rdM_iff (hin vs h)).1 hvs)
  refine ⟨fun h => ?_, fun ys h hv => ?_, fun ys h hv => ?_⟩
  · cases hc : votesB zs vs with
    | false => rfl
    | true => rw [hback hc] at h; cases h
  · have hy : votesB zs ys = true := by
      unfold vvB at hv
      rw [Bool.and_eq_true] at hv
      exact hv.2
    have h2 := (rdM_iff (hin ys hy)).2 ((prL_iff (hin ys hy)).1 h)
    have : ys = vs := h2.symm.trans hvs
    subst this
    exact ⟨rfl, hy⟩
  · cases hc : votesB zs vs with
    | false => rfl
    | true =>
      rw [hback hc] at h
      cases h
      unfold vvB at hv
      rw [vsB_true hV, hc] at hv
      cases hv
theorem votes_small5 {zs vs : List Int} (h : votesB zs vs = true) : vs.length ≤ 5 := by
  have h : VotesOk zs vs := by simpa [votesB] using h
  have := h.2
  omega
theorem Owns.cap_le {w : World} {base n cap : Nat} {a : Option Addr} {zs : List Int} (h : Owns w base (.slice a n cap) zs) : zs.length ≤ cap := by
  have h' : w.ownsRow base 3 1 (.slice a n cap) zs.length (zs.map (Value.int .i64)) := h
  rcases h'.2 with ⟨e, h0⟩ | ⟨g, cp, cur, e, _, _, hn, _⟩
  · have : zs.length = 0 := by simpa using h0
    omega
  · cases e; omega
theorem votesI_was (n : Int) (a l : Option Addr) (cap capl : Nat) (zs vs : List Int) (w : World) (r : Bool) (hi : Ints w a zs) (hj : Ints w l vs) (hn : zs.length ≤ 1048576) (hm : vs.length ≤ 1048576) (hr : vvB n zs vs = r) :
    Calls Tryz.prog 107 #[.agg #[.int .i64 n, .slice a zs.length cap], .slice l vs.length capl] w fun e w' => e = .returned (.bool r) ∧ Below w.heap.size w w' := by
  subst hr; exact implValidVotes_any n a l cap capl zs vs w hi hj hn hm
/-- what readSpace answers -/
def RsE (o : Option (Int × List Int)) (s : ByteArray) (w w' : World) (e : Ending) : Prop := (∃ n zs a cap, o = some (n, zs) ∧ e = .returned (.tuple #[.agg #[.int .i64 n, .slice a zs.length cap], .nilIface]) ∧ Owns w' w.heap.size (.slice a zs.length cap) zs) ∨ (o = none ∧ e = .returned (.tuple #[.agg #[.int .i64 0, .slice none 0 0], .iface 64 (.agg #[.string s])]))
set_option maxHeartbeats 2000000 in
set_option maxRecDepth 100000 in
theorem readSpace_any (s : ByteArray) (o : Option (Int × List Int)) (w : World) (hs : s.size ≤ 1048576) (hg : GV w) (ho : parS s.data.toList = o) :
    Calls Tryz.prog 80 #[.string s] w fun e w' => RsE o s w w' e ∧ Below w.heap.size w w' := by
  have BB := bel1 w (.cells #[.int .i64 0, .slice none 0 0] 37)
  have hb0 := heap_alloc_new w (.cells #[.int .i64 0, .slice none 0 0] 37)
  obtain ⟨W, hW⟩ : ∃ W : World, W = w.alloc (.cells #[.int .i64 0, .slice none 0 0] 37) := ⟨_, rfl⟩
  rw [← hW] at BB hb0
  have hW1 : w.heap.size < W.heap.size := lt_of_block hb0
  have HKB := hide hb0
  have HO := hide ho
  clear hb0 ho
  go_enter Tryz.func80, Tryz.ntmps80
  go_wp2_with fail
  rw [← hW]
  clear hW
  refine (implParse_any s o _ hs (hg.below BB) HO.out).mono ?_
  rintro e w1 ⟨hE, hb1⟩
  have B1 := BB.trans (hb1.mono BB.size)
  have r1 := (hb1.block _ hW1).trans HKB.out
  have hs1 : w.heap.size < w1.heap.size := lt_of_block r1
  have fin0 : ∀ (w3 : World) (x y : Value), Below w.heap.size w w3 → Below w.heap.size w ((w3.setCell ⟨w.heap.size, 0, none⟩ x).setCell ⟨w.heap.size, 1, none⟩ y) := fun w3 x y h => (h.setCell (p := ⟨w.heap.size, 0, none⟩) (Nat.le_refl _) x).setCell (p := ⟨w.heap.size, 1, none⟩) (Nat.le_refl _) y
  have f0 := unfrozen_of_block r1 0
  have f1 := unfrozen_of_block r1 1
  have g0 := cell_of_block r1 0
  have g1 := cell_of_block r1 1
  have HRS := hide r1
  have HB1 := hide B1
  rcases hE with ⟨n, zs, a, cap, rfl, rfl, OW⟩ | ⟨rfl, rfl⟩
  · have kb := heap_alloc_new w1 (.cells #[.int .i64 n, .slice a zs.length cap] 37)
    have x0 := cell_of_block kb 0
    have x1 := cell_of_block kb 1
    have HOW := hide OW
    clear r1 kb OW hb1
    go_wp2
    refine bodyPost_ret (ret_spb rfl _ _ _ _ _ rfl (((bel1 _ _).block _ (by simp; exact hs1)).trans (block_setCell (i := 1) (block_setCell (i := 0) HRS.out _) _))) rfl ?_
    refine ⟨.inl ⟨n, zs, a, cap, rfl, rfl, ?_⟩, (fin0 _ _ _ HB1.out).alloc (by simp; omega) _⟩
    exact (((HOW.out.setBelow (p := ⟨w.heap.size, 0, none⟩) hW1 _).setBelow (p := ⟨w.heap.size, 1, none⟩) hW1 _).below (bel1 _ _)).le BB.size
  · clear r1 hb1
    go_wp2
    refine bodyPost_ret (ret_spb rfl _ _ _ _ _ rfl (((bel1 _ _).block _ (by simp; exact hs1)).trans (block_setCell (i := 1) (block_setCell (i := 0) HRS.out _) _))) rfl ?_
    exact ⟨.inr ⟨rfl, rfl⟩, (fin0 _ _ _ HB1.out).alloc (by simp; omega) _⟩
/-- what readVotes answers -/
def RvE (r : Bool) (vs : List Int) (u : ByteArray) (w w' : World) (e : Ending) : Prop := (r = true ∧ ∃ a cap, e = .returned (.tuple #[.slice a vs.length cap, .nilIface]) ∧ Owns w' w.heap.size (.slice a vs.length cap) vs) ∨ (r = false ∧ e = .returned (.tuple #[.slice none 0 0, .iface 64 (.agg #[.string u])]))
set_option maxHeartbeats 2000000 in
set_option maxRecDepth 100000 in
theorem readVotes_any (n : Int) (a : Option Addr) (cap : Nat) (zs vs : List Int) (u : ByteArray) (r : Bool) (w : World) (hi : Ints w a zs) (hV : Valid n zs) (hu : u.size + 2 ≤ 1048576) (hg : GV w) (hvs : (spl 44 u.data.toList).map rdN = vs) (hr : votesB zs vs = r) :
    Calls Tryz.prog 90 #[.agg #[.int .i64 n, .slice a zs.length cap], .string u] w fun e w' => RvE r vs u w w' e ∧ Below w.heap.size w w' := by
  have hVR := votes_read hV hvs
  rw [hr] at hVR
  have HVR := hide hVR
  have hz := valid_len hV
  obtain ⟨o, ho⟩ : ∃ o, prL (spl 44 u.data.toList) = o := ⟨_, rfl⟩
  rw [ho] at HVR
  have HO := hide ho
  have bw := Box.new w n a zs.length cap 37
  have B1 := bel1 w (.cells #[.int .i64 n, .slice a zs.length cap] 37)
  have i1 := hi.below B1
  obtain ⟨_, p0, p1⟩ := bw.pair
  clear hi hV hvs hr hVR ho
  go_enter Tryz.func90, Tryz.ntmps90
  go_wp2_with fail
  refine (parseNumbers_any u o _ (by omega) (hg.below B1) HO.out).mono ?_
  rintro e w2 ⟨hE, hb2⟩
  have B2 := bnext B1 hb2
  rcases hE with ⟨ys, av, cv, rfl, rfl, OV, hyl⟩ | ⟨rfl, rfl⟩
  · have i2 := i1.below hb2
    have bw2 := bw.below hb2
    obtain ⟨_, q0, q1⟩ := bw2.pair
    have j2 := OV.ints
    obtain ⟨q, hq⟩ : ∃ q, vvB n zs ys = q := ⟨_, rfl⟩
    have HQ := hide hq
    have HOV := hide OV
    clear hq OV p0 p1 bw
    cases q with
    | true =>
      obtain ⟨e1, e2⟩ := HVR.out.2.1 ys rfl HQ.out
      subst e1 e2
      have hyl2 : ys.length ≤ 1048576 := by omega
      go_wp2_with fail
      refine (votesI_was _ _ _ _ _ _ _ _ true i2 j2 (by omega) hyl2 HQ.out).mono ?_
      rintro e w3 ⟨rfl, hb3⟩
      have HO3 := hide ((HOV.out.below hb3).le B1.size)
      go_wp2
      go_ret2
      exact ⟨.inl ⟨rfl, av, cv, rfl, HO3.out⟩, bnext B2 hb3⟩
    | false =>
      have e2 := HVR.out.2.2 ys rfl HQ.out
      subst e2
      have hyl2 : ys.length ≤ 1048576 := by omega
      go_wp2_with fail
      refine (votesI_was _ _ _ _ _ _ _ _ false i2 j2 (by omega) hyl2 HQ.out).mono ?_
      rintro e w3 ⟨rfl, hb3⟩
      go_wp2
      go_ret2
      exact ⟨.inr ⟨rfl, rfl⟩, bnext B2 hb3⟩
  · have e2 := HVR.out.1 rfl
    subst e2
    go_wp2
    go_ret2
    exact ⟨.inr ⟨rfl, rfl⟩, B2⟩
/-- what is answered about a text, or a wrongText -/
def AbE (o : Option ByteArray) (e : Ending) : Prop := (∃ S, o = some S ∧ e = .returned (.tuple #[.string S, .nilIface])) ∨ (o = none ∧ ∃ t, e = .returned (.tuple #[.string ⟨#[]⟩, .iface 64 (.agg #[.string t])]))
set_option maxHeartbeats 2000000 in
set_option maxRecDepth 100000 in
theorem aboutCrit_any (t : ByteArray) (w : World) (ht : t.size ≤ 1048576) (hg : GV w) :
    Calls Tryz.prog 52 #[.func (.func 72) #[] #[], .string t] w fun e w' => AbE ((parS t.data.toList).map fun p => (askS wCrit p.1 p.2).getD wrongB) e ∧ Below w.heap.size w w' := by
  obtain ⟨o, ho⟩ : ∃ o, parS t.data.toList = o := ⟨_, rfl⟩
  have HVL : Hid (∀ n zs, o = some (n, zs) → Valid n zs) := fun n zs e => par_valid (ho.trans e)
  have HO := hide ho
  obtain ⟨O, hO⟩ : ∃ O, ((parS t.data.toList).map fun p => (askS wCrit p.1 p.2).getD wrongB) = O := ⟨_, rfl⟩
  rw [hO]
  rw [ho] at hO
  have HOO := hide hO
  clear ho hO
  go_enter Tryz.func52, Tryz.ntmps52
  go_wp2_with fail
  refine (readSpace_any t o _ ht hg HO.out).mono ?_
  rintro e w1 ⟨hE, B1⟩
  rcases hE with ⟨n, zs, a, cap, rfl, rfl, OW⟩ | ⟨rfl, rfl⟩
  · have hV := HVL.out n zs rfl
    have hc := OW.cap_le
    have bw := Box.new w1 n a zs.length cap 37
    have hx := bel1 w1 (.cells #[.int .i64 n, .slice a zs.length cap] 37)
    have i1 := (OW.below hx).ints
    have B2 := bnext B1 hx
    obtain ⟨_, p0, p1⟩ := bw.pair
    obtain ⟨S, hS⟩ : ∃ S, (askS wCrit n zs).getD wrongB = S := ⟨_, rfl⟩
    have HA : Hid (O = some S) := by rw [← hS]; exact HOO.out.symm
    have HS := hide hS
    have HV := hide hV
    clear hV hS OW hx HOO HVL
    go_wp2_with fail
    refine (askCrit_any n S _ _ _ _ i1 hc HV.out HS.out).mono ?_
    rintro e w3 ⟨rfl, hb3⟩
    go_wp2
    go_ret2
    exact ⟨.inl ⟨S, HA.out, rfl⟩, bnext B2 hb3⟩
  · have HA : Hid (O = none) := HOO.out.symm
    go_wp2
    go_ret2
    exact ⟨.inr ⟨HA.out, t, rfl⟩, bnext B1 (bel1 _ _)⟩
set_option maxHeartbeats 2000000 in
set_option maxRecDepth 100000 in
theorem aboutMedn_any (t : ByteArray) (w : World) (ht : t.size ≤ 1048576) (hg : GV w) :
    Calls Tryz.prog 52 #[.func (.func 75) #[] #[], .string t] w fun e w' => AbE ((parS t.data.toList).map fun p => (askS wMedn p.1 p.2).getD wrongB) e ∧ Below w.heap.size w w' := by
  obtain ⟨o, ho⟩ : ∃ o, parS t.data.toList = o := ⟨_, rfl⟩
  have HVL : Hid (∀ n zs, o = some (n, zs) → Valid n zs) := fun n zs e => par_valid (ho.trans e)
  have HO := hide ho
  obtain ⟨O, hO⟩ : ∃ O, ((parS t.data.toList).map fun p => (askS wMedn p.1 p.2).getD wrongB) = O := ⟨_, rfl⟩
  rw [hO]
  rw [ho] at hO
  have HOO := hide hO
  clear ho hO
  go_enter Tryz.func52, Tryz.ntmps52
  go_wp2_with fail
  refine (readSpace_any t o _ ht hg HO.out).mono ?_
  rintro e w1 ⟨hE, B1⟩
  rcases hE with ⟨n, zs, a, cap, rfl, rfl, OW⟩ | ⟨rfl, rfl⟩
  · have hV := HVL.out n zs rfl
    have hc := OW.cap_le
    have bw := Box.new w1 n a zs.length cap 37
    have hx := bel1 w1 (.cells #[.int .i64 n, .slice a zs.length cap] 37)
    have i1 := (OW.below hx).ints
    have B2 := bnext B1 hx
    obtain ⟨_, p0, p1⟩ := bw.pair
    obtain ⟨S, hS⟩ : ∃ S, (askS wMedn n zs).getD wrongB = S := ⟨_, rfl⟩
    have HA : Hid (O = some S) := by rw [← hS]; exact HOO.out.symm
    have HS := hide hS
    have HV := hide hV
    clear hV hS OW hx HOO HVL
    go_wp2_with fail
    refine (askMedn_any n S _ _ _ _ i1 hc HV.out HS.out).mono ?_
    rintro e w3 ⟨rfl, hb3⟩
    go_wp2
    go_ret2
    exact ⟨.inl ⟨S, HA.out, rfl⟩, bnext B2 hb3⟩
  · have HA : Hid (O = none) := HOO.out.symm
    go_wp2
    go_ret2
    exact ⟨.inr ⟨HA.out, t, rfl⟩, bnext B1 (bel1 _ _)⟩
set_option maxHeartbeats 2000000 in
set_option maxRecDepth 100000 in
theorem aboutBlck_any (t : ByteArray) (w : World) (ht : t.size ≤ 1048576) (hg : GV w) :
    Calls Tryz.prog 52 #[.func (.func 78) #[] #[], .string t] w fun e w' => AbE ((parS t.data.toList).map fun p => (askS wBlck p.1 p.2).getD wrongB) e ∧ Below w.heap.size w w' := by
  obtain ⟨o, ho⟩ : ∃ o, parS t.data.toList = o := ⟨_, rfl⟩
  have HVL : Hid (∀ n zs, o = some (n, zs) → Valid n zs) := fun n zs e => par_valid (ho.trans e)
  have HO := hide ho
  obtain ⟨O, hO⟩ : ∃ O, ((parS t.data.toList).map fun p => (askS wBlck p.1 p.2).getD wrongB) = O := ⟨_, rfl⟩
  rw [hO]
  rw [ho] at hO
  have HOO := hide hO
  clear ho hO
  go_enter Tryz.func52, Tryz.ntmps52
  go_wp2_with fail
  refine (readSpace_any t o _ ht hg HO.out).mono ?_
  rintro e w1 ⟨hE, B1⟩
  rcases hE with ⟨n, zs, a, cap, rfl, rfl, OW⟩ | ⟨rfl, rfl⟩
  · have hV := HVL.out n zs rfl
    have hc := OW.cap_le
    have bw := Box.new w1 n a zs.length cap 37
    have hx := bel1 w1 (.cells #[.int .i64 n, .slice a zs.length cap] 37)
    have i1 := (OW.below hx).ints
    have B2 := bnext B1 hx
    obtain ⟨_, p0, p1⟩ := bw.pair
    obtain ⟨S, hS⟩ : ∃ S, (askS wBlck n zs).getD wrongB = S := ⟨_, rfl⟩
    have HA : Hid (O = some S) := by rw [← hS]; exact HOO.out.symm
    have HS := hide hS
    have HV := hide hV
    clear hV hS OW hx HOO HVL
    go_wp2_with fail
    refine (askBlck_any n S _ _ _ _ i1 hc HV.out HS.out).mono ?_
    rintro e w3 ⟨rfl, hb3⟩
    go_wp2
    go_ret2
    exact ⟨.inl ⟨S, HA.out, rfl⟩, bnext B2 hb3⟩
  · have HA : Hid (O = none) := HOO.out.symm
    go_wp2
    go_ret2
    exact ⟨.inr ⟨HA.out, t, rfl⟩, bnext B1 (bel1 _ _)⟩
set_option maxHeartbeats 2000000 in
set_option maxRecDepth 100000 in
theorem aboutMajr_any (t u : ByteArray) (w : World) (ht : t.size ≤ 1048576) (hu : u.size + 2 ≤ 1048576) (hg : GV w) :
    Calls Tryz.prog 54 #[.func (.func 81) #[] #[], .string t, .string u] w fun e w' => AbE ((parS t.data.toList).bind fun p => if votesB p.2 ((spl 44 u.data.toList).map rdN) = true then some ((askV wMajr p.1 p.2 ((spl 44 u.data.toList).map rdN)).getD wrongB) else none) e ∧ Below w.heap.size w w' := by
  obtain ⟨o, ho⟩ : ∃ o, parS t.data.toList = o := ⟨_, rfl⟩
  obtain ⟨vs, hvs⟩ : ∃ vs, (spl 44 u.data.toList).map rdN = vs := ⟨_, rfl⟩
  have HVL : Hid (∀ n zs, o = some (n, zs) → Valid n zs) := fun n zs e => par_valid (ho.trans e)
  have HO := hide ho
  obtain ⟨O, hO⟩ : ∃ O, ((parS t.data.toList).bind fun p => if votesB p.2 ((spl 44 u.data.toList).map rdN) = true then some ((askV wMajr p.1 p.2 ((spl 44 u.data.toList).map rdN)).getD wrongB) else none) = O := ⟨_, rfl⟩
  rw [hO]
  rw [ho, hvs] at hO
  have HOO := hide hO
  have HVS := hide hvs
  clear ho hO hvs
  go_enter Tryz.func54, Tryz.ntmps54
  go_wp2_with fail
  refine (readSpace_any t o _ ht hg HO.out).mono ?_
  rintro e w1 ⟨hE, B1⟩
  rcases hE with ⟨n, zs, a, cap, rfl, rfl, OW⟩ | ⟨rfl, rfl⟩
  · have hV := HVL.out n zs rfl
    have hz := valid_len hV
    have bw := Box.new w1 n a zs.length cap 37
    have hx := bel1 w1 (.cells #[.int .i64 n, .slice a zs.length cap] 37)
    have i1 := (OW.below hx).ints
    have B2 := bnext B1 hx
    obtain ⟨_, p0, p1⟩ := bw.pair
    have HV := hide hV
    obtain ⟨r, hr⟩ : ∃ r, votesB zs vs = r := ⟨_, rfl⟩
    have HR := hide hr
    clear hV hr OW hx HVL
    go_wp2_with fail
    refine (readVotes_any n _ _ _ vs u r _ i1 HV.out hu (hg.below B2) HVS.out HR.out).mono ?_
    rintro e w3 ⟨hE, hb3⟩
    have B3 := bnext B2 hb3
    have bw3 := bw.below hb3
    obtain ⟨_, q0, q1⟩ := bw3.pair
    rcases hE with ⟨rfl, av, cv, rfl, OV⟩ | ⟨rfl, rfl⟩
    · obtain ⟨S, hS⟩ : ∃ S, (askV wMajr n zs vs).getD wrongB = S := ⟨_, rfl⟩
      have HA : Hid (O = some S) := by
        rw [← hS]
        have := HOO.out
        simp only [Option.bind_some, HR.out, if_true] at this
        exact this.symm
      have hvl := (votes_small5 HR.out)
      have HS := hide hS
      have i3 := i1.below hb3
      have j3 := OV.ints
      clear hS OV hb3 p0 p1 HOO
      go_wp2_with fail
      refine (askMajr_any n S _ _ _ _ _ _ _ i3 j3 HV.out (by omega) HR.out HS.out).mono ?_
      rintro e w4 ⟨rfl, hb4⟩
      go_wp2
      go_ret2
      exact ⟨.inl ⟨S, HA.out, rfl⟩, bnext B3 hb4⟩
    · have HA : Hid (O = none) := by
        have := HOO.out
        simp only [Option.bind_some, HR.out] at this
        exact this.symm
      clear HOO
      go_wp2
      go_ret2
      exact ⟨.inr ⟨HA.out, u, rfl⟩, B3⟩
  · have HA : Hid (O = none) := HOO.out.symm
    go_wp2
    go_ret2
    exact ⟨.inr ⟨HA.out, t, rfl⟩, bnext B1 (bel1 _ _)⟩
set_option maxHeartbeats 2000000 in
set_option maxRecDepth 100000 in
theorem aboutMdns_any (t u : ByteArray) (w : World) (ht : t.size ≤ 1048576) (hu : u.size + 2 ≤ 1048576) (hg : GV w) :
    Calls Tryz.prog 54 #[.func (.func 83) #[] #[], .string t, .string u] w fun e w' => AbE ((parS t.data.toList).bind fun p => if votesB p.2 ((spl 44 u.data.toList).map rdN) = true then some ((askV wMdns p.1 p.2 ((spl 44 u.data.toList).map rdN)).getD wrongB) else none) e ∧ Below w.heap.size w w' := by
  obtain ⟨o, ho⟩ : ∃ o, parS t.data.toList = o := ⟨_, rfl⟩
  obtain ⟨vs, hvs⟩ : ∃ vs, (spl 44 u.data.toList).map rdN = vs := ⟨_, rfl⟩
  have HVL : Hid (∀ n zs, o = some (n, zs) → Valid n zs) := fun n zs e => par_valid (ho.trans e)
  have HO := hide ho
  obtain ⟨O, hO⟩ : ∃ O, ((parS t.data.toList).bind fun p => if votesB p.2 ((spl 44 u.data.toList).map rdN) = true then some ((askV wMdns p.1 p.2 ((spl 44 u.data.toList).map rdN)).getD wrongB) else none) = O := ⟨_, rfl⟩
  rw [hO]
  rw [ho, hvs] at hO
  have HOO := hide hO
  have HVS := hide hvs
  clear ho hO hvs
  go_enter Tryz.func54, Tryz.ntmps54
  go_wp2_with fail
  refine (readSpace_any t o _ ht hg HO.out).mono ?_
  rintro e w1 ⟨hE, B1⟩
  rcases hE with ⟨n, zs, a, cap, rfl, rfl, OW⟩ | ⟨rfl, rfl⟩
  · have hV := HVL.out n zs rfl
    have hz := valid_len hV
    have bw := Box.new w1 n a zs.length cap 37
    have hx := bel1 w1 (.cells #[.int .i64 n, .slice a zs.length cap] 37)
    have i1 := (OW.below hx).ints
    have B2 := bnext B1 hx
    obtain ⟨_, p0, p1⟩ := bw.pair
    have HV := hide hV
    obtain ⟨r, hr⟩ : ∃ r, votesB zs vs = r := ⟨_, rfl⟩
    have HR := hide hr
    clear hV hr OW hx HVL
    go_wp2_with fail
    refine (readVotes_any n _ _ _ vs u r _ i1 HV.out hu (hg.below B2) HVS.out HR.out).mono ?_
    rintro e w3 ⟨hE, hb3⟩
    have B3 := bnext B2 hb3
    have bw3 := bw.below hb3
    obtain ⟨_, q0, q1⟩ := bw3.pair
    rcases hE with ⟨rfl, av, cv, rfl, OV⟩ | ⟨rfl, rfl⟩
    · obtain ⟨S, hS⟩ : ∃ S, (askV wMdns n zs vs).getD wrongB = S := ⟨_, rfl⟩
      have HA : Hid (O = some S) := by
        rw [← hS]
        have := HOO.out
        simp only [Option.bind_some, HR.out, if_true] at this
        exact this.symm
      have hvl := (votes_small5 HR.out)
      have HS := hide hS
      have i3 := i1.below hb3
      have j3 := OV.ints
      clear hS OV hb3 p0 p1 HOO
      go_wp2_with fail
      refine (askMdns_any n S _ _ _ _ _ _ _ i3 j3 HV.out (by omega) HR.out HS.out).mono ?_
      rintro e w4 ⟨rfl, hb4⟩
      go_wp2
      go_ret2
      exact ⟨.inl ⟨S, HA.out, rfl⟩, bnext B3 hb4⟩
    · have HA : Hid (O = none) := by
        have := HOO.out
        simp only [Option.bind_some, HR.out] at this
        exact this.symm
      clear HOO
      go_wp2
      go_ret2
      exact ⟨.inr ⟨HA.out, u, rfl⟩, B3⟩
  · have HA : Hid (O = none) := HOO.out.symm
    go_wp2
    go_ret2
    exact ⟨.inr ⟨HA.out, t, rfl⟩, bnext B1 (bel1 _ _)⟩
set_option maxHeartbeats 2000000 in
set_option maxRecDepth 100000 in
theorem aboutSlat_any (t u : ByteArray) (w : World) (ht : t.size ≤ 1048576) (hu : u.size + 2 ≤ 1048576) (hg : GV w) :
    Calls Tryz.prog 54 #[.func (.func 86) #[] #[], .string t, .string u] w fun e w' => AbE ((parS t.data.toList).bind fun p => if votesB p.2 ((spl 44 u.data.toList).map rdN) = true then some ((askV wSlat p.1 p.2 ((spl 44 u.data.toList).map rdN)).getD wrongB) else none) e ∧ Below w.heap.size w w' := by
  obtain ⟨o, ho⟩ : ∃ o, parS t.data.toList = o := ⟨_, rfl⟩
  obtain ⟨vs, hvs⟩ : ∃ vs, (spl 44 u.data.toList).map rdN = vs := ⟨_, rfl⟩
  have HVL : Hid (∀ n zs, o = some (n, zs) → Valid n zs) := fun n zs e => par_valid (ho.trans e)
  have HO := hide ho
  obtain ⟨O, hO⟩ : ∃ O, ((parS t.data.toList).bind fun p => if votesB p.2 ((spl 44 u.data.toList).map rdN) = true then some ((askV wSlat p.1 p.2 ((spl 44 u.data.toList).map rdN)).getD wrongB) else none) = O := ⟨_, rfl⟩
  rw [hO]
  rw [ho, hvs] at hO
  have HOO := hide hO
  have HVS := hide hvs
  clear ho hO hvs
  go_enter Tryz.func54, Tryz.ntmps54
  go_wp2_with fail
  refine (readSpace_any t o _ ht hg HO.out).mono ?_
  rintro e w1 ⟨hE, B1⟩
  rcases hE with ⟨n, zs, a, cap, rfl, rfl, OW⟩ | ⟨rfl, rfl⟩
  · have hV := HVL.out n zs rfl
    have hz := valid_len hV
    have bw := Box.new w1 n a zs.length cap 37
    have hx := bel1 w1 (.cells #[.int .i64 n, .slice a zs.length cap] 37)
    have i1 := (OW.below hx).ints
    have B2 := bnext B1 hx
    obtain ⟨_, p0, p1⟩ := bw.pair
    have HV := hide hV
    obtain ⟨r, hr⟩ : ∃ r, votesB zs vs = r := ⟨_, rfl⟩
    have HR := hide hr
    clear hV hr OW hx HVL
    go_wp2_with fail
    refine (readVotes_any n _ _ _ vs u r _ i1 HV.out hu (hg.below B2) HVS.out HR.out).mono ?_
    rintro e w3 ⟨hE, hb3⟩
    have B3 := bnext B2 hb3
    have bw3 := bw.below hb3
    obtain ⟨_, q0, q1⟩ := bw3.pair
    rcases hE with ⟨rfl, av, cv, rfl, OV⟩ | ⟨rfl, rfl⟩
    · obtain ⟨S, hS⟩ : ∃ S, (askV wSlat n zs vs).getD wrongB = S := ⟨_, rfl⟩
      have HA : Hid (O = some S) := by
        rw [← hS]
        have := HOO.out
        simp only [Option.bind_some, HR.out, if_true] at this
        exact this.symm
      have hvl := (votes_small5 HR.out)
      have HS := hide hS
      have i3 := i1.below hb3
      have j3 := OV.ints
      clear hS OV hb3 p0 p1 HOO
      go_wp2_with fail
      refine (askSlat_any n S _ _ _ _ _ _ _ i3 j3 HV.out (by omega) HR.out HS.out).mono ?_
      rintro e w4 ⟨rfl, hb4⟩
      go_wp2
      go_ret2
      exact ⟨.inl ⟨S, HA.out, rfl⟩, bnext B3 hb4⟩
    · have HA : Hid (O = none) := by
        have := HOO.out
        simp only [Option.bind_some, HR.out] at this
        exact this.symm
      clear HOO
      go_wp2
      go_ret2
      exact ⟨.inr ⟨HA.out, u, rfl⟩, B3⟩
  · have HA : Hid (O = none) := HOO.out.symm
    go_wp2
    go_ret2
    exact ⟨.inr ⟨HA.out, t, rfl⟩, bnext B1 (bel1 _ _)⟩
set_option maxHeartbeats 2000000 in
set_option maxRecDepth 100000 in
theorem aboutRank_any (t u : ByteArray) (w : World) (ht : t.size ≤ 1048576) (hu : u.size + 2 ≤ 1048576) (hg : GV w) :
    Calls Tryz.prog 54 #[.func (.func 88) #[] #[], .string t, .string u] w fun e w' => AbE ((parS t.data.toList).bind fun p => if votesB p.2 ((spl 44 u.data.toList).map rdN) = true then some ((askV wRank p.1 p.2 ((spl 44 u.data.toList).map rdN)).getD wrongB) else none) e ∧ Below w.heap.size w w' := by
  obtain ⟨o, ho⟩ : ∃ o, parS t.data.toList = o := ⟨_, rfl⟩
  obtain ⟨vs, hvs⟩ : ∃ vs, (spl 44 u.data.toList).map rdN = vs := ⟨_, rfl⟩
  have HVL : Hid (∀ n zs, o = some (n, zs) → Valid n zs) := fun n zs e => par_valid (ho.trans e)
  have HO := hide ho
  obtain ⟨O, hO⟩ : ∃ O, ((parS t.data.toList).bind fun p => if votesB p.2 ((spl 44 u.data.toList).map rdN) = true then some ((askV wRank p.1 p.2 ((spl 44 u.data.toList).map rdN)).getD wrongB) else none) = O := ⟨_, rfl⟩
  rw [hO]
  rw [ho, hvs] at hO
  have HOO := hide hO
  have HVS := hide hvs
  clear ho hO hvs
  go_enter Tryz.func54, Tryz.ntmps54
  go_wp2_with fail
  refine (readSpace_any t o _ ht hg HO.out).mono ?_
  rintro e w1 ⟨hE, B1⟩
  rcases hE with ⟨n, zs, a, cap, rfl, rfl, OW⟩ | ⟨rfl, rfl⟩
  · have hV := HVL.out n zs rfl
    have hz := valid_len hV
    have bw := Box.new w1 n a zs.length cap 37
    have hx := bel1 w1 (.cells #[.int .i64 n, .slice a zs.length cap] 37)
    have i1 := (OW.below hx).ints
    have B2 := bnext B1 hx
    obtain ⟨_, p0, p1⟩ := bw.pair
    have HV := hide hV
    obtain ⟨r, hr⟩ : ∃ r, votesB zs vs = r := ⟨_, rfl⟩
    have HR := hide hr
    clear hV hr OW hx HVL
    go_wp2_with fail
    refine (readVotes_any n _ _ _ vs u r _ i1 HV.out hu (hg.below B2) HVS.out HR.out).mono ?_
    rintro e w3 ⟨hE, hb3⟩
    have B3 := bnext B2 hb3
    have bw3 := bw.below hb3
    obtain ⟨_, q0, q1⟩ := bw3.pair
    rcases hE with ⟨rfl, av, cv, rfl, OV⟩ | ⟨rfl, rfl⟩
    · obtain ⟨S, hS⟩ : ∃ S, (askV wRank n zs vs).getD wrongB = S := ⟨_, rfl⟩
      have HA : Hid (O = some S) := by
        rw [← hS]
        have := HOO.out
        simp only [Option.bind_some, HR.out, if_true] at this
        exact this.symm
      have hvl := (votes_small5 HR.out)
      have HS := hide hS
      have i3 := i1.below hb3
      have j3 := OV.ints
      clear hS OV hb3 p0 p1 HOO
      go_wp2_with fail
      refine (askRank_any n S _ _ _ _ _ _ _ i3 j3 HV.out (by omega) HR.out HS.out).mono ?_
      rintro e w4 ⟨rfl, hb4⟩
      go_wp2
      go_ret2
      exact ⟨.inl ⟨S, HA.out, rfl⟩, bnext B3 hb4⟩
    · have HA : Hid (O = none) := by
        have := HOO.out
        simp only [Option.bind_some, HR.out] at this
        exact this.symm
      clear HOO
      go_wp2
      go_ret2
      exact ⟨.inr ⟨HA.out, u, rfl⟩, B3⟩
  · have HA : Hid (O = none) := HOO.out.symm
    go_wp2
    go_ret2
    exact ⟨.inr ⟨HA.out, t, rfl⟩, bnext B1 (bel1 _ _)⟩
end Go.Proofs.YtgebplpbnaeckaaGreatDoor
