/- RankedRule of the program and of the model. -/
import Derived.Test.YtccemllgglfgkaaRankM
import Derived.Test.YtccemllgglfgkaaTurnI
import Derived.Test.YtccemllgglfgkaaTurnS
import Derived.Deep.RegionHeld3
namespace Go.Proofs.Ytccemllgglfgkaa
open Go.RowKit Go.Joins

set_option maxHeartbeats 4000000 in
theorem implRankedRule_any (n : Int) (a l : Option Addr) (cap capl : Nat) (zs vs : List Int) (w : World) (hi : Ints w a zs) (hj : Ints w l vs) (hn : zs.length ≤ 1048576) (hm : vs.length ≤ 1048576) :
    Calls Try.prog 44 #[.agg #[.int .i64 n, .slice a zs.length cap], .slice l vs.length capl] w fun e w' => e = .returned (.int .i64 (rankV n zs vs)) ∧ Below w.heap.size w w' := by
  have S0 := SV.new w n a zs cap l vs 28 hi hj
  clear hi hj
  by_cases hv : vvB n zs vs = false
  · have HN := hide (rankV_no hv)
    have HV := hide hv
    clear hv
    obtain ⟨⟨_, c0, c1⟩, _⟩ := S0.pair
    go_enter Try.func44, Try.ntmps44
    go_wp2_with fail
    refine (votes_was _ _ _ _ _ _ _ _ false S0.2.1 S0.2.2.1 hn hm HV.out).mono ?_
    rintro e w1 ⟨rfl, hb⟩
    go_wp2
    go_ret
    exact ⟨ret_int HN.out.symm, (S0.below hb).2.2.2⟩
  · have hv : vvB n zs vs = true := by simpa using hv
    have hV := vv_of hv
    obtain ⟨m, rfl⟩ := Int.eq_ofNat_of_zero_le (show 0 ≤ n from by have := hV.1.1; omega)
    have h4 : m ≤ 4 := by have := hV.1.1; omega
    have h1 : 1 ≤ m := by have := hV.1.1; omega
    have hv5 : 0 ≤ (vs.length : Int) ∧ (vs.length : Int) ≤ 5 := by have := hV.2.2; omega
    have HV := hide hv
    have HSA : Hid (supA (m : Int) zs vs = supL m vs) := (supA_yes hv).trans (by rw [Int.toNat_natCast])
    have HSL := hide (supL_le (m := m) (vs := vs))
    have HN : Hid (rankV (m : Int) zs vs = turnV (m : Int) zs vs (clearL vs.length (supL m vs))) := by unfold Hid rankV; rw [Int.toNat_natCast]
    have hql := clearL_len vs.length (supL m vs)
    have hsl := supL_length m vs
    clear hv hV
    obtain ⟨ss, hss⟩ : ∃ ss, supL m vs = ss := ⟨_, rfl⟩
    rw [hss] at HSA HSL HN hql hsl
    obtain ⟨q, hqe⟩ : ∃ q, clearL vs.length ss = q := ⟨_, rfl⟩
    rw [hqe] at HN hql
    have HQ := hide hqe
    have hs1 : 0 < ss.length := by omega
    have hs4 : ss.length ≤ 4 := by omega
    have hq : q.length ≤ 1048576 := by omega
    clear hss hqe hql hsl
    obtain ⟨⟨_, c0, c1⟩, _⟩ := S0.pair
    go_enter Try.func44, Try.ntmps44
    go_wp2_with fail
    refine (votes_was _ _ _ _ _ _ _ _ true S0.2.1 S0.2.2.1 hn hm HV.out).mono ?_
    rintro e w1 ⟨rfl, hb⟩
    have S1 := S0.below hb
    clear S0 hb c0 c1
    obtain ⟨⟨_, c0, c1⟩, _⟩ := S1.pair
    go_wp2
    refine wp_region_held_drew (S := (fun w' => w'.cell? ⟨w.heap.size, 0, none⟩ = some (.int .i64 (m : Int)) ∧ w'.cell? ⟨w.heap.size, 1, none⟩ = some (.slice a zs.length cap))) (by kernel_rfl) ?_ (fun hHeld => ?_)
    · exact ⟨c0, c1⟩
    refine wpAnyH_take (i := 0) (v := ?vvt1) rfl (by kernel_rfl) (by kernel_rfl) (by kernel_rfl) (fun _ _ _ h => h) (Or.inl ⟨by rfl, ?hyt1⟩) (by assumption) ?restt1
    case hyt1 => (intro w hSw; (try dsimp only at hSw); go_simp; (try with_reducible rfl))
    case restt1 =>
      (try simp only [Act.put, List.setIfInBounds_toArray, List.set_cons_zero, List.set_cons_succ, List.getElem_toArray, List.getElem_cons_zero])
      refine wpAnyH_take (i := 1) (v := ?vvt2) rfl (by kernel_rfl) (by kernel_rfl) (by kernel_rfl) (fun _ _ _ h => h) (Or.inl ⟨by rfl, ?hyt2⟩) (by assumption) ?restt2
      case hyt2 => (intro w hSw; (try dsimp only at hSw); go_simp; (try with_reducible rfl))
      case restt2 =>
        (try simp only [Act.put, List.setIfInBounds_toArray, List.set_cons_zero, List.set_cons_succ, List.getElem_toArray, List.getElem_cons_zero, List.getElem_cons_succ])
        refine wpAnyH_take (i := 2) (v := ?vvt3) rfl (by kernel_rfl) (by kernel_rfl) (by kernel_rfl) (fun _ _ _ h => h) (Or.inl ⟨by rfl, ?hyt3⟩) (by assumption) ?restt3
        case hyt3 => (intro w hSw; (try dsimp only at hSw); go_simp; (try with_reducible rfl))
        case restt3 =>
          (try simp only [Act.put, List.setIfInBounds_toArray, List.set_cons_zero, List.set_cons_succ, List.getElem_toArray, List.getElem_cons_zero, List.getElem_cons_succ])
          refine wpAnyH_take (i := 3) (v := ?vvt4) rfl (by kernel_rfl) (by kernel_rfl) (by kernel_rfl) (fun _ _ _ h => h) (Or.inl ⟨by rfl, ?hyt4⟩) (by assumption) ?restt4
          case hyt4 => (intro w hSw; (try dsimp only at hSw); go_simp; (try with_reducible rfl))
          case restt4 =>
            (try simp only [Act.put, List.setIfInBounds_toArray, List.set_cons_zero, List.set_cons_succ, List.getElem_toArray, List.getElem_cons_zero, List.getElem_cons_succ])
            refine wpAnyH_take (i := 5) (v := ?vvt5) rfl (by kernel_rfl) (by kernel_rfl) (by kernel_rfl) (fun _ _ _ h => h) (Or.inl ⟨by rfl, ?hyt5⟩) (by assumption) ?restt5
            case hyt5 => (intro w hSw; (try dsimp only at hSw); go_simp; (try with_reducible rfl))
            case restt5 =>
              (try simp only [Act.put, List.setIfInBounds_toArray, List.set_cons_zero, List.set_cons_succ, List.getElem_toArray, List.getElem_cons_zero, List.getElem_cons_succ])
              refine wpAnyH_take (i := 6) (v := ?vvt6) rfl (by kernel_rfl) (by kernel_rfl) (by kernel_rfl) (fun _ _ _ h => h) (Or.inl ⟨by rfl, ?hyt6⟩) (by assumption) ?restt6
              case hyt6 => (intro w hSw; (try dsimp only at hSw); go_simp; (try with_reducible rfl))
              case restt6 =>
                (try simp only [Act.put, List.setIfInBounds_toArray, List.set_cons_zero, List.set_cons_succ, List.getElem_toArray, List.getElem_cons_zero, List.getElem_cons_succ])
                refine wpAnyH_ready (rs := [4]) (by kernel_rfl) (by simp) ?_
                refine (AllReadyH.cons rfl (fun K hK => ?_) AllReadyH.nil)
                go_simp
                go_at_call 85
                refine (implSupportOf_any _ _ _ _ _ _ _ _ (S1.below (bdrew' (Below.refl _ _))).2.1 (S1.below (bdrew' (Below.refl _ _))).2.2.1 hn hm).mono ?_
                rintro e w2 ⟨v2, rfl, ov, hb2⟩
                rw [HSA.out] at ov
                obtain ⟨av, cv, rfl, iv, _⟩ := ov.form
                have S2 := S1.below (bdrew hb2)
                have IV := hide iv
                clear ov iv hb2 c0 c1
                obtain ⟨⟨_, c0, c1⟩, _⟩ := S2.pair
                refine hK.out _ _ ?_ (fun hHeld => ?_)
                · exact ⟨c0, c1⟩
                clear hK K
                (try simp only [Act.put, List.setIfInBounds_toArray, List.set_cons_zero, List.set_cons_succ, List.getElem_toArray, List.getElem_cons_zero, List.getElem_cons_succ])
                refine wpAnyH_ready (rs := [7]) (by kernel_rfl) (by simp) ?_
                refine (AllReadyH.cons rfl (fun K hK => ?_) AllReadyH.nil)
                go_simp
                go_at_call 84
                refine (clearestFirst_any _ _ _ _ _ IV.out hs1 hs4 hv5 HSL.out).mono ?_
                rintro e w3 ⟨v3, rfl, oq, hb3⟩
                rw [HQ.out] at oq
                obtain ⟨aq, cq, rfl, iq, _⟩ := oq.form
                have S3 := S2.below hb3
                have IQ := hide iq
                clear oq iq hb3 c0 c1
                obtain ⟨⟨_, c0, c1⟩, _⟩ := S3.pair
                refine hK.out _ _ ?_ (fun hHeld => ?_)
                · exact ⟨c0, c1⟩
                clear hK K
                (try simp only [Act.put, List.setIfInBounds_toArray, List.set_cons_zero, List.set_cons_succ, List.getElem_toArray, List.getElem_cons_zero, List.getElem_cons_succ])
                refine wpAnyH_ready (rs := [8]) (by kernel_rfl) (by simp) ?_
                refine (AllReadyH.cons rfl (fun K hK => ?_) AllReadyH.nil)
                go_simp
                go_at_call 39
                refine (implTurnRule_any _ _ _ _ _ _ _ _ _ _ _ S3.2.1 S3.2.2.1 IQ.out hn hm hq).mono ?_
                rintro e w4 ⟨rfl, hb4⟩
                have S4 := S3.below hb4
                clear c0 c1
                obtain ⟨⟨_, c0, c1⟩, _⟩ := S4.pair
                refine hK.out _ _ ?_ (fun hHeld => ?_)
                · exact ⟨c0, c1⟩
                clear hK K
                (try simp only [Act.put, List.setIfInBounds_toArray, List.set_cons_zero, List.set_cons_succ, List.getElem_toArray, List.getElem_cons_zero, List.getElem_cons_succ])
                refine wpAnyH_take (i := 9) (v := ?vvt7) rfl (by kernel_rfl) (by kernel_rfl) (by kernel_rfl) (fun _ _ _ h => h) (Or.inl ⟨by rfl, ?hyt7⟩) (by assumption) ?restt7
                case hyt7 => (intro w hSw; (try dsimp only at hSw); go_simp; (try with_reducible rfl))
                case restt7 =>
                  (try simp only [Act.put, List.setIfInBounds_toArray, List.set_cons_zero, List.set_cons_succ, List.getElem_toArray, List.getElem_cons_zero, List.getElem_cons_succ])
                  refine wpAnyH_done (by kernel_rfl) ?_ _
                  go_wp2
                  go_ret
                  exact ⟨ret_int HN.out.symm, S4.2.2.2⟩

theorem rowF_yes {f : Int → Int} {d : Int} {k : Nat} (h : f (k : Int) = d) : rowF f d (k + 1) = rowF f d k ++ [(k : Int)] := by rw [rowF, if_pos h]
theorem rowF_no {f : Int → Int} {d : Int} {k : Nat} (h : ¬ f (k : Int) = d) : rowF f d (k + 1) = rowF f d k := by rw [rowF, if_neg h]
theorem lead_sup {m : Nat} {vs : List Int} {j : Nat} (h : j < m) : leadV vs.length (supL m vs) (j : Int) = max (2 * (supN vs j : Int) - vs.length) (vs.length - 2 * (supN vs j : Int)) := by
  unfold leadV supL
  rw [Int.toNat_natCast, supKL_getD _ _ _ _ h]
  rfl
set_option maxHeartbeats 4000000 in
set_option maxRecDepth 100000 in
theorem specRankedRule_any (n : Int) (a l : Option Addr) (cap capl : Nat) (zs vs : List Int) (w : World) (hi : Ints w a zs) (hj : Ints w l vs) (hn : zs.length ≤ 1048576) (hm : vs.length ≤ 1048576) :
    Calls Try.prog 43 #[.agg #[.int .i64 n, .slice a zs.length cap], .slice l vs.length capl] w fun e w' => e = .returned (.int .i64 (rankV n zs vs)) ∧ Below w.heap.size w w' := by
  obtain ⟨i0, hi0, hz0, hz1, hz2⟩ := info_parts info_int
  have S0 := SV.new w n a zs cap l vs 28 hi hj
  clear hi hj
  by_cases hv : vsB n zs = false
  · have HN := hide (rankV_no (vvB_no (vs := vs) hv))
    go_enter Try.func43, Try.ntmps43
    go_wp2_with fail
    refine (validSpace_any _ _ _ _ _ S0.2.1 hn).mono ?_
    rintro e w1 ⟨rfl, hb⟩
    go_wp2
    go_ret
    exact ⟨ret_int HN.out.symm, (S0.below hb).2.2.2⟩
  · have hv : vsB n zs = true := by simpa using hv
    have hV := hide (valid_of hv)
    have HVV := hide (vvB_yes (vs := vs) hv)
    by_cases hvo : votesB zs vs = false
    · have HN := hide (rankV_no (HVV.out.trans hvo))
      go_enter Try.func43, Try.ntmps43
      go_wp2_with fail
      refine (validSpace_any _ _ _ _ _ S0.2.1 hn).mono ?_
      rintro e w1 ⟨rfl, hb⟩
      have S1 := S0.below hb
      obtain ⟨⟨_, c0, c1⟩, _⟩ := S1.pair
      go_wp2_with fail
      refine (validVotes_any _ _ _ _ _ _ _ _ S1.2.1 S1.2.2.1 hn hm).mono ?_
      rintro e w2 ⟨rfl, hb2⟩
      go_wp2
      go_ret
      exact ⟨ret_int HN.out.symm, (S1.below hb2).2.2.2⟩
    · have hvo : votesB zs vs = true := by simpa using hvo
      have hvv := HVV.out.trans hvo
      have HVO := hide (votes_of hvo)
      have HR := hide (votes_range hV.out HVO.out)
      have HZ := hide (valid_range hV.out)
      have h5 : vs.length ≤ 5 := by have := HVO.out.2; omega
      obtain ⟨m, rfl⟩ := Int.eq_ofNat_of_zero_le (show 0 ≤ n from by have := hV.out.1; omega)
      have h4 : m ≤ 4 := by have := hV.out.1; omega
      have h1 : 1 ≤ m := by have := hV.out.1; omega
      have hk := rankV_yes hvv
      rw [hk.1] at hk
      have HOK := hide hk.2.1
      have HN := hide hk.2.2
      have HLS : Hid (∀ j : Nat, j < m → leadV vs.length (supL m vs) (j : Int) = max (2 * (supN vs j : Int) - vs.length) (vs.length - 2 * (supN vs j : Int))) := fun j hj => lead_sup hj
      obtain ⟨f, hf⟩ : ∃ f, leadV vs.length (supL m vs) = f := ⟨_, rfl⟩
      rw [hf] at HOK HN HLS
      clear hvv hvo hk hf
      go_enter Try.func43, Try.ntmps43
      go_wp2_with fail
      refine (validSpace_any _ _ _ _ _ S0.2.1 hn).mono ?_
      rintro e w1 ⟨rfl, hb⟩
      have S1 := S0.below hb
      obtain ⟨⟨_, c0, c1⟩, _⟩ := S1.pair
      go_wp2_with fail
      refine (validVotes_any _ _ _ _ _ _ _ _ S1.2.1 S1.2.2.1 hn hm).mono ?_
      rintro e wo ⟨rfl, hb2⟩
      have SR := S1.below hb2
      clear S0 hb S1 hb2 c0 c1
      obtain ⟨⟨_, c0, c1⟩, _⟩ := SR.pair
      have ho0 : Owns (wo.alloc (.cells #[] 3)) wo.heap.size (.slice (some ⟨wo.heap.size, 0, none⟩) 0 0) [] := World.ownsRow_lit wo #[] 0 (Nat.le_refl _) (by simp) rfl
      have BA := bel1 wo (.cells #[] 3)
      go_wp2
      clear c0 c1
      go_loopw [5, 6] (fun v d wr => ∃ t : Nat, t ≤ vs.length + 1 ∧ d = .int .i64 ((vs.length : Int) - (t : Int)) ∧ Owns wr wo.heap.size v (rowsF f vs.length m t) ∧ Below wo.heap.size wo wr) (fun _ d _ => (intOf d + 1).toNat)
      case atStart => exact ⟨0, Nat.zero_le _, by simp, ho0, BA⟩
      case round =>
        clear ho0 BA
        obtain ⟨t, ht, rfl, hown, BR⟩ := hrel
        obtain ⟨wk, rfl⟩ : ∃ wk, wk = wr := ⟨_, rfl⟩
        obtain ⟨⟨_, c0, c1⟩, _, il, _⟩ := (SR.below BR).pair
        have hws : IntKind.i64.wrap ((vs.length : Int) - (t : Int) - 1) = (vs.length : Int) - ((t + 1 : Nat) : Int) := by rw [IntWalk.i64_in _ (by omega)]; omega
        obtain ⟨d, hd⟩ : ∃ d : Int, (vs.length : Int) - (t : Int) = d := ⟨_, rfl⟩
        rw [hd] at hws ⊢
        by_cases hlt : t ≤ vs.length
        · have hd0 : 0 ≤ d := by omega
          have HD := hide hd
          have HR1 : Hid (rowsF f vs.length m (t + 1) = rowsF f vs.length m t ++ rowF f d m) := by unfold Hid; rw [← hd]; rfl
          have hlen := rowsF_len f vs.length m t
          have hlen' : (rowsF f vs.length m t).length ≤ 24 := Nat.le_trans hlen (Nat.le_trans (Nat.mul_le_mul h4 (show t ≤ 6 by omega)) (by decide))
          obtain ⟨L0, hL0⟩ : ∃ L0, rowsF f vs.length m t = L0 := ⟨_, rfl⟩
          rw [hL0] at hown HR1 hlen'
          clear hd hlen hL0
          go_wp2
          clear c0 c1 il
          go_loopw [5, 7] (fun v i wq => ∃ j : Nat, j ≤ m ∧ i = .int .i64 j ∧ Owns wq wo.heap.size v (L0 ++ rowF f d j) ∧ Below wo.heap.size wo wq) (fun _ i _ => m - (intOf i).toNat)
          case atStart => exact ⟨0, Nat.zero_le _, rfl, by rw [rowF, List.append_nil]; exact hown, BR⟩
          case round =>
            clear hown BR
            obtain ⟨j, hj, rfl, hown, BR⟩ := hrel
            obtain ⟨wq, rfl⟩ : ∃ wq, wq = wr := ⟨_, rfl⟩
            obtain ⟨⟨_, c0, c1⟩, _, il, _⟩ := (SR.below BR).pair
            by_cases hjt : j < m
            · have hsz := BR.size
              have hsn := supN_le vs j
              have hls := HLS.out j hjt
              have hle := rowF_len f d j
              have hwa : IntKind.i64.wrap (2 * (supN vs j : Int)) = 2 * (supN vs j : Int) := IntWalk.i64_in _ (by omega)
              have hwb : IntKind.i64.wrap (2 * (supN vs j : Int) - (vs.length : Int)) = 2 * (supN vs j : Int) - (vs.length : Int) := IntWalk.i64_in _ (by omega)
              have hwc : IntKind.i64.wrap (-(2 * (supN vs j : Int) - (vs.length : Int))) = (vs.length : Int) - 2 * (supN vs j : Int) := by rw [IntWalk.i64_in _ (by omega)]; omega
              obtain ⟨F, hF⟩ : ∃ F, f (j : Int) = F := ⟨_, rfl⟩
              have hmx : max (2 * (supN vs j : Int) - (vs.length : Int)) (-(2 * (supN vs j : Int) - (vs.length : Int))) = F := by rw [← hF, hls]; omega
              obtain ⟨LL, hLL⟩ : ∃ LL, L0 ++ rowF f d j = LL := ⟨_, rfl⟩
              have hll : LL.length ≤ 28 := by rw [← hLL, List.length_append]; omega
              rw [hLL] at hown
              clear hls hwc hle
              by_cases hyes : F = d
              · have HRW : Hid (L0 ++ rowF f d (j + 1) = LL ++ [(j : Int)]) := by unfold Hid; rw [rowF_yes (hF.trans hyes), ← List.append_assoc, hLL]
                clear hF HLS hLL
                go_wp2_with (first | (go_at_call 83; refine (support_any _ _ _ _ _ il hm HR.out (by omega)).mono ?_; rintro e w' ⟨rfl, rfl⟩) | (at_builtin; refine wpList_append_own _ rfl _ _ 22 rfl wo.heap.size 3 i0 (.int .i64 0) 1 8 Try.underlying22 hi0 hz0 hz1 hz2 rfl (by decide) _ _ _ rfl (hown.alloc _) ⟨wq.heap.size, 0, none⟩ 1 1 [.int .i64 (j : Int)] rfl rfl ?c1 ?c2 ?c3 ?c4 ?c5 ?_))
                case c1 => exact cell_one_new _ _ _
                case c2 => intro u hu; simp at hu; subst hu; rfl
                case c3 => unfold maxLen; omega
                case c4 => omega
                case c5 => simp; omega
                intro v' w2 hown' hgrow _
                have hpush := hide (Owns.push hown')
                have hbel : Below wo.heap.size wo w2 := (BR.alloc hsz _).grown hgrow (by simp; omega) (fun k hk => own_ge hown k hk)
                clear hown' hgrow hown
                go_wp2
                go_roundw
                case rel => exact ⟨j + 1, by omega, by go_num, by rw [HRW.out]; exact hpush.out, hbel⟩
                case measure => simp only [intOf]; omega
              · have hno : ¬ F = d := hyes
                have HRW : Hid (L0 ++ rowF f d (j + 1) = LL) := by unfold Hid; rw [rowF_no (fun e => hno (hF.symm.trans e)), hLL]
                clear hF HLS hyes hLL
                go_wp2_with (go_at_call 83; refine (support_any _ _ _ _ _ il hm HR.out (by omega)).mono ?_; rintro e w' ⟨rfl, rfl⟩)
                go_roundw
                case rel => exact ⟨j + 1, by omega, by go_num, by rw [HRW.out]; exact hown, BR⟩
                case measure => simp only [intOf]; omega
            · obtain rfl : j = m := by omega
              go_wp2
              go_roundw
              case rel => exact ⟨t + 1, by omega, by go_num, by rw [HR1.out]; exact hown, BR⟩
              case measure => simp only [intOf]; have := HD.out; omega
        · obtain rfl : t = vs.length + 1 := by omega
          have hd1 : ¬ (0 ≤ d) := by omega
          have hlen := rowsF_len f vs.length m (vs.length + 1)
          obtain ⟨L, hL⟩ : ∃ L, rowsF f vs.length m (vs.length + 1) = L := ⟨_, rfl⟩
          rw [hL] at hown HOK HN
          obtain ⟨av, cv, rfl, iv, _⟩ := hown.form
          have IV := hide iv
          clear hown iv hL hlen hd hws
          go_wp2_with fail
          refine (inTurn_any _ _ _ _ _ _ _ _ _ _ _ (SR.below BR).2.1 (SR.below BR).2.2.1 IV.out hn h5 h1 h4 HZ.out HR.out HOK.out).mono ?_
          rintro e w9 ⟨rfl, hb9⟩
          go_wp2
          go_ret
          exact ⟨ret_int HN.out.symm, ((SR.below BR).below hb9).2.2.2⟩
end Go.Proofs.Ytccemllgglfgkaa
