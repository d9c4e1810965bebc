/- SlaterRule of the model. -/
import Derived.Test.YtcophcjkhdipbaaGiv
import Derived.Test.YtcophcjkhdipbaaSpare
import Derived.Test.YtcophcjkhdipbaaMedR
import Derived.Deep.RegionHeld3
import Derived.Outline
namespace Go.Proofs.Ytcophcjkhdipbaa
open Go.RowKit Go.Joins

set_option maxHeartbeats 2000000 in
theorem specSlaterRule_any (n : Int) (a l : Option Addr) (cap capl : Nat) (zs vs : List Int) (w : World) (hi : Ints w a zs) (hj : Ints w l vs) (hn : zs.length ≤ 1048576) (hm : vs.length ≤ 1048576) :
    Calls Try.prog 25 #[.agg #[.int .i64 n, .slice a zs.length cap], .slice l vs.length capl] w (Gives (bestM n zs vs) w) := by
  obtain ⟨i0, hi0, hz0, hz1, hz2⟩ := info_parts info_int
  have S0 := SV.new w n a zs cap l vs 27 hi hj
  clear hi hj
  by_cases hv : vsB n zs = false
  · have HN := hide (bestM_no (vvB_no (vs := vs) hv))
    go_enter Try.func25, Try.ntmps25
    go_wp2_with fail
    refine (validSpace_any _ _ _ _ _ S0.2.1 hn).mono ?_
    rintro e w1 ⟨rfl, hb⟩
    go_wp2
    go_ret
    exact gives_nil HN.out (S0.below hb).2.2.2
  · have hv : vsB n zs = true := by simpa using hv
    have hV := hide (valid_of hv)
    have HVV := hide (vvB_yes (vs := vs) hv)
    by_cases hvo : votesB zs vs = false
    · have HN := hide (bestM_no (HVV.out.trans hvo))
      go_enter Try.func25, Try.ntmps25
      go_wp2_with fail
      refine (validSpace_any _ _ _ _ _ S0.2.1 hn).mono ?_
      rintro e w1 ⟨rfl, hb⟩
      have S1 := S0.below hb
      obtain ⟨⟨_, c0, c1⟩, _⟩ := S1.pair
      go_wp2_with fail
      refine (validVotes_any _ _ _ _ _ _ _ _ S1.2.1 S1.2.2.1 hn hm).mono ?_
      rintro e w2 ⟨rfl, hb2⟩
      go_wp2
      go_ret
      exact gives_nil HN.out (S1.below hb2).2.2.2
    · have hvo : votesB zs vs = true := by simpa using hvo
      have HN := hide (bestM_yes (HVV.out.trans hvo))
      have HVO := hide (votes_of hvo)
      have HR := hide (votes_range hV.out HVO.out)
      have HZ := hide (valid_range hV.out)
      obtain ⟨m, rfl⟩ := Int.eq_ofNat_of_zero_le (show 0 ≤ n from by have := hV.out.1; omega)
      have h4 : m ≤ 4 := by have := hV.out.1; omega
      have H16 := hide (want_16 vs m h4)
      have hpos := hV.out.2.1
      have h5 : vs.length ≤ 5 := by have := HVO.out.2; omega
      go_enter Try.func25, Try.ntmps25
      go_wp2_with fail
      refine (validSpace_any _ _ _ _ _ S0.2.1 hn).mono ?_
      rintro e w1 ⟨rfl, hb⟩
      have S1 := S0.below hb
      obtain ⟨⟨_, c0, c1⟩, _⟩ := S1.pair
      go_wp2_with fail
      refine (validVotes_any _ _ _ _ _ _ _ _ S1.2.1 S1.2.2.1 hn hm).mono ?_
      rintro e w2 ⟨rfl, hb2⟩
      have SR := S1.below hb2
      clear S0 hb S1 hb2 c0 c1
      obtain ⟨⟨_, c0, c1⟩, _⟩ := SR.pair
      go_wp2_with fail
      refine (wanted_any _ _ _ _ _ _ _ _ SR.2.1 SR.2.2.1 h5 h4 HR.out).mono ?_
      rintro e w3 ⟨rfl, hb3⟩
      have SP := (SR.below hb3).below (bel1 w3 (.cells #[.int .i64 (wantC vs m : Nat), .int .i64 (wantB vs m : Nat)] 40))
      have PB := PBox.new w3 (wantC vs m : Nat) (wantB vs m : Nat) 40
      obtain ⟨G, hG0⟩ : ∃ G : Nat, w3.heap.size = G := ⟨_, rfl⟩
      obtain ⟨wo, hwo⟩ : ∃ wo : World, w3.alloc (.cells #[.int .i64 (wantC vs m : Nat), .int .i64 (wantB vs m : Nat)] 40) = wo := ⟨_, rfl⟩
      rw [hwo] at SP PB
      rw [hG0] at PB
      clear SR c0 c1 hb3
      have SR := SP
      clear SP
      have ho0 : Owns (wo.alloc (.cells #[] 3)) wo.heap.size (.slice (some ⟨wo.heap.size, 0, none⟩) 0 0) [] := World.ownsRow_lit wo #[] 0 (Nat.le_refl _) (by simp) rfl
      have BA := bel1 wo (.cells #[] 3)
      go_wp2
      clear hwo hG0
      have HFM := hide (wantC_lt vs m)
      go_loopw [6, 7] (fun v i wr => ∃ k : Nat, k ≤ zs.length ∧ i = .int .i64 k ∧ Owns wr wo.heap.size v (farL (slaF m (wantC vs m) (wantB vs m)) (zs.take k)) ∧ Below wo.heap.size wo wr) (fun _ i _ => zs.length - (intOf i).toNat)
      case atStart => exact ⟨0, Nat.zero_le _, rfl, ho0, BA⟩
      case round =>
        clear ho0 BA
        obtain ⟨k, hk, rfl, hown, BR⟩ := hrel
        have SQ := SR.below BR
        have PQ := PB.below BR
        obtain ⟨⟨_, c0, c1⟩, iz, il, _⟩ := SQ.pair
        have p0 := PQ.2.1
        have p1 := PQ.2.2
        by_cases hlt : k < zs.length
        · obtain ⟨b0, off0, ea, hb0, hc0⟩ := SR.2.1 (by omega)
          obtain ⟨b, off, rfl, hbl, hc⟩ := iz (by omega)
          have ZK : Hid (∀ w' : World, Below wo.heap.size wo w' → Hid (w'.cell? ⟨b, off + k, none⟩ = some (.int .i64 zs[k]))) := fun w' hb' => by
            simp only [Option.some.injEq, Addr.mk.injEq, and_true] at ea
            obtain ⟨rfl, rfl⟩ := ea
            have h := (hb'.cell (p := ⟨b, off + k, none⟩) hb0).trans (hc0 k hlt)
            rw [getD_lt hlt] at h
            exact h
          have hck := hc k hlt
          rw [getD_lt hlt] at hck
          have hdt := hide (farL_take (slaF m (wantC vs m) (wantB vs m)) zs k hlt)
          have hle : (farL (slaF m (wantC vs m) (wantB vs m)) (zs.take k)).length ≤ k := by rw [farL_length]; exact List.length_take_le _ _
          have rz := hide (HZ.out _ (mem_of_at hlt))
          have HOWN := hide hown
          have hls := SQ.1.1
          have hG := PQ.1
          have hg16 := givN_lt (b := wantB vs m) zs[k] H16.out.1
          have hwt : wt (givN (wantC vs m) (wantB vs m) zs[k]) ≤ m := by
            have h1 := giv_le (b := wantB vs m) zs[k] HFM.out h4
            exact h1
          have hw : IntKind.i64.wrap ((m : Int) - (wt (givN (wantC vs m) (wantB vs m) zs[k]) : Int)) = ((slaF m (wantC vs m) (wantB vs m) zs[k] : Nat) : Int) := by
            rw [IntWalk.i64_in _ (by omega)]
            unfold slaF
            omega
          clear hc iz hown hc0 ea hb0 hwt hg16
          go_wp2_with fail
          refine wp_region_held_drew (S := (fun w' => w'.cell? ⟨w.heap.size, 0, none⟩ = some (.int .i64 m) ∧ w'.cell? ⟨w.heap.size, 1, none⟩ = some (.slice (some ⟨b, off, none⟩) zs.length cap) ∧ w'.cell? ⟨b, off + k, none⟩ = some (.int .i64 zs[k]) ∧ w'.cell? ⟨G, 0, none⟩ = some (.int .i64 (wantC vs m : Nat)) ∧ w'.cell? ⟨G, 1, none⟩ = some (.int .i64 (wantB vs m : Nat)))) (by kernel_rfl) ?_ (fun hHeld => ?_)
          · exact ⟨c0, c1, hck, p0, p1⟩
          refine wpAnyH_take (i := 0) (v := ?vvt23) rfl (by kernel_rfl) (by kernel_rfl) (by kernel_rfl) (fun _ _ _ h => h) (Or.inl ⟨by rfl, ?hyt23⟩) (by assumption) ?restt23
          case hyt23 => (intro w hSw; (try dsimp only at hSw); go_simp; (try with_reducible rfl))
          case restt23 =>
            (try simp only [Act.put, List.setIfInBounds_toArray, List.set_cons_zero, List.set_cons_succ, List.getElem_toArray, List.getElem_cons_zero])
            refine wpAnyH_take (i := 1) (v := ?vvt24) rfl (by kernel_rfl) (by kernel_rfl) (by kernel_rfl) (fun _ _ _ h => h) (Or.inl ⟨by rfl, ?hyt24⟩) (by assumption) ?restt24
            case hyt24 => (intro w hSw; (try dsimp only at hSw); go_simp; (try with_reducible rfl))
            case restt24 =>
              (try simp only [Act.put, List.setIfInBounds_toArray, List.set_cons_zero, List.set_cons_succ, List.getElem_toArray, List.getElem_cons_zero, List.getElem_cons_succ])
              refine wpAnyH_take (i := 2) (v := ?vvt25) rfl (by kernel_rfl) (by kernel_rfl) (by kernel_rfl) (fun _ _ _ h => h) (Or.inl ⟨by rfl, ?hyt25⟩) (by assumption) ?restt25
              case hyt25 => (intro w hSw; (try dsimp only at hSw); go_simp; (try with_reducible rfl))
              case restt25 =>
                (try simp only [Act.put, List.setIfInBounds_toArray, List.set_cons_zero, List.set_cons_succ, List.getElem_toArray, List.getElem_cons_zero, List.getElem_cons_succ])
                refine wpAnyH_take (i := 3) (v := ?vvt26) rfl (by kernel_rfl) (by kernel_rfl) (by kernel_rfl) (fun _ _ _ h => h) (Or.inl ⟨by rfl, ?hyt26⟩) (by assumption) ?restt26
                case hyt26 => (intro w hSw; (try dsimp only at hSw); go_simp; (try with_reducible rfl))
                case restt26 =>
                  (try simp only [Act.put, List.setIfInBounds_toArray, List.set_cons_zero, List.set_cons_succ, List.getElem_toArray, List.getElem_cons_zero, List.getElem_cons_succ])
                  refine wpAnyH_take (i := 4) (v := ?vvt27) rfl (by kernel_rfl) (by kernel_rfl) (by kernel_rfl) (fun _ _ _ h => h) (Or.inl ⟨by rfl, ?hyt27⟩) (by assumption) ?restt27
                  case hyt27 => (intro w hSw; (try dsimp only at hSw); go_simp; (try with_reducible rfl))
                  case restt27 =>
                    (try simp only [Act.put, List.setIfInBounds_toArray, List.set_cons_zero, List.set_cons_succ, List.getElem_toArray, List.getElem_cons_zero, List.getElem_cons_succ])
                    refine wpAnyH_take (i := 5) (v := ?vvt28) rfl (by kernel_rfl) (by kernel_rfl) (by kernel_rfl) (fun _ _ _ h => h) (Or.inl ⟨by rfl, ?hyt28⟩) (by assumption) ?restt28
                    case hyt28 => (intro w hSw; (try dsimp only at hSw); go_simp; (try with_reducible rfl))
                    case restt28 =>
                      (try simp only [Act.put, List.setIfInBounds_toArray, List.set_cons_zero, List.set_cons_succ, List.getElem_toArray, List.getElem_cons_zero, List.getElem_cons_succ])
                      refine wpAnyH_take (i := 6) (v := ?vvt29) rfl (by kernel_rfl) (by kernel_rfl) (by kernel_rfl) (fun _ _ _ h => h) (Or.inl ⟨by rfl, ?hyt29⟩) (by assumption) ?restt29
                      case hyt29 => (intro w hSw; (try dsimp only at hSw); go_simp; (try with_reducible rfl))
                      case restt29 =>
                        (try simp only [Act.put, List.setIfInBounds_toArray, List.set_cons_zero, List.set_cons_succ, List.getElem_toArray, List.getElem_cons_zero, List.getElem_cons_succ])
                        refine wpAnyH_take (i := 7) (v := ?vvt30) rfl (by kernel_rfl) (by kernel_rfl) (by kernel_rfl) (fun _ _ _ h => h) (Or.inl ⟨by rfl, ?hyt30⟩) (by assumption) ?restt30
                        case hyt30 => (intro w hSw; (try dsimp only at hSw); go_simp; (try with_reducible rfl))
                        case restt30 =>
                          (try simp only [Act.put, List.setIfInBounds_toArray, List.set_cons_zero, List.set_cons_succ, List.getElem_toArray, List.getElem_cons_zero, List.getElem_cons_succ])
                          refine wpAnyH_take (i := 8) (v := ?vvt31) rfl (by kernel_rfl) (by kernel_rfl) (by kernel_rfl) (fun _ _ _ h => h) (Or.inl ⟨by rfl, ?hyt31⟩) (by assumption) ?restt31
                          case hyt31 => (intro w hSw; (try dsimp only at hSw); go_simp; (try with_reducible rfl))
                          case restt31 =>
                            (try simp only [Act.put, List.setIfInBounds_toArray, List.set_cons_zero, List.set_cons_succ, List.getElem_toArray, List.getElem_cons_zero, List.getElem_cons_succ])
                            refine wpAnyH_ready (rs := [9]) (by kernel_rfl) (by simp) ?_
                            refine (AllReadyH.cons rfl (fun K hK => ?_) AllReadyH.nil)
                            go_simp
                            (go_at_call 49; refine (given_any _ _ _ _ H16.out.1 H16.out.2 rz.out).mono ?_)
                            rintro e w4 ⟨rfl, b4⟩
                            have b4' := bdrew b4
                            have e0 := (b4'.cell (p := ⟨w.heap.size, 0, none⟩) hls).trans c0
                            have e1 := (b4'.cell (p := ⟨w.heap.size, 1, none⟩) hls).trans c1
                            have e2 := (b4'.cell (p := ⟨b, off + k, none⟩) hbl).trans hck
                            have e3 := (b4'.cell (p := ⟨G, 0, none⟩) hG).trans p0
                            have e4 := (b4'.cell (p := ⟨G, 1, none⟩) hG).trans p1
                            have hown4 := hide (Owns.below HOWN.out b4')
                            have BR4 := hide (bnext BR b4')
                            go_wp2_with fail
                            refine hK.out _ _ ?_ (fun hHeld => ?_)
                            · exact ⟨e0, e1, e2, e3, e4⟩
                            clear hK K
                            (try simp only [Act.put, List.setIfInBounds_toArray, List.set_cons_zero, List.set_cons_succ, List.getElem_toArray, List.getElem_cons_zero, List.getElem_cons_succ])
                            refine wpAnyH_ready (rs := [10]) (by kernel_rfl) (by simp) ?_
                            refine (AllReadyH.cons rfl (fun K hK => ?_) AllReadyH.nil)
                            go_simp
                            (go_at_call 50; refine (weight_any _ _ (givN_lt zs[k] H16.out.1)).mono ?_)
                            rintro e w' ⟨rfl, rfl⟩
                            go_wp2_with fail
                            refine hK.out _ _ ?_ (fun hHeld => ?_)
                            · exact ⟨e0, e1, e2, e3, e4⟩
                            clear hK K
                            (try simp only [Act.put, List.setIfInBounds_toArray, List.set_cons_zero, List.set_cons_succ, List.getElem_toArray, List.getElem_cons_zero, List.getElem_cons_succ])
                            refine wpAnyH_take (i := 11) (v := ?vvt32) rfl (by kernel_rfl) (by kernel_rfl) (by kernel_rfl) (fun _ _ _ h => h) (Or.inl ⟨by rfl, ?hyt32⟩) (by assumption) ?restt32
                            case hyt32 => (intro w hSw; (try dsimp only at hSw); go_simp; (try with_reducible rfl))
                            case restt32 =>
                              (try simp only [Act.put, List.setIfInBounds_toArray, List.set_cons_zero, List.set_cons_succ, List.getElem_toArray, List.getElem_cons_zero, List.getElem_cons_succ])
                              refine wpAnyH_ready (rs := [12]) (by kernel_rfl) (by simp) ?_
                              refine (AllReadyH.cons rfl (fun K hK => ?_) AllReadyH.nil)
                              go_simp
                              have hls4 := Nat.lt_of_lt_of_le hls b4'.size
                              have hbl4 := Nat.lt_of_lt_of_le hbl b4'.size
                              have hG4 := Nat.lt_of_lt_of_le hG b4'.size
                              refine hK.out _ _ ?_ (fun hHeld => ?_)
                              · exact ⟨((bel1 w4 (.cells #[.int .i64 (slaF m (wantC vs m) (wantB vs m) zs[k] : Nat)] 3)).cell (p := ⟨w.heap.size, 0, none⟩) hls4).trans e0, ((bel1 w4 (.cells #[.int .i64 (slaF m (wantC vs m) (wantB vs m) zs[k] : Nat)] 3)).cell (p := ⟨w.heap.size, 1, none⟩) hls4).trans e1, ((bel1 w4 (.cells #[.int .i64 (slaF m (wantC vs m) (wantB vs m) zs[k] : Nat)] 3)).cell (p := ⟨b, off + k, none⟩) hbl4).trans e2, ((bel1 w4 (.cells #[.int .i64 (slaF m (wantC vs m) (wantB vs m) zs[k] : Nat)] 3)).cell (p := ⟨G, 0, none⟩) hG4).trans e3, ((bel1 w4 (.cells #[.int .i64 (slaF m (wantC vs m) (wantB vs m) zs[k] : Nat)] 3)).cell (p := ⟨G, 1, none⟩) hG4).trans e4⟩
                              clear hK K
                              (try simp only [Act.put, List.setIfInBounds_toArray, List.set_cons_zero, List.set_cons_succ, List.getElem_toArray, List.getElem_cons_zero, List.getElem_cons_succ])
                              refine wpAnyH_ready (rs := [13]) (by kernel_rfl) (by simp) ?_
                              refine (AllReadyH.cons rfl (fun K hK => ?_) AllReadyH.nil)
                              (refine step_append_own (by rfl) _ _ _ (by rfl) wo.heap.size 3 i0 (.int .i64 0) 1 8 Try.underlying22 hi0 hz0 hz1 hz2 rfl (by decide) _ _ _ (by rfl) (hown4.out.alloc _) ⟨w4.heap.size, 0, none⟩ 1 1 [.int .i64 (slaF m (wantC vs m) (wantB vs m) zs[k] : Nat)] (by rfl) (by rfl) (cell_one_new _ _ _) (by simp [Value.oneCell']) (by unfold maxLen; omega) (by omega) (by have := BR4.out.size; simp; omega) ?_)
                              intro v' w5 hown5 hgrow _
                              have B5 : Below wo.heap.size wo w5 := (BR4.out.alloc BR4.out.size _).grown hgrow (by have := BR4.out.size; simp; omega) (fun j hj => own_ge hown4.out j hj)
                              have hpush := hide (Owns.push hown5)
                              have SE := SR.below B5
                              have PE := PB.below B5
                              have IE := (ZK.out _ B5).out
                              refine hK.out _ _ ?_ (fun hHeld => ?_)
                              · exact ⟨SE.1.2.1, SE.1.2.2, IE, PE.2.1, PE.2.2⟩
                              clear hK K
                              (try simp only [Act.put, List.setIfInBounds_toArray, List.set_cons_zero, List.set_cons_succ, List.getElem_toArray, List.getElem_cons_zero, List.getElem_cons_succ])
                              refine wpAnyH_take (i := 14) (v := ?vvt33) rfl (by kernel_rfl) (by kernel_rfl) (by kernel_rfl) (fun _ _ _ h => h) (Or.inl ⟨by rfl, ?hyt33⟩) (by assumption) ?restt33
                              case hyt33 => (intro w hSw; (try dsimp only at hSw); go_simp; (try with_reducible rfl))
                              case restt33 =>
                                (try simp only [Act.put, List.setIfInBounds_toArray, List.set_cons_zero, List.set_cons_succ, List.getElem_toArray, List.getElem_cons_zero, List.getElem_cons_succ])
                                refine wpAnyH_done (by kernel_rfl) ?_ _
                                go_wp2_with fail
                                go_roundw
                                case rel => exact ⟨k + 1, by omega, by go_num, by rw [hdt.out]; exact hpush.out, B5⟩
                                case measure => simp only [intOf]; omega
        · obtain rfl : k = zs.length := by omega
          rw [List.take_length] at hown
          obtain ⟨av, cv, rfl, iv, _⟩ := hown.form
          have hlv := farL_length (slaF m (wantC vs m) (wantB vs m)) zs
          rw [hlv]
          clear hlv
          have iv' := hide iv
          clear iv hown
          go_wp2_with fail
          refine (nearestF_any (slaF m (wantC vs m) (wantB vs m)) _ _ _ _ _ _ _ iz iv'.out hn hpos).mono ?_
          rintro e w3 ⟨v, rfl, ov, hb3⟩
          go_wp2
          go_ret
          exact ⟨v, rfl, by rw [HN.out, Int.toNat_natCast, unb_sla h4 HFM.out]; exact ov.le SQ.2.2.2.size, bnext SQ.2.2.2 hb3⟩
end Go.Proofs.Ytcophcjkhdipbaa
