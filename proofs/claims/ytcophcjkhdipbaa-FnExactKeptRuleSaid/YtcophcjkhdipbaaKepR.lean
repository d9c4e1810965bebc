/- KeptRule of the model. -/
import Derived.Test.YtcophcjkhdipbaaGiv
import Derived.Test.YtcophcjkhdipbaaSpare
import Derived.Test.YtcophcjkhdipbaaMedR
import Derived.Deep.RegionHeld3
import Derived.Outline
namespace Go.Proofs.Ytcophcjkhdipbaa
open Go.RowKit Go.Joins

set_option maxHeartbeats 2000000 in
theorem specKeptRule_any (n : Int) (a l : Option Addr) (cap capl : Nat) (zs vs : List Int) (w : World) (hi : Ints w a zs) (hj : Ints w l vs) (hn : zs.length ≤ 1048576) (hm : vs.length ≤ 1048576) :
    Calls Try.prog 23 #[.agg #[.int .i64 n, .slice a zs.length cap], .slice l vs.length capl] w (Gives (bestK n zs vs) w) := by
  obtain ⟨i0, hi0, hz0, hz1, hz2⟩ := info_parts info_int
  have S0 := SV.new w n a zs cap l vs 27 hi hj
  clear hi hj
  by_cases hv : vsB n zs = false
  · have HN := hide (bestK_no (vvB_no (vs := vs) hv))
    go_enter Try.func23, Try.ntmps23
    go_wp2_with fail
    refine (validSpace_any _ _ _ _ _ S0.2.1 hn).mono ?_
    rintro e w1 ⟨rfl, hb⟩
    go_wp2
    go_ret
    exact gives_nil HN.out (S0.below hb).2.2.2
  · have hv : vsB n zs = true := by simpa using hv
    have hV := hide (valid_of hv)
    have HVV := hide (vvB_yes (vs := vs) hv)
    by_cases hvo : votesB zs vs = false
    · have HN := hide (bestK_no (HVV.out.trans hvo))
      go_enter Try.func23, Try.ntmps23
      go_wp2_with fail
      refine (validSpace_any _ _ _ _ _ S0.2.1 hn).mono ?_
      rintro e w1 ⟨rfl, hb⟩
      have S1 := S0.below hb
      obtain ⟨⟨_, c0, c1⟩, _⟩ := S1.pair
      go_wp2_with fail
      refine (validVotes_any _ _ _ _ _ _ _ _ S1.2.1 S1.2.2.1 hn hm).mono ?_
      rintro e w2 ⟨rfl, hb2⟩
      go_wp2
      go_ret
      exact gives_nil HN.out (S1.below hb2).2.2.2
    · have hvo : votesB zs vs = true := by simpa using hvo
      have HN := hide (bestK_yes (HVV.out.trans hvo))
      have HVO := hide (votes_of hvo)
      have HR := hide (votes_range hV.out HVO.out)
      have HZ := hide (valid_range hV.out)
      obtain ⟨m, rfl⟩ := Int.eq_ofNat_of_zero_le (show 0 ≤ n from by have := hV.out.1; omega)
      have h4 : m ≤ 4 := by have := hV.out.1; omega
      have H16 := hide (want_16 vs m h4)
      have hpos := hV.out.2.1
      have h5 : vs.length ≤ 5 := by have := HVO.out.2; omega
      go_enter Try.func23, Try.ntmps23
      go_wp2_with fail
      refine (validSpace_any _ _ _ _ _ S0.2.1 hn).mono ?_
      rintro e w1 ⟨rfl, hb⟩
      have S1 := S0.below hb
      obtain ⟨⟨_, c0, c1⟩, _⟩ := S1.pair
      go_wp2_with fail
      refine (validVotes_any _ _ _ _ _ _ _ _ S1.2.1 S1.2.2.1 hn hm).mono ?_
      rintro e w2 ⟨rfl, hb2⟩
      have SR := S1.below hb2
      clear S0 hb S1 hb2 c0 c1
      obtain ⟨⟨_, c0, c1⟩, _⟩ := SR.pair
      go_wp2_with fail
      refine (wanted_any _ _ _ _ _ _ _ _ SR.2.1 SR.2.2.1 h5 h4 HR.out).mono ?_
      rintro e w3 ⟨rfl, hb3⟩
      have SP := (SR.below hb3).below (bel1 w3 (.cells #[.int .i64 (wantC vs m : Nat), .int .i64 (wantB vs m : Nat)] 40))
      have PB := PBox.new w3 (wantC vs m : Nat) (wantB vs m : Nat) 40
      obtain ⟨G, hG0⟩ : ∃ G : Nat, w3.heap.size = G := ⟨_, rfl⟩
      obtain ⟨wo, hwo⟩ : ∃ wo : World, w3.alloc (.cells #[.int .i64 (wantC vs m : Nat), .int .i64 (wantB vs m : Nat)] 40) = wo := ⟨_, rfl⟩
      rw [hwo] at SP PB
      rw [hG0] at PB
      clear SR c0 c1 hb3
      have SR := SP
      clear SP
      have ho0 : Owns (wo.alloc (.cells #[] 3)) wo.heap.size (.slice (some ⟨wo.heap.size, 0, none⟩) 0 0) [] := World.ownsRow_lit wo #[] 0 (Nat.le_refl _) (by simp) rfl
      have BA := bel1 wo (.cells #[] 3)
      go_wp2
      clear hwo hG0
      go_loopw [6, 7] (fun v i wr => ∃ k : Nat, k ≤ zs.length ∧ i = .int .i64 k ∧ Owns wr wo.heap.size v ((zs.take k).filter (unbP (fun y x => keptB (wantC vs m) (wantB vs m) y x) zs)) ∧ Below wo.heap.size wo wr) (fun _ i _ => zs.length - (intOf i).toNat)
      case atStart => exact ⟨0, Nat.zero_le _, rfl, ho0, BA⟩
      case round =>
        clear ho0 BA
        obtain ⟨k, hk, rfl, hown, BR⟩ := hrel
        have SQ := SR.below BR
        have PQ := PB.below BR
        obtain ⟨⟨_, c0, c1⟩, iz, il, _⟩ := SQ.pair
        by_cases hlt : k < zs.length
        · obtain ⟨b, off, ha, hbl, hc⟩ := iz (by omega)
          have hck := hc k hlt
          rw [getD_lt hlt] at hck
          have hft := hide (filter_take (unbP (fun y x => keptB (wantC vs m) (wantB vs m) y x) zs) zs k hlt)
          have hle := filter_le (unbP (fun y x => keptB (wantC vs m) (wantB vs m) y x) zs) zs k
          have rz := hide (HZ.out _ (mem_of_at hlt))
          have HOWN := hide hown
          have hls := SQ.1.1
          have hG := PQ.1
          have q0 := PQ.2.1
          have q1 := PQ.2.2
          have HCJ : Hid (∀ j, (h : j < zs.length) → wr.cell? ⟨b, off + j, none⟩ = some (.int .i64 zs[j])) := fun j h => by rw [hc j h, getD_lt h]
          obtain ⟨f, hf⟩ : ∃ f : Int → Bool, f = fun y => keptB (wantC vs m) (wantB vs m) y zs[k] := ⟨_, rfl⟩
          have HF : Hid (∀ j, (h : j < zs.length) → f zs[j] = ((givN (wantC vs m) (wantB vs m) zs[k] &&& givN (wantC vs m) (wantB vs m) zs[j] == givN (wantC vs m) (wantB vs m) zs[k]) && (givN (wantC vs m) (wantB vs m) zs[k] != givN (wantC vs m) (wantB vs m) zs[j]))) := fun j h => by rw [hf]; exact kept_giv H16.out.1 _ _
          have HU : Hid (unbP (fun y x => keptB (wantC vs m) (wantB vs m) y x) zs zs[k] = !(zs.any f)) := by rw [hf]; rfl
          subst ha
          clear hc iz hown hf
          obtain ⟨wk, rfl⟩ : ∃ wk : World, wk = wr := ⟨_, rfl⟩
          go_wp2
          go_loopw [8, 9] (fun t i wq => ∃ j : Nat, j ≤ zs.length ∧ i = .int .i64 j ∧ t = .bool (!((zs.take j).any f)) ∧ Below wk.heap.size wk wq) (fun _ i _ => zs.length - (intOf i).toNat)
          case atStart => exact ⟨0, Nat.zero_le _, rfl, rfl, Below.refl _ _⟩
          case round =>
            obtain ⟨j, hj, rfl, rfl, BQ⟩ := hrel
            have d1 := (BQ.cell (p := ⟨w.heap.size, 1, none⟩) hls).trans c1
            by_cases hjt : j < zs.length
            · have hcj := HCJ.out j hjt
              have hck' := (BQ.cell (p := ⟨b, off + k, none⟩) hbl).trans hck
              have p0 := (BQ.cell (p := ⟨G, 0, none⟩) hG).trans q0
              have p1 := (BQ.cell (p := ⟨G, 1, none⟩) hG).trans q1
              have rj := hide (HZ.out _ (mem_of_at hjt))
              have hga := givN_lt (b := wantB vs m) zs[k] H16.out.1
              have hgb := givN_lt (b := wantB vs m) zs[j] H16.out.1
              have hab := and_small' _ _ hga hgb
              have hfj := HF.out j hjt
              obtain ⟨A, hA⟩ : ∃ A, givN (wantC vs m) (wantB vs m) zs[k] = A := ⟨_, rfl⟩
              obtain ⟨B, hB⟩ : ∃ B, givN (wantC vs m) (wantB vs m) zs[j] = B := ⟨_, rfl⟩
              rw [hA, hB] at hab hfj
              have GA : ∀ W : World, Calls Try.prog 49 #[.agg #[.int .i64 (wantC vs m : Nat), .int .i64 (wantB vs m : Nat)], .int .i64 zs[k]] W fun e w' => e = .returned (.int .i64 (A : Nat)) ∧ Below W.heap.size W w' := fun W => by rw [← hA]; exact given_any _ _ _ _ H16.out.1 H16.out.2 rz.out
              have GB : ∀ W : World, Calls Try.prog 49 #[.agg #[.int .i64 (wantC vs m : Nat), .int .i64 (wantB vs m : Nat)], .int .i64 zs[j]] W fun e w' => e = .returned (.int .i64 (B : Nat)) ∧ Below W.heap.size W w' := fun W => by rw [← hB]; exact given_any _ _ _ _ H16.out.1 H16.out.2 rj.out
              have HGA := hide GA
              have HGB := hide GB
              clear GA GB hA hB hga hgb HF
              by_cases hbt : (zs.take j).any f = true
              · have HFJ := hide hfj
                have HBT := hide hbt
                clear hfj
                go_wp2_with fail
                refine wp_region_held_drew (S := (fun w' => w'.cell? ⟨w.heap.size, 1, none⟩ = some (.slice (some ⟨b, off, none⟩) zs.length cap) ∧ w'.cell? ⟨b, off + k, none⟩ = some (.int .i64 zs[k]) ∧ w'.cell? ⟨G, 0, none⟩ = some (.int .i64 (wantC vs m : Nat)) ∧ w'.cell? ⟨G, 1, none⟩ = some (.int .i64 (wantB vs m : Nat)))) (by kernel_rfl) ?_ (fun hHeld => ?_)
                · exact ⟨d1, hck', p0, p1⟩
                refine wpAnyH_take (i := 0) (v := ?vvt41) rfl (by kernel_rfl) (by kernel_rfl) (by kernel_rfl) (fun _ _ _ h => h) (Or.inl ⟨by rfl, ?hyt41⟩) (by assumption) ?restt41
                case hyt41 => (intro w hSw; (try dsimp only at hSw); go_simp; (try with_reducible rfl))
                case restt41 =>
                  (try simp only [Act.put, List.setIfInBounds_toArray, List.set_cons_zero, List.set_cons_succ, List.getElem_toArray, List.getElem_cons_zero])
                  refine wpAnyH_take (i := 1) (v := ?vvt42) rfl (by kernel_rfl) (by kernel_rfl) (by kernel_rfl) (fun _ _ _ h => h) (Or.inl ⟨by rfl, ?hyt42⟩) (by assumption) ?restt42
                  case hyt42 => (intro w hSw; (try dsimp only at hSw); go_simp; (try with_reducible rfl))
                  case restt42 =>
                    (try simp only [Act.put, List.setIfInBounds_toArray, List.set_cons_zero, List.set_cons_succ, List.getElem_toArray, List.getElem_cons_zero, List.getElem_cons_succ])
                    refine wpAnyH_take (i := 2) (v := ?vvt43) rfl (by kernel_rfl) (by kernel_rfl) (by kernel_rfl) (fun _ _ _ h => h) (Or.inl ⟨by rfl, ?hyt43⟩) (by assumption) ?restt43
                    case hyt43 => (intro w hSw; (try dsimp only at hSw); go_simp; (try with_reducible rfl))
                    case restt43 =>
                      (try simp only [Act.put, List.setIfInBounds_toArray, List.set_cons_zero, List.set_cons_succ, List.getElem_toArray, List.getElem_cons_zero, List.getElem_cons_succ])
                      refine wpAnyH_take (i := 3) (v := ?vvt44) rfl (by kernel_rfl) (by kernel_rfl) (by kernel_rfl) (fun _ _ _ h => h) (Or.inl ⟨by rfl, ?hyt44⟩) (by assumption) ?restt44
                      case hyt44 => (intro w hSw; (try dsimp only at hSw); go_simp; (try with_reducible rfl))
                      case restt44 =>
                        (try simp only [Act.put, List.setIfInBounds_toArray, List.set_cons_zero, List.set_cons_succ, List.getElem_toArray, List.getElem_cons_zero, List.getElem_cons_succ])
                        refine wpAnyH_take (i := 4) (v := ?vvt45) rfl (by kernel_rfl) (by kernel_rfl) (by kernel_rfl) (fun _ _ _ h => h) (Or.inl ⟨by rfl, ?hyt45⟩) (by assumption) ?restt45
                        case hyt45 => (intro w hSw; (try dsimp only at hSw); go_simp; (try with_reducible rfl))
                        case restt45 =>
                          (try simp only [Act.put, List.setIfInBounds_toArray, List.set_cons_zero, List.set_cons_succ, List.getElem_toArray, List.getElem_cons_zero, List.getElem_cons_succ])
                          refine wpAnyH_take (i := 5) (v := ?vvt46) rfl (by kernel_rfl) (by kernel_rfl) (by kernel_rfl) (fun _ _ _ h => h) (Or.inl ⟨by rfl, ?hyt46⟩) (by assumption) ?restt46
                          case hyt46 => (intro w hSw; (try dsimp only at hSw); go_simp; (try with_reducible rfl))
                          case restt46 =>
                            (try simp only [Act.put, List.setIfInBounds_toArray, List.set_cons_zero, List.set_cons_succ, List.getElem_toArray, List.getElem_cons_zero, List.getElem_cons_succ])
                            refine wpAnyH_ready (rs := [6]) (by kernel_rfl) (by simp) ?_
                            refine (AllReadyH.cons rfl (fun K hK => ?_) AllReadyH.nil)
                            go_simp
                            (go_at_call 49; refine (HGA.out _).mono ?_)
                            rintro e w4 ⟨rfl, b4⟩
                            have b4' := bdrew b4
                            have B4 := bnext BQ b4'
                            have e1 := (B4.cell (p := ⟨w.heap.size, 1, none⟩) hls).trans c1
                            have e2 := (B4.cell (p := ⟨b, off + k, none⟩) hbl).trans hck
                            have e2j := (B4.cell (p := ⟨b, off + j, none⟩) hbl).trans hcj
                            have e3 := (B4.cell (p := ⟨G, 0, none⟩) hG).trans q0
                            have e4 := (B4.cell (p := ⟨G, 1, none⟩) hG).trans q1
                            go_wp2_with fail
                            refine hK.out _ _ ?_ (fun hHeld => ?_)
                            · exact ⟨e1, e2, e3, e4⟩
                            clear hK K
                            (try simp only [Act.put, List.setIfInBounds_toArray, List.set_cons_zero, List.set_cons_succ, List.getElem_toArray, List.getElem_cons_zero, List.getElem_cons_succ])
                            refine wpAnyH_take (i := 7) (v := ?vvt47) rfl (by kernel_rfl) (by kernel_rfl) (by kernel_rfl) (fun _ _ _ h => h) (Or.inl ⟨by rfl, ?hyt47⟩) (by assumption) ?restt47
                            case hyt47 => (intro w hSw; (try dsimp only at hSw); go_simp; (try with_reducible rfl))
                            case restt47 =>
                              (try simp only [Act.put, List.setIfInBounds_toArray, List.set_cons_zero, List.set_cons_succ, List.getElem_toArray, List.getElem_cons_zero, List.getElem_cons_succ])
                              refine wpAnyH_done (by kernel_rfl) ?_ _
                              clear hHeld
                              go_wp2_with fail
                              refine wp_region_held_drew (S := (fun w' => w'.cell? ⟨w.heap.size, 1, none⟩ = some (.slice (some ⟨b, off, none⟩) zs.length cap) ∧ w'.cell? ⟨b, off + j, none⟩ = some (.int .i64 zs[j]) ∧ w'.cell? ⟨G, 0, none⟩ = some (.int .i64 (wantC vs m : Nat)) ∧ w'.cell? ⟨G, 1, none⟩ = some (.int .i64 (wantB vs m : Nat)))) (by kernel_rfl) ?_ (fun hHeld => ?_)
                              · exact ⟨e1, e2j, e3, e4⟩
                              refine wpAnyH_take (i := 0) (v := ?vvt34) rfl (by kernel_rfl) (by kernel_rfl) (by kernel_rfl) (fun _ _ _ h => h) (Or.inl ⟨by rfl, ?hyt34⟩) (by assumption) ?restt34
                              case hyt34 => (intro w hSw; (try dsimp only at hSw); go_simp; (try with_reducible rfl))
                              case restt34 =>
                                (try simp only [Act.put, List.setIfInBounds_toArray, List.set_cons_zero, List.set_cons_succ, List.getElem_toArray, List.getElem_cons_zero])
                                refine wpAnyH_take (i := 1) (v := ?vvt35) rfl (by kernel_rfl) (by kernel_rfl) (by kernel_rfl) (fun _ _ _ h => h) (Or.inl ⟨by rfl, ?hyt35⟩) (by assumption) ?restt35
                                case hyt35 => (intro w hSw; (try dsimp only at hSw); go_simp; (try with_reducible rfl))
                                case restt35 =>
                                  (try simp only [Act.put, List.setIfInBounds_toArray, List.set_cons_zero, List.set_cons_succ, List.getElem_toArray, List.getElem_cons_zero, List.getElem_cons_succ])
                                  refine wpAnyH_take (i := 2) (v := ?vvt36) rfl (by kernel_rfl) (by kernel_rfl) (by kernel_rfl) (fun _ _ _ h => h) (Or.inl ⟨by rfl, ?hyt36⟩) (by assumption) ?restt36
                                  case hyt36 => (intro w hSw; (try dsimp only at hSw); go_simp; (try with_reducible rfl))
                                  case restt36 =>
                                    (try simp only [Act.put, List.setIfInBounds_toArray, List.set_cons_zero, List.set_cons_succ, List.getElem_toArray, List.getElem_cons_zero, List.getElem_cons_succ])
                                    refine wpAnyH_take (i := 3) (v := ?vvt37) rfl (by kernel_rfl) (by kernel_rfl) (by kernel_rfl) (fun _ _ _ h => h) (Or.inl ⟨by rfl, ?hyt37⟩) (by assumption) ?restt37
                                    case hyt37 => (intro w hSw; (try dsimp only at hSw); go_simp; (try with_reducible rfl))
                                    case restt37 =>
                                      (try simp only [Act.put, List.setIfInBounds_toArray, List.set_cons_zero, List.set_cons_succ, List.getElem_toArray, List.getElem_cons_zero, List.getElem_cons_succ])
                                      refine wpAnyH_take (i := 4) (v := ?vvt38) rfl (by kernel_rfl) (by kernel_rfl) (by kernel_rfl) (fun _ _ _ h => h) (Or.inl ⟨by rfl, ?hyt38⟩) (by assumption) ?restt38
                                      case hyt38 => (intro w hSw; (try dsimp only at hSw); go_simp; (try with_reducible rfl))
                                      case restt38 =>
                                        (try simp only [Act.put, List.setIfInBounds_toArray, List.set_cons_zero, List.set_cons_succ, List.getElem_toArray, List.getElem_cons_zero, List.getElem_cons_succ])
                                        refine wpAnyH_take (i := 5) (v := ?vvt39) rfl (by kernel_rfl) (by kernel_rfl) (by kernel_rfl) (fun _ _ _ h => h) (Or.inl ⟨by rfl, ?hyt39⟩) (by assumption) ?restt39
                                        case hyt39 => (intro w hSw; (try dsimp only at hSw); go_simp; (try with_reducible rfl))
                                        case restt39 =>
                                          (try simp only [Act.put, List.setIfInBounds_toArray, List.set_cons_zero, List.set_cons_succ, List.getElem_toArray, List.getElem_cons_zero, List.getElem_cons_succ])
                                          refine wpAnyH_ready (rs := [6]) (by kernel_rfl) (by simp) ?_
                                          refine (AllReadyH.cons rfl (fun K hK => ?_) AllReadyH.nil)
                                          go_simp
                                          (go_at_call 49; refine (HGB.out _).mono ?_)
                                          rintro e w5 ⟨rfl, b5⟩
                                          have b5' := bdrew b5
                                          have B5 := bnext B4 b5'
                                          have g1 := (B5.cell (p := ⟨w.heap.size, 1, none⟩) hls).trans c1
                                          have g2 := (B5.cell (p := ⟨b, off + j, none⟩) hbl).trans hcj
                                          have g3 := (B5.cell (p := ⟨G, 0, none⟩) hG).trans q0
                                          have g4 := (B5.cell (p := ⟨G, 1, none⟩) hG).trans q1
                                          go_wp2_with fail
                                          refine hK.out _ _ ?_ (fun hHeld => ?_)
                                          · exact ⟨g1, g2, g3, g4⟩
                                          clear hK K
                                          (try simp only [Act.put, List.setIfInBounds_toArray, List.set_cons_zero, List.set_cons_succ, List.getElem_toArray, List.getElem_cons_zero, List.getElem_cons_succ])
                                          refine wpAnyH_take (i := 7) (v := ?vvt40) rfl (by kernel_rfl) (by kernel_rfl) (by kernel_rfl) (fun _ _ _ h => h) (Or.inl ⟨by rfl, ?hyt40⟩) (by assumption) ?restt40
                                          case hyt40 => (intro w hSw; (try dsimp only at hSw); go_simp; (try with_reducible rfl))
                                          case restt40 =>
                                            (try simp only [Act.put, List.setIfInBounds_toArray, List.set_cons_zero, List.set_cons_succ, List.getElem_toArray, List.getElem_cons_zero, List.getElem_cons_succ])
                                            refine wpAnyH_done (by kernel_rfl) ?_ _
                                            clear hHeld
                                            go_wp2_with fail
                                            go_roundw
                                            case rel => exact ⟨j + 1, by omega, by go_num, by rw [any_take hjt, HBT.out, Bool.true_or]; first | rfl | (rw [HFJ.out]; rfl), B5⟩
                                            case measure => simp [intOf]; omega
              · have hbt : (zs.take j).any f = false := by simpa using hbt
                have HBT := hide hbt
                by_cases h1 : A &&& B = A
                · have e1 : (((A &&& B : Nat) : Int) != (A : Int)) = false := by rw [bne_eq_false_iff_eq, h1]
                  by_cases h2 : A = B
                  · have e2 : ((A : Int) == (B : Int)) = true := by rw [beq_iff_eq, h2]
                    have HFJ : Hid (f zs[j] = false) := by rw [hfj, h1, h2]; simp [Hid]
                    clear hfj h1 h2
                    go_wp2_with fail
                    refine wp_region_held_drew (S := (fun w' => w'.cell? ⟨w.heap.size, 1, none⟩ = some (.slice (some ⟨b, off, none⟩) zs.length cap) ∧ w'.cell? ⟨b, off + k, none⟩ = some (.int .i64 zs[k]) ∧ w'.cell? ⟨G, 0, none⟩ = some (.int .i64 (wantC vs m : Nat)) ∧ w'.cell? ⟨G, 1, none⟩ = some (.int .i64 (wantB vs m : Nat)))) (by kernel_rfl) ?_ (fun hHeld => ?_)
                    · exact ⟨d1, hck', p0, p1⟩
                    refine wpAnyH_take (i := 0) (v := ?vvt55) rfl (by kernel_rfl) (by kernel_rfl) (by kernel_rfl) (fun _ _ _ h => h) (Or.inl ⟨by rfl, ?hyt55⟩) (by assumption) ?restt55
                    case hyt55 => (intro w hSw; (try dsimp only at hSw); go_simp; (try with_reducible rfl))
                    case restt55 =>
                      (try simp only [Act.put, List.setIfInBounds_toArray, List.set_cons_zero, List.set_cons_succ, List.getElem_toArray, List.getElem_cons_zero])
                      refine wpAnyH_take (i := 1) (v := ?vvt56) rfl (by kernel_rfl) (by kernel_rfl) (by kernel_rfl) (fun _ _ _ h => h) (Or.inl ⟨by rfl, ?hyt56⟩) (by assumption) ?restt56
                      case hyt56 => (intro w hSw; (try dsimp only at hSw); go_simp; (try with_reducible rfl))
                      case restt56 =>
                        (try simp only [Act.put, List.setIfInBounds_toArray, List.set_cons_zero, List.set_cons_succ, List.getElem_toArray, List.getElem_cons_zero, List.getElem_cons_succ])
                        refine wpAnyH_take (i := 2) (v := ?vvt57) rfl (by kernel_rfl) (by kernel_rfl) (by kernel_rfl) (fun _ _ _ h => h) (Or.inl ⟨by rfl, ?hyt57⟩) (by assumption) ?restt57
                        case hyt57 => (intro w hSw; (try dsimp only at hSw); go_simp; (try with_reducible rfl))
                        case restt57 =>
                          (try simp only [Act.put, List.setIfInBounds_toArray, List.set_cons_zero, List.set_cons_succ, List.getElem_toArray, List.getElem_cons_zero, List.getElem_cons_succ])
                          refine wpAnyH_take (i := 3) (v := ?vvt58) rfl (by kernel_rfl) (by kernel_rfl) (by kernel_rfl) (fun _ _ _ h => h) (Or.inl ⟨by rfl, ?hyt58⟩) (by assumption) ?restt58
                          case hyt58 => (intro w hSw; (try dsimp only at hSw); go_simp; (try with_reducible rfl))
                          case restt58 =>
                            (try simp only [Act.put, List.setIfInBounds_toArray, List.set_cons_zero, List.set_cons_succ, List.getElem_toArray, List.getElem_cons_zero, List.getElem_cons_succ])
                            refine wpAnyH_take (i := 4) (v := ?vvt59) rfl (by kernel_rfl) (by kernel_rfl) (by kernel_rfl) (fun _ _ _ h => h) (Or.inl ⟨by rfl, ?hyt59⟩) (by assumption) ?restt59
                            case hyt59 => (intro w hSw; (try dsimp only at hSw); go_simp; (try with_reducible rfl))
                            case restt59 =>
                              (try simp only [Act.put, List.setIfInBounds_toArray, List.set_cons_zero, List.set_cons_succ, List.getElem_toArray, List.getElem_cons_zero, List.getElem_cons_succ])
                              refine wpAnyH_take (i := 5) (v := ?vvt60) rfl (by kernel_rfl) (by kernel_rfl) (by kernel_rfl) (fun _ _ _ h => h) (Or.inl ⟨by rfl, ?hyt60⟩) (by assumption) ?restt60
                              case hyt60 => (intro w hSw; (try dsimp only at hSw); go_simp; (try with_reducible rfl))
                              case restt60 =>
                                (try simp only [Act.put, List.setIfInBounds_toArray, List.set_cons_zero, List.set_cons_succ, List.getElem_toArray, List.getElem_cons_zero, List.getElem_cons_succ])
                                refine wpAnyH_ready (rs := [6]) (by kernel_rfl) (by simp) ?_
                                refine (AllReadyH.cons rfl (fun K hK => ?_) AllReadyH.nil)
                                go_simp
                                (go_at_call 49; refine (HGA.out _).mono ?_)
                                rintro e w4 ⟨rfl, b4⟩
                                have b4' := bdrew b4
                                have B4 := bnext BQ b4'
                                have e1 := (B4.cell (p := ⟨w.heap.size, 1, none⟩) hls).trans c1
                                have e2 := (B4.cell (p := ⟨b, off + k, none⟩) hbl).trans hck
                                have e2j := (B4.cell (p := ⟨b, off + j, none⟩) hbl).trans hcj
                                have e3 := (B4.cell (p := ⟨G, 0, none⟩) hG).trans q0
                                have e4 := (B4.cell (p := ⟨G, 1, none⟩) hG).trans q1
                                go_wp2_with fail
                                refine hK.out _ _ ?_ (fun hHeld => ?_)
                                · exact ⟨e1, e2, e3, e4⟩
                                clear hK K
                                (try simp only [Act.put, List.setIfInBounds_toArray, List.set_cons_zero, List.set_cons_succ, List.getElem_toArray, List.getElem_cons_zero, List.getElem_cons_succ])
                                refine wpAnyH_take (i := 7) (v := ?vvt61) rfl (by kernel_rfl) (by kernel_rfl) (by kernel_rfl) (fun _ _ _ h => h) (Or.inl ⟨by rfl, ?hyt61⟩) (by assumption) ?restt61
                                case hyt61 => (intro w hSw; (try dsimp only at hSw); go_simp; (try with_reducible rfl))
                                case restt61 =>
                                  (try simp only [Act.put, List.setIfInBounds_toArray, List.set_cons_zero, List.set_cons_succ, List.getElem_toArray, List.getElem_cons_zero, List.getElem_cons_succ])
                                  refine wpAnyH_done (by kernel_rfl) ?_ _
                                  clear hHeld
                                  go_wp2_with fail
                                  refine wp_region_held_drew (S := (fun w' => w'.cell? ⟨w.heap.size, 1, none⟩ = some (.slice (some ⟨b, off, none⟩) zs.length cap) ∧ w'.cell? ⟨b, off + j, none⟩ = some (.int .i64 zs[j]) ∧ w'.cell? ⟨G, 0, none⟩ = some (.int .i64 (wantC vs m : Nat)) ∧ w'.cell? ⟨G, 1, none⟩ = some (.int .i64 (wantB vs m : Nat)))) (by kernel_rfl) ?_ (fun hHeld => ?_)
                                  · exact ⟨e1, e2j, e3, e4⟩
                                  refine wpAnyH_take (i := 0) (v := ?vvt48) rfl (by kernel_rfl) (by kernel_rfl) (by kernel_rfl) (fun _ _ _ h => h) (Or.inl ⟨by rfl, ?hyt48⟩) (by assumption) ?restt48
                                  case hyt48 => (intro w hSw; (try dsimp only at hSw); go_simp; (try with_reducible rfl))
                                  case restt48 =>
                                    (try simp only [Act.put, List.setIfInBounds_toArray, List.set_cons_zero, List.set_cons_succ, List.getElem_toArray, List.getElem_cons_zero])
                                    refine wpAnyH_take (i := 1) (v := ?vvt49) rfl (by kernel_rfl) (by kernel_rfl) (by kernel_rfl) (fun _ _ _ h => h) (Or.inl ⟨by rfl, ?hyt49⟩) (by assumption) ?restt49
                                    case hyt49 => (intro w hSw; (try dsimp only at hSw); go_simp; (try with_reducible rfl))
                                    case restt49 =>
                                      (try simp only [Act.put, List.setIfInBounds_toArray, List.set_cons_zero, List.set_cons_succ, List.getElem_toArray, List.getElem_cons_zero, List.getElem_cons_succ])
                                      refine wpAnyH_take (i := 2) (v := ?vvt50) rfl (by kernel_rfl) (by kernel_rfl) (by kernel_rfl) (fun _ _ _ h => h) (Or.inl ⟨by rfl, ?hyt50⟩) (by assumption) ?restt50
                                      case hyt50 => (intro w hSw; (try dsimp only at hSw); go_simp; (try with_reducible rfl))
                                      case restt50 =>
                                        (try simp only [Act.put, List.setIfInBounds_toArray, List.set_cons_zero, List.set_cons_succ, List.getElem_toArray, List.getElem_cons_zero, List.getElem_cons_succ])
                                        refine wpAnyH_take (i := 3) (v := ?vvt51) rfl (by kernel_rfl) (by kernel_rfl) (by kernel_rfl) (fun _ _ _ h => h) (Or.inl ⟨by rfl, ?hyt51⟩) (by assumption) ?restt51
                                        case hyt51 => (intro w hSw; (try dsimp only at hSw); go_simp; (try with_reducible rfl))
                                        case restt51 =>
                                          (try simp only [Act.put, List.setIfInBounds_toArray, List.set_cons_zero, List.set_cons_succ, List.getElem_toArray, List.getElem_cons_zero, List.getElem_cons_succ])
                                          refine wpAnyH_take (i := 4) (v := ?vvt52) rfl (by kernel_rfl) (by kernel_rfl) (by kernel_rfl) (fun _ _ _ h => h) (Or.inl ⟨by rfl, ?hyt52⟩) (by assumption) ?restt52
                                          case hyt52 => (intro w hSw; (try dsimp only at hSw); go_simp; (try with_reducible rfl))
                                          case restt52 =>
                                            (try simp only [Act.put, List.setIfInBounds_toArray, List.set_cons_zero, List.set_cons_succ, List.getElem_toArray, List.getElem_cons_zero, List.getElem_cons_succ])
                                            refine wpAnyH_take (i := 5) (v := ?vvt53) rfl (by kernel_rfl) (by kernel_rfl) (by kernel_rfl) (fun _ _ _ h => h) (Or.inl ⟨by rfl, ?hyt53⟩) (by assumption) ?restt53
                                            case hyt53 => (intro w hSw; (try dsimp only at hSw); go_simp; (try with_reducible rfl))
                                            case restt53 =>
                                              (try simp only [Act.put, List.setIfInBounds_toArray, List.set_cons_zero, List.set_cons_succ, List.getElem_toArray, List.getElem_cons_zero, List.getElem_cons_succ])
                                              refine wpAnyH_ready (rs := [6]) (by kernel_rfl) (by simp) ?_
                                              refine (AllReadyH.cons rfl (fun K hK => ?_) AllReadyH.nil)
                                              go_simp
                                              (go_at_call 49; refine (HGB.out _).mono ?_)
                                              rintro e w5 ⟨rfl, b5⟩
                                              have b5' := bdrew b5
                                              have B5 := bnext B4 b5'
                                              have g1 := (B5.cell (p := ⟨w.heap.size, 1, none⟩) hls).trans c1
                                              have g2 := (B5.cell (p := ⟨b, off + j, none⟩) hbl).trans hcj
                                              have g3 := (B5.cell (p := ⟨G, 0, none⟩) hG).trans q0
                                              have g4 := (B5.cell (p := ⟨G, 1, none⟩) hG).trans q1
                                              go_wp2_with fail
                                              refine hK.out _ _ ?_ (fun hHeld => ?_)
                                              · exact ⟨g1, g2, g3, g4⟩
                                              clear hK K
                                              (try simp only [Act.put, List.setIfInBounds_toArray, List.set_cons_zero, List.set_cons_succ, List.getElem_toArray, List.getElem_cons_zero, List.getElem_cons_succ])
                                              refine wpAnyH_take (i := 7) (v := ?vvt54) rfl (by kernel_rfl) (by kernel_rfl) (by kernel_rfl) (fun _ _ _ h => h) (Or.inl ⟨by rfl, ?hyt54⟩) (by assumption) ?restt54
                                              case hyt54 => (intro w hSw; (try dsimp only at hSw); go_simp; (try with_reducible rfl))
                                              case restt54 =>
                                                (try simp only [Act.put, List.setIfInBounds_toArray, List.set_cons_zero, List.set_cons_succ, List.getElem_toArray, List.getElem_cons_zero, List.getElem_cons_succ])
                                                refine wpAnyH_done (by kernel_rfl) ?_ _
                                                clear hHeld
                                                go_wp2_with fail
                                                go_roundw
                                                case rel => exact ⟨j + 1, by omega, by go_num, by rw [any_take hjt, HBT.out, Bool.false_or]; first | rfl | (rw [HFJ.out]; rfl), B5⟩
                                                case measure => simp [intOf]; omega
                  · have e2 : ((A : Int) == (B : Int)) = false := by rw [beq_eq_false_iff_ne]; omega
                    have HFJ : Hid (f zs[j] = true) := by rw [hfj, h1]; simp [Hid, h2]
                    clear hfj h1 h2
                    go_wp2_with fail
                    refine wp_region_held_drew (S := (fun w' => w'.cell? ⟨w.heap.size, 1, none⟩ = some (.slice (some ⟨b, off, none⟩) zs.length cap) ∧ w'.cell? ⟨b, off + k, none⟩ = some (.int .i64 zs[k]) ∧ w'.cell? ⟨G, 0, none⟩ = some (.int .i64 (wantC vs m : Nat)) ∧ w'.cell? ⟨G, 1, none⟩ = some (.int .i64 (wantB vs m : Nat)))) (by kernel_rfl) ?_ (fun hHeld => ?_)
                    · exact ⟨d1, hck', p0, p1⟩
                    refine wpAnyH_take (i := 0) (v := ?vvt69) rfl (by kernel_rfl) (by kernel_rfl) (by kernel_rfl) (fun _ _ _ h => h) (Or.inl ⟨by rfl, ?hyt69⟩) (by assumption) ?restt69
                    case hyt69 => (intro w hSw; (try dsimp only at hSw); go_simp; (try with_reducible rfl))
                    case restt69 =>
                      (try simp only [Act.put, List.setIfInBounds_toArray, List.set_cons_zero, List.set_cons_succ, List.getElem_toArray, List.getElem_cons_zero])
                      refine wpAnyH_take (i := 1) (v := ?vvt70) rfl (by kernel_rfl) (by kernel_rfl) (by kernel_rfl) (fun _ _ _ h => h) (Or.inl ⟨by rfl, ?hyt70⟩) (by assumption) ?restt70
                      case hyt70 => (intro w hSw; (try dsimp only at hSw); go_simp; (try with_reducible rfl))
                      case restt70 =>
                        (try simp only [Act.put, List.setIfInBounds_toArray, List.set_cons_zero, List.set_cons_succ, List.getElem_toArray, List.getElem_cons_zero, List.getElem_cons_succ])
                        refine wpAnyH_take (i := 2) (v := ?vvt71) rfl (by kernel_rfl) (by kernel_rfl) (by kernel_rfl) (fun _ _ _ h => h) (Or.inl ⟨by rfl, ?hyt71⟩) (by assumption) ?restt71
                        case hyt71 => (intro w hSw; (try dsimp only at hSw); go_simp; (try with_reducible rfl))
                        case restt71 =>
                          (try simp only [Act.put, List.setIfInBounds_toArray, List.set_cons_zero, List.set_cons_succ, List.getElem_toArray, List.getElem_cons_zero, List.getElem_cons_succ])
                          refine wpAnyH_take (i := 3) (v := ?vvt72) rfl (by kernel_rfl) (by kernel_rfl) (by kernel_rfl) (fun _ _ _ h => h) (Or.inl ⟨by rfl, ?hyt72⟩) (by assumption) ?restt72
                          case hyt72 => (intro w hSw; (try dsimp only at hSw); go_simp; (try with_reducible rfl))
                          case restt72 =>
                            (try simp only [Act.put, List.setIfInBounds_toArray, List.set_cons_zero, List.set_cons_succ, List.getElem_toArray, List.getElem_cons_zero, List.getElem_cons_succ])
                            refine wpAnyH_take (i := 4) (v := ?vvt73) rfl (by kernel_rfl) (by kernel_rfl) (by kernel_rfl) (fun _ _ _ h => h) (Or.inl ⟨by rfl, ?hyt73⟩) (by assumption) ?restt73
                            case hyt73 => (intro w hSw; (try dsimp only at hSw); go_simp; (try with_reducible rfl))
                            case restt73 =>
                              (try simp only [Act.put, List.setIfInBounds_toArray, List.set_cons_zero, List.set_cons_succ, List.getElem_toArray, List.getElem_cons_zero, List.getElem_cons_succ])
                              refine wpAnyH_take (i := 5) (v := ?vvt74) rfl (by kernel_rfl) (by kernel_rfl) (by kernel_rfl) (fun _ _ _ h => h) (Or.inl ⟨by rfl, ?hyt74⟩) (by assumption) ?restt74
                              case hyt74 => (intro w hSw; (try dsimp only at hSw); go_simp; (try with_reducible rfl))
                              case restt74 =>
                                (try simp only [Act.put, List.setIfInBounds_toArray, List.set_cons_zero, List.set_cons_succ, List.getElem_toArray, List.getElem_cons_zero, List.getElem_cons_succ])
                                refine wpAnyH_ready (rs := [6]) (by kernel_rfl) (by simp) ?_
                                refine (AllReadyH.cons rfl (fun K hK => ?_) AllReadyH.nil)
                                go_simp
                                (go_at_call 49; refine (HGA.out _).mono ?_)
                                rintro e w4 ⟨rfl, b4⟩
                                have b4' := bdrew b4
                                have B4 := bnext BQ b4'
                                have e1 := (B4.cell (p := ⟨w.heap.size, 1, none⟩) hls).trans c1
                                have e2 := (B4.cell (p := ⟨b, off + k, none⟩) hbl).trans hck
                                have e2j := (B4.cell (p := ⟨b, off + j, none⟩) hbl).trans hcj
                                have e3 := (B4.cell (p := ⟨G, 0, none⟩) hG).trans q0
                                have e4 := (B4.cell (p := ⟨G, 1, none⟩) hG).trans q1
                                go_wp2_with fail
                                refine hK.out _ _ ?_ (fun hHeld => ?_)
                                · exact ⟨e1, e2, e3, e4⟩
                                clear hK K
                                (try simp only [Act.put, List.setIfInBounds_toArray, List.set_cons_zero, List.set_cons_succ, List.getElem_toArray, List.getElem_cons_zero, List.getElem_cons_succ])
                                refine wpAnyH_take (i := 7) (v := ?vvt75) rfl (by kernel_rfl) (by kernel_rfl) (by kernel_rfl) (fun _ _ _ h => h) (Or.inl ⟨by rfl, ?hyt75⟩) (by assumption) ?restt75
                                case hyt75 => (intro w hSw; (try dsimp only at hSw); go_simp; (try with_reducible rfl))
                                case restt75 =>
                                  (try simp only [Act.put, List.setIfInBounds_toArray, List.set_cons_zero, List.set_cons_succ, List.getElem_toArray, List.getElem_cons_zero, List.getElem_cons_succ])
                                  refine wpAnyH_done (by kernel_rfl) ?_ _
                                  clear hHeld
                                  go_wp2_with fail
                                  refine wp_region_held_drew (S := (fun w' => w'.cell? ⟨w.heap.size, 1, none⟩ = some (.slice (some ⟨b, off, none⟩) zs.length cap) ∧ w'.cell? ⟨b, off + j, none⟩ = some (.int .i64 zs[j]) ∧ w'.cell? ⟨G, 0, none⟩ = some (.int .i64 (wantC vs m : Nat)) ∧ w'.cell? ⟨G, 1, none⟩ = some (.int .i64 (wantB vs m : Nat)))) (by kernel_rfl) ?_ (fun hHeld => ?_)
                                  · exact ⟨e1, e2j, e3, e4⟩
                                  refine wpAnyH_take (i := 0) (v := ?vvt62) rfl (by kernel_rfl) (by kernel_rfl) (by kernel_rfl) (fun _ _ _ h => h) (Or.inl ⟨by rfl, ?hyt62⟩) (by assumption) ?restt62
                                  case hyt62 => (intro w hSw; (try dsimp only at hSw); go_simp; (try with_reducible rfl))
                                  case restt62 =>
                                    (try simp only [Act.put, List.setIfInBounds_toArray, List.set_cons_zero, List.set_cons_succ, List.getElem_toArray, List.getElem_cons_zero])
                                    refine wpAnyH_take (i := 1) (v := ?vvt63) rfl (by kernel_rfl) (by kernel_rfl) (by kernel_rfl) (fun _ _ _ h => h) (Or.inl ⟨by rfl, ?hyt63⟩) (by assumption) ?restt63
                                    case hyt63 => (intro w hSw; (try dsimp only at hSw); go_simp; (try with_reducible rfl))
                                    case restt63 =>
                                      (try simp only [Act.put, List.setIfInBounds_toArray, List.set_cons_zero, List.set_cons_succ, List.getElem_toArray, List.getElem_cons_zero, List.getElem_cons_succ])
                                      refine wpAnyH_take (i := 2) (v := ?vvt64) rfl (by kernel_rfl) (by kernel_rfl) (by kernel_rfl) (fun _ _ _ h => h) (Or.inl ⟨by rfl, ?hyt64⟩) (by assumption) ?restt64
                                      case hyt64 => (intro w hSw; (try dsimp only at hSw); go_simp; (try with_reducible rfl))
                                      case restt64 =>
                                        (try simp only [Act.put, List.setIfInBounds_toArray, List.set_cons_zero, List.set_cons_succ, List.getElem_toArray, List.getElem_cons_zero, List.getElem_cons_succ])
                                        refine wpAnyH_take (i := 3) (v := ?vvt65) rfl (by kernel_rfl) (by kernel_rfl) (by kernel_rfl) (fun _ _ _ h => h) (Or.inl ⟨by rfl, ?hyt65⟩) (by assumption) ?restt65
                                        case hyt65 => (intro w hSw; (try dsimp only at hSw); go_simp; (try with_reducible rfl))
                                        case restt65 =>
                                          (try simp only [Act.put, List.setIfInBounds_toArray, List.set_cons_zero, List.set_cons_succ, List.getElem_toArray, List.getElem_cons_zero, List.getElem_cons_succ])
                                          refine wpAnyH_take (i := 4) (v := ?vvt66) rfl (by kernel_rfl) (by kernel_rfl) (by kernel_rfl) (fun _ _ _ h => h) (Or.inl ⟨by rfl, ?hyt66⟩) (by assumption) ?restt66
                                          case hyt66 => (intro w hSw; (try dsimp only at hSw); go_simp; (try with_reducible rfl))
                                          case restt66 =>
                                            (try simp only [Act.put, List.setIfInBounds_toArray, List.set_cons_zero, List.set_cons_succ, List.getElem_toArray, List.getElem_cons_zero, List.getElem_cons_succ])
                                            refine wpAnyH_take (i := 5) (v := ?vvt67) rfl (by kernel_rfl) (by kernel_rfl) (by kernel_rfl) (fun _ _ _ h => h) (Or.inl ⟨by rfl, ?hyt67⟩) (by assumption) ?restt67
                                            case hyt67 => (intro w hSw; (try dsimp only at hSw); go_simp; (try with_reducible rfl))
                                            case restt67 =>
                                              (try simp only [Act.put, List.setIfInBounds_toArray, List.set_cons_zero, List.set_cons_succ, List.getElem_toArray, List.getElem_cons_zero, List.getElem_cons_succ])
                                              refine wpAnyH_ready (rs := [6]) (by kernel_rfl) (by simp) ?_
                                              refine (AllReadyH.cons rfl (fun K hK => ?_) AllReadyH.nil)
                                              go_simp
                                              (go_at_call 49; refine (HGB.out _).mono ?_)
                                              rintro e w5 ⟨rfl, b5⟩
                                              have b5' := bdrew b5
                                              have B5 := bnext B4 b5'
                                              have g1 := (B5.cell (p := ⟨w.heap.size, 1, none⟩) hls).trans c1
                                              have g2 := (B5.cell (p := ⟨b, off + j, none⟩) hbl).trans hcj
                                              have g3 := (B5.cell (p := ⟨G, 0, none⟩) hG).trans q0
                                              have g4 := (B5.cell (p := ⟨G, 1, none⟩) hG).trans q1
                                              go_wp2_with fail
                                              refine hK.out _ _ ?_ (fun hHeld => ?_)
                                              · exact ⟨g1, g2, g3, g4⟩
                                              clear hK K
                                              (try simp only [Act.put, List.setIfInBounds_toArray, List.set_cons_zero, List.set_cons_succ, List.getElem_toArray, List.getElem_cons_zero, List.getElem_cons_succ])
                                              refine wpAnyH_take (i := 7) (v := ?vvt68) rfl (by kernel_rfl) (by kernel_rfl) (by kernel_rfl) (fun _ _ _ h => h) (Or.inl ⟨by rfl, ?hyt68⟩) (by assumption) ?restt68
                                              case hyt68 => (intro w hSw; (try dsimp only at hSw); go_simp; (try with_reducible rfl))
                                              case restt68 =>
                                                (try simp only [Act.put, List.setIfInBounds_toArray, List.set_cons_zero, List.set_cons_succ, List.getElem_toArray, List.getElem_cons_zero, List.getElem_cons_succ])
                                                refine wpAnyH_done (by kernel_rfl) ?_ _
                                                clear hHeld
                                                go_wp2_with fail
                                                go_roundw
                                                case rel => exact ⟨j + 1, by omega, by go_num, by rw [any_take hjt, HBT.out, Bool.false_or]; first | rfl | (rw [HFJ.out]; rfl), B5⟩
                                                case measure => simp [intOf]; omega
                · have e1 : (((A &&& B : Nat) : Int) != (A : Int)) = true := by rw [bne_iff_ne]; omega
                  have HFJ : Hid (f zs[j] = false) := by rw [hfj]; simp [Hid, h1]
                  clear hfj h1
                  go_wp2_with fail
                  refine wp_region_held_drew (S := (fun w' => w'.cell? ⟨w.heap.size, 1, none⟩ = some (.slice (some ⟨b, off, none⟩) zs.length cap) ∧ w'.cell? ⟨b, off + k, none⟩ = some (.int .i64 zs[k]) ∧ w'.cell? ⟨G, 0, none⟩ = some (.int .i64 (wantC vs m : Nat)) ∧ w'.cell? ⟨G, 1, none⟩ = some (.int .i64 (wantB vs m : Nat)))) (by kernel_rfl) ?_ (fun hHeld => ?_)
                  · exact ⟨d1, hck', p0, p1⟩
                  refine wpAnyH_take (i := 0) (v := ?vvt83) rfl (by kernel_rfl) (by kernel_rfl) (by kernel_rfl) (fun _ _ _ h => h) (Or.inl ⟨by rfl, ?hyt83⟩) (by assumption) ?restt83
                  case hyt83 => (intro w hSw; (try dsimp only at hSw); go_simp; (try with_reducible rfl))
                  case restt83 =>
                    (try simp only [Act.put, List.setIfInBounds_toArray, List.set_cons_zero, List.set_cons_succ, List.getElem_toArray, List.getElem_cons_zero])
                    refine wpAnyH_take (i := 1) (v := ?vvt84) rfl (by kernel_rfl) (by kernel_rfl) (by kernel_rfl) (fun _ _ _ h => h) (Or.inl ⟨by rfl, ?hyt84⟩) (by assumption) ?restt84
                    case hyt84 => (intro w hSw; (try dsimp only at hSw); go_simp; (try with_reducible rfl))
                    case restt84 =>
                      (try simp only [Act.put, List.setIfInBounds_toArray, List.set_cons_zero, List.set_cons_succ, List.getElem_toArray, List.getElem_cons_zero, List.getElem_cons_succ])
                      refine wpAnyH_take (i := 2) (v := ?vvt85) rfl (by kernel_rfl) (by kernel_rfl) (by kernel_rfl) (fun _ _ _ h => h) (Or.inl ⟨by rfl, ?hyt85⟩) (by assumption) ?restt85
                      case hyt85 => (intro w hSw; (try dsimp only at hSw); go_simp; (try with_reducible rfl))
                      case restt85 =>
                        (try simp only [Act.put, List.setIfInBounds_toArray, List.set_cons_zero, List.set_cons_succ, List.getElem_toArray, List.getElem_cons_zero, List.getElem_cons_succ])
                        refine wpAnyH_take (i := 3) (v := ?vvt86) rfl (by kernel_rfl) (by kernel_rfl) (by kernel_rfl) (fun _ _ _ h => h) (Or.inl ⟨by rfl, ?hyt86⟩) (by assumption) ?restt86
                        case hyt86 => (intro w hSw; (try dsimp only at hSw); go_simp; (try with_reducible rfl))
                        case restt86 =>
                          (try simp only [Act.put, List.setIfInBounds_toArray, List.set_cons_zero, List.set_cons_succ, List.getElem_toArray, List.getElem_cons_zero, List.getElem_cons_succ])
                          refine wpAnyH_take (i := 4) (v := ?vvt87) rfl (by kernel_rfl) (by kernel_rfl) (by kernel_rfl) (fun _ _ _ h => h) (Or.inl ⟨by rfl, ?hyt87⟩) (by assumption) ?restt87
                          case hyt87 => (intro w hSw; (try dsimp only at hSw); go_simp; (try with_reducible rfl))
                          case restt87 =>
                            (try simp only [Act.put, List.setIfInBounds_toArray, List.set_cons_zero, List.set_cons_succ, List.getElem_toArray, List.getElem_cons_zero, List.getElem_cons_succ])
                            refine wpAnyH_take (i := 5) (v := ?vvt88) rfl (by kernel_rfl) (by kernel_rfl) (by kernel_rfl) (fun _ _ _ h => h) (Or.inl ⟨by rfl, ?hyt88⟩) (by assumption) ?restt88
                            case hyt88 => (intro w hSw; (try dsimp only at hSw); go_simp; (try with_reducible rfl))
                            case restt88 =>
                              (try simp only [Act.put, List.setIfInBounds_toArray, List.set_cons_zero, List.set_cons_succ, List.getElem_toArray, List.getElem_cons_zero, List.getElem_cons_succ])
                              refine wpAnyH_ready (rs := [6]) (by kernel_rfl) (by simp) ?_
                              refine (AllReadyH.cons rfl (fun K hK => ?_) AllReadyH.nil)
                              go_simp
                              (go_at_call 49; refine (HGA.out _).mono ?_)
                              rintro e w4 ⟨rfl, b4⟩
                              have b4' := bdrew b4
                              have B4 := bnext BQ b4'
                              have e1 := (B4.cell (p := ⟨w.heap.size, 1, none⟩) hls).trans c1
                              have e2 := (B4.cell (p := ⟨b, off + k, none⟩) hbl).trans hck
                              have e2j := (B4.cell (p := ⟨b, off + j, none⟩) hbl).trans hcj
                              have e3 := (B4.cell (p := ⟨G, 0, none⟩) hG).trans q0
                              have e4 := (B4.cell (p := ⟨G, 1, none⟩) hG).trans q1
                              go_wp2_with fail
                              refine hK.out _ _ ?_ (fun hHeld => ?_)
                              · exact ⟨e1, e2, e3, e4⟩
                              clear hK K
                              (try simp only [Act.put, List.setIfInBounds_toArray, List.set_cons_zero, List.set_cons_succ, List.getElem_toArray, List.getElem_cons_zero, List.getElem_cons_succ])
                              refine wpAnyH_take (i := 7) (v := ?vvt89) rfl (by kernel_rfl) (by kernel_rfl) (by kernel_rfl) (fun _ _ _ h => h) (Or.inl ⟨by rfl, ?hyt89⟩) (by assumption) ?restt89
                              case hyt89 => (intro w hSw; (try dsimp only at hSw); go_simp; (try with_reducible rfl))
                              case restt89 =>
                                (try simp only [Act.put, List.setIfInBounds_toArray, List.set_cons_zero, List.set_cons_succ, List.getElem_toArray, List.getElem_cons_zero, List.getElem_cons_succ])
                                refine wpAnyH_done (by kernel_rfl) ?_ _
                                clear hHeld
                                go_wp2_with fail
                                refine wp_region_held_drew (S := (fun w' => w'.cell? ⟨w.heap.size, 1, none⟩ = some (.slice (some ⟨b, off, none⟩) zs.length cap) ∧ w'.cell? ⟨b, off + j, none⟩ = some (.int .i64 zs[j]) ∧ w'.cell? ⟨G, 0, none⟩ = some (.int .i64 (wantC vs m : Nat)) ∧ w'.cell? ⟨G, 1, none⟩ = some (.int .i64 (wantB vs m : Nat)))) (by kernel_rfl) ?_ (fun hHeld => ?_)
                                · exact ⟨e1, e2j, e3, e4⟩
                                refine wpAnyH_take (i := 0) (v := ?vvt76) rfl (by kernel_rfl) (by kernel_rfl) (by kernel_rfl) (fun _ _ _ h => h) (Or.inl ⟨by rfl, ?hyt76⟩) (by assumption) ?restt76
                                case hyt76 => (intro w hSw; (try dsimp only at hSw); go_simp; (try with_reducible rfl))
                                case restt76 =>
                                  (try simp only [Act.put, List.setIfInBounds_toArray, List.set_cons_zero, List.set_cons_succ, List.getElem_toArray, List.getElem_cons_zero])
                                  refine wpAnyH_take (i := 1) (v := ?vvt77) rfl (by kernel_rfl) (by kernel_rfl) (by kernel_rfl) (fun _ _ _ h => h) (Or.inl ⟨by rfl, ?hyt77⟩) (by assumption) ?restt77
                                  case hyt77 => (intro w hSw; (try dsimp only at hSw); go_simp; (try with_reducible rfl))
                                  case restt77 =>
                                    (try simp only [Act.put, List.setIfInBounds_toArray, List.set_cons_zero, List.set_cons_succ, List.getElem_toArray, List.getElem_cons_zero, List.getElem_cons_succ])
                                    refine wpAnyH_take (i := 2) (v := ?vvt78) rfl (by kernel_rfl) (by kernel_rfl) (by kernel_rfl) (fun _ _ _ h => h) (Or.inl ⟨by rfl, ?hyt78⟩) (by assumption) ?restt78
                                    case hyt78 => (intro w hSw; (try dsimp only at hSw); go_simp; (try with_reducible rfl))
                                    case restt78 =>
                                      (try simp only [Act.put, List.setIfInBounds_toArray, List.set_cons_zero, List.set_cons_succ, List.getElem_toArray, List.getElem_cons_zero, List.getElem_cons_succ])
                                      refine wpAnyH_take (i := 3) (v := ?vvt79) rfl (by kernel_rfl) (by kernel_rfl) (by kernel_rfl) (fun _ _ _ h => h) (Or.inl ⟨by rfl, ?hyt79⟩) (by assumption) ?restt79
                                      case hyt79 => (intro w hSw; (try dsimp only at hSw); go_simp; (try with_reducible rfl))
                                      case restt79 =>
                                        (try simp only [Act.put, List.setIfInBounds_toArray, List.set_cons_zero, List.set_cons_succ, List.getElem_toArray, List.getElem_cons_zero, List.getElem_cons_succ])
                                        refine wpAnyH_take (i := 4) (v := ?vvt80) rfl (by kernel_rfl) (by kernel_rfl) (by kernel_rfl) (fun _ _ _ h => h) (Or.inl ⟨by rfl, ?hyt80⟩) (by assumption) ?restt80
                                        case hyt80 => (intro w hSw; (try dsimp only at hSw); go_simp; (try with_reducible rfl))
                                        case restt80 =>
                                          (try simp only [Act.put, List.setIfInBounds_toArray, List.set_cons_zero, List.set_cons_succ, List.getElem_toArray, List.getElem_cons_zero, List.getElem_cons_succ])
                                          refine wpAnyH_take (i := 5) (v := ?vvt81) rfl (by kernel_rfl) (by kernel_rfl) (by kernel_rfl) (fun _ _ _ h => h) (Or.inl ⟨by rfl, ?hyt81⟩) (by assumption) ?restt81
                                          case hyt81 => (intro w hSw; (try dsimp only at hSw); go_simp; (try with_reducible rfl))
                                          case restt81 =>
                                            (try simp only [Act.put, List.setIfInBounds_toArray, List.set_cons_zero, List.set_cons_succ, List.getElem_toArray, List.getElem_cons_zero, List.getElem_cons_succ])
                                            refine wpAnyH_ready (rs := [6]) (by kernel_rfl) (by simp) ?_
                                            refine (AllReadyH.cons rfl (fun K hK => ?_) AllReadyH.nil)
                                            go_simp
                                            (go_at_call 49; refine (HGB.out _).mono ?_)
                                            rintro e w5 ⟨rfl, b5⟩
                                            have b5' := bdrew b5
                                            have B5 := bnext B4 b5'
                                            have g1 := (B5.cell (p := ⟨w.heap.size, 1, none⟩) hls).trans c1
                                            have g2 := (B5.cell (p := ⟨b, off + j, none⟩) hbl).trans hcj
                                            have g3 := (B5.cell (p := ⟨G, 0, none⟩) hG).trans q0
                                            have g4 := (B5.cell (p := ⟨G, 1, none⟩) hG).trans q1
                                            go_wp2_with fail
                                            refine hK.out _ _ ?_ (fun hHeld => ?_)
                                            · exact ⟨g1, g2, g3, g4⟩
                                            clear hK K
                                            (try simp only [Act.put, List.setIfInBounds_toArray, List.set_cons_zero, List.set_cons_succ, List.getElem_toArray, List.getElem_cons_zero, List.getElem_cons_succ])
                                            refine wpAnyH_take (i := 7) (v := ?vvt82) rfl (by kernel_rfl) (by kernel_rfl) (by kernel_rfl) (fun _ _ _ h => h) (Or.inl ⟨by rfl, ?hyt82⟩) (by assumption) ?restt82
                                            case hyt82 => (intro w hSw; (try dsimp only at hSw); go_simp; (try with_reducible rfl))
                                            case restt82 =>
                                              (try simp only [Act.put, List.setIfInBounds_toArray, List.set_cons_zero, List.set_cons_succ, List.getElem_toArray, List.getElem_cons_zero, List.getElem_cons_succ])
                                              refine wpAnyH_done (by kernel_rfl) ?_ _
                                              clear hHeld
                                              go_wp2_with fail
                                              go_roundw
                                              case rel => exact ⟨j + 1, by omega, by go_num, by rw [any_take hjt, HBT.out, Bool.false_or]; first | rfl | (rw [HFJ.out]; rfl), B5⟩
                                              case measure => simp [intOf]; omega
            · obtain rfl : j = zs.length := by omega
              have hown : wr.ownsRow wo.heap.size 3 1 u6 ((zs.take k).filter (unbP (fun y x => keptB (wantC vs m) (wantB vs m) y x) zs)).length (((zs.take k).filter (unbP (fun y x => keptB (wantC vs m) (wantB vs m) y x) zs)).map (Value.int .i64)) := HOWN.out.below BQ
              have hck' := (BQ.cell (p := ⟨b, off + k, none⟩) hbl).trans hck
              have hsq := BQ.size
              have hsr := BR.size
              have BRQ := bnext BR BQ
              by_cases hu : zs.any f = true
              · have HU' := hide hu
                rw [List.take_length, hu]
                clear hu
                go_wp2
                go_roundw
                case rel => exact ⟨k + 1, by omega, by go_num, by rw [hft.out, HU.out, HU'.out, if_neg (by decide), List.append_nil]; exact hown, BRQ⟩
                case measure => simp only [intOf]; omega
              · have hu : zs.any f = false := by simpa using hu
                have HU' := hide hu
                rw [List.take_length, hu]
                clear hu
                go_wp2_with ((at_builtin; refine wpList_append_own _ rfl _ _ 22 rfl wo.heap.size 3 i0 (.int .i64 0) 1 8 Try.underlying22 hi0 hz0 hz1 hz2 rfl (by decide) _ _ _ rfl (hown.alloc _) ⟨wr.heap.size, 0, none⟩ 1 1 [.int .i64 zs[k]] rfl rfl ?c1 ?c2 ?c3 ?c4 ?c5 ?_))
                case c1 => exact cell_one_new _ _ _
                case c2 => intro u hu; simp at hu; subst hu; rfl
                case c3 => unfold maxLen; omega
                case c4 => omega
                case c5 => simp; omega
                intro v' w2 hown' hgrow _
                have hpush := hide (Owns.push hown')
                have hbel : Below wo.heap.size wo w2 := (BRQ.alloc (by omega) _).grown hgrow (by simp; omega) (fun j hj => own_ge hown j hj)
                clear hown' hgrow hown
                go_wp2
                go_roundw
                case rel => exact ⟨k + 1, by omega, by go_num, by rw [hft.out, HU.out, HU'.out, if_pos (by decide)]; exact hpush.out, hbel⟩
                case measure => simp only [intOf]; omega
        · obtain rfl : k = zs.length := by omega
          rw [List.take_length] at hown
          go_wp2
          go_ret
          exact ⟨_, rfl, by rw [HN.out, Int.toNat_natCast]; exact hown.le SR.2.2.2.size, bnext SR.2.2.2 BR⟩
end Go.Proofs.Ytcophcjkhdipbaa
