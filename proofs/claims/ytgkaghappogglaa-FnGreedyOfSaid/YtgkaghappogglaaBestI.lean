/- BestOf of the program. -/
import Derived.Test.YtgkaghappogglaaBest
import Derived.Deep.RegionWith
import Derived.OneCell
import Derived.Deep.RegionHeld3
namespace Go.Proofs.Ytgkaghappogglaa
open Go.RowKit Go.Joins

theorem bestPick_eq (q : Nat) (bs zs : List Int) (h : 0 < zs.length) : zs.filter (bestIs q bs (mxN (scF q bs) zs zs.length)) = bestL q bs zs := by
  unfold bestL outK
  rw [List.take_length, mxI_pos _ _ _ h]
  rfl
theorem setCell_far {w : World} {p : Addr} {u v : Value} {g : Nat} (h : w.cell? ⟨g, 0, none⟩ = some v) (hne : g ≠ p.block) : (w.setCell p u).cell? ⟨g, 0, none⟩ = some v := by
  rw [World.cell?_setCell_far _ _ _ _ (fun e => hne e.symm)]
  exact h
set_option maxHeartbeats 8000000 in
set_option maxRecDepth 100000 in
theorem implBest_any (s : ByteArray) (c : Int) (a : Option Addr) (cap : Nat) (bs : List Int) (k : Int) (w : World) (hi : Ints w a bs) (hn : bs.length ≤ 1048576) :
    Calls Try.prog 34 #[.string s, .int .i64 c, .slice a bs.length cap, .int .i64 k] w (Gives (bestA s c bs k) w) := by
  by_cases hk : kindN s < 4
  · have HK := hide hk
    by_cases hv : balB c bs = true
    · have HC := hide (bal_of hv).1
      by_cases hs : 1 ≤ k ∧ k ≤ c
      · have hsb : seatsB c bs k = true := (seatsB_yes hv).trans (decide_eq_true hs)
        have hS := seats_of hsb
        have hl6 : bs.length ≤ 6 := by have := hS.1.2.1; omega
        have hl1 : 1 ≤ bs.length := by have := hS.1.2.1; omega
        have hM := pow_le5 c hS.1.1.2
        have HR := hide (bal_range hS.1)
        have HP := hide (comL_pos hS.1.1 hS.2)
        have HCA := hide (comA_yes ⟨hS.1.1, hS.2⟩)
        have HN := hide (bestA_yes hsb hk)
        have HS := hide hs
        clear hS hs hk hsb
        go_enter Try.func34, Try.ntmps34
        go_wp2_with (go_at_call 73; refine (scoreNamed_yes _ _ HK.out).mono ?_; rintro e w' ⟨rfl, rfl⟩)
        refine (implBal_any _ _ _ _ _ (hi.below (bel2 w _ _)) hn).mono ?_
        rintro e w1 ⟨rfl, hb1⟩
        have bb1 := Box1.below (v := .slice a bs.length cap) (g := w.heap.size) ⟨by simp; omega, by simp [go_sem]⟩ hb1
        have bk1 := Box1.below (v := Value.iface (kindT (kindN s)) (.agg #[])) (g := w.heap.size + 1) ⟨by simp, by simp [go_sem]⟩ hb1
        have B1 := bnext (bel2 w _ _) hb1
        clear hb1
        go_wp2_with (go_at_call 68; refine (validSeats_yes _ _ _ HS.out).mono ?_; rintro e w' ⟨rfl, rfl⟩)
        refine (implCommitteesOf_any _ _ _).mono ?_
        rintro e w2 ⟨vl, rfl, ownl, hb2⟩
        rw [HCA.out] at ownl
        obtain ⟨zs, hzs⟩ : ∃ zs, zs = comL (2 ^ c.toNat) k := ⟨_, rfl⟩
        have hzl : zs.length ≤ 32 := by rw [hzs]; exact Nat.le_trans (comL_len _ _) hM
        have HZ : Hid (∀ z ∈ zs, 0 ≤ z ∧ z ≤ 31) := fun z hz => by rw [hzs] at hz; have := comL_mem hz; omega
        rw [← hzs] at ownl HN HP
        have hzp : 0 < zs.length := HP.out
        obtain ⟨al, cl, rfl, il, _⟩ := ownl.form
        have bb2 := bb1.below hb2
        have bk2 := bk1.below hb2
        have B2 := bnext B1 hb2
        have hio := hi.below B2
        obtain ⟨wo, hwo⟩ : ∃ wo : World, wo = w2 := ⟨_, rfl⟩
        rw [← hwo] at il bb2 bk2 B2 hio ⊢
        have hone : (wo.alloc (.cells #[.int .i64 0] 3)).heap[wo.heap.size]? = some (.cells #[.int .i64 ((mxN (scF (kindN s) bs) zs 0 : Nat) : Int)] 3 (0, 0)) := heap_alloc_new wo _
        have hba := bel1 wo (.cells #[.int .i64 0] 3)
        have HONE := hide hone
        have HBB := hide bb2
        have HBK := hide bk2
        have HQ4 := hide (show kindN s < 4 from HK.out)
        clear hone bb2 bk2 bb1 bk1 B1 hb2 ownl hzs hM hwo hi
        go_wp2
        go_loopw [39] (fun i wr => ∃ t : Nat, t ≤ zs.length ∧ i = .int .i64 t ∧ Hid (wr.heap[wo.heap.size]? = some (.cells #[.int .i64 ((mxN (scF (kindN s) bs) zs t : Nat) : Int)] 3 (0, 0))) ∧ Below wo.heap.size wo wr) (fun i _ => zs.length - (intOf i).toNat)
        case atStart => exact ⟨0, Nat.zero_le _, rfl, HONE.out, hba⟩
        case round =>
          clear HONE hba
          obtain ⟨t, ht, rfl, HH, BR⟩ := hrel
          by_cases hlt : t < zs.length
          · obtain ⟨b, off, rfl, hbl, hc⟩ := (il.below BR) (by omega)
            have hck := hc t hlt
            rw [getD_lt hlt] at hck
            have hz := HZ.out _ (mem_of_at hlt)
            have HSt : Hid (mxN (scF (kindN s) bs) zs (t + 1) = max (mxN (scF (kindN s) bs) zs t) (scF (kindN s) bs zs[t])) := by unfold Hid; rw [mxN, getD_lt hlt]
            have hfl := scF_le (kindN s) bs zs[t]
            have hml := mxN_le (kindN s) bs zs t
            obtain ⟨y, hy⟩ := Int.eq_ofNat_of_zero_le hz.1
            have hy32 : y < 32 := by omega
            have HSc : Hid (scoreV (kindN s) bs y = scF (kindN s) bs zs[t]) := by
              unfold Hid scF
              rw [hy]
              rfl
            obtain ⟨fz, hfz⟩ : ∃ fz, fz = scF (kindN s) bs zs[t] := ⟨_, rfl⟩
            obtain ⟨mx, hmx⟩ : ∃ mx, mx = mxN (scF (kindN s) bs) zs t := ⟨_, rfl⟩
            rw [← hfz] at HSt hfl HSc
            rw [← hmx] at HSt hml HH
            have hsz := lt_of_block HH.out
            have iol := hio.below BR
            have HB2 := hide (HBB.out.below BR)
            have HK2 := hide (HBK.out.below BR)
            rw [hy] at hck
            clear hc hz hfz hmx hy il hio
            have ⟨_, c9⟩ := HK2.out
            have ⟨_, c6⟩ := HB2.out
            have c12 := cell_of_one HH.out
            have cond : (mx < fz ∧ Hid (max mx fz = fz)) ∨ (¬ mx < fz ∧ Hid (max mx fz = mx)) := by
              by_cases h : mx < fz
              · exact .inl ⟨h, show max mx fz = fz by omega⟩
              · exact .inr ⟨h, show max mx fz = mx by omega⟩
            go_wp2
            rcases cond with ⟨hmf, HM⟩ | ⟨hmf, HM⟩
            all_goals
              refine wp_region_held_drew (S := (fun w' => w'.cell? ⟨w.heap.size + 1, 0, none⟩ = some (Value.iface (kindT (kindN s)) (.agg #[])) ∧ w'.cell? ⟨w.heap.size, 0, none⟩ = some (.slice a bs.length cap))) (by kernel_rfl) ?_ (fun hHeld => ?_)
              · exact ⟨HK2.out.2, HB2.out.2⟩
              refine wpAnyH_take (i := 1) (v := ?vvt1) rfl (by kernel_rfl) (by kernel_rfl) (by kernel_rfl) (fun _ _ _ h => h) (Or.inl ⟨by rfl, ?hyt1⟩) (by assumption) ?restt1
              case hyt1 => (intro w hSw; (try dsimp only at hSw); go_simp; (try with_reducible rfl))
              case restt1 =>
                (try simp only [Act.put, List.setIfInBounds_toArray, List.set_cons_zero, List.set_cons_succ, List.getElem_toArray, List.getElem_cons_zero, List.getElem_cons_succ])
                refine wpAnyH_take (i := 2) (v := ?vvt2) rfl (by kernel_rfl) (by kernel_rfl) (by kernel_rfl) (fun _ _ _ h => h) (Or.inl ⟨by rfl, ?hyt2⟩) (by assumption) ?restt2
                case hyt2 => (intro w hSw; (try dsimp only at hSw); go_simp; (try with_reducible rfl))
                case restt2 =>
                  (try simp only [Act.put, List.setIfInBounds_toArray, List.set_cons_zero, List.set_cons_succ, List.getElem_toArray, List.getElem_cons_zero, List.getElem_cons_succ])
                  refine wpAnyH_take (i := 3) (v := ?vvt3) rfl (by kernel_rfl) (by kernel_rfl) (by kernel_rfl) (fun _ _ _ h => h) (Or.inl ⟨by rfl, ?hyt3⟩) (by assumption) ?restt3
                  case hyt3 => (intro w hSw; (try dsimp only at hSw); go_simp; (try with_reducible rfl))
                  case restt3 =>
                    (try simp only [Act.put, List.setIfInBounds_toArray, List.set_cons_zero, List.set_cons_succ, List.getElem_toArray, List.getElem_cons_zero, List.getElem_cons_succ])
                    refine wpAnyH_ready (rs := [0, 4]) (by kernel_rfl) (by simp) ?_
                    refine (AllReadyH.cons rfl (fun K hK => ?_) (AllReadyH.cons rfl (fun K hK => ?_) AllReadyH.nil))
                    · go_simp
                      (try go_wp2_with fail)
                      refine hK.out _ _ ?_ (fun hHeld => ?_)
                      · exact hHeld
                      clear hK K
                      (try simp only [Act.put, List.setIfInBounds_toArray, List.set_cons_zero, List.set_cons_succ, List.getElem_toArray, List.getElem_cons_zero])
                      refine wpAnyH_ready (rs := [4]) (by kernel_rfl) (by simp) ?_
                      refine (AllReadyH.cons rfl (fun K hK => ?_) AllReadyH.nil)
                      go_simp
                      (go_at_call 74; (with_reducible refine (scored_any _ HQ4.out _ _ _ _ _ (iol.below (bdrew' (Below.refl _ _))) hl6 hl1 HR.out hy32).mono ?_); rintro e w5 ⟨rfl, hb5⟩; rw [HSc.out]; have hb6 := bdrew hb5; have HH6 := hide ((hb6.block _ hsz).trans HH.out); have d12 := cell_of_one HH6.out; have f12 := free_of_one HH6.out; have K6 := hide (HK2.out.below hb6); have Bx6 := hide (HB2.out.below hb6); clear hb5)
                      go_wp2_with fail
                      refine hK.out _ _ ?_ (fun hHeld => ?_)
                      · exact ⟨K6.out.2, Bx6.out.2⟩
                      clear hK K
                      (try simp only [Act.put, List.setIfInBounds_toArray, List.set_cons_zero, List.set_cons_succ, List.getElem_toArray, List.getElem_cons_zero, List.getElem_cons_succ])
                      refine wpAnyH_ready (rs := [5]) (by kernel_rfl) (by simp) ?_
                      refine (AllReadyH.cons rfl (fun K hK => ?_) AllReadyH.nil)
                      go_simp
                      (try go_wp2_with fail)
                      refine hK.out _ _ ?_ (fun hHeld => ?_)
                      · exact ⟨K6.out.2, Bx6.out.2⟩
                      clear hK K
                      (try simp only [Act.put, List.setIfInBounds_toArray, List.set_cons_zero, List.set_cons_succ, List.getElem_toArray, List.getElem_cons_zero, List.getElem_cons_succ])
                      refine wpAnyH_ready (rs := [6]) (by kernel_rfl) (by simp) ?_
                      refine (AllReadyH.cons rfl (fun K hK => ?_) AllReadyH.nil)
                      go_simp
                      (try go_wp2_with fail)
                      refine hK.out _ _ ?_ (fun hHeld => ?_)
                      · exact ⟨(setCell_far K6.out.2 (by have h := HBK.out.1; dsimp only; omega)), (setCell_far Bx6.out.2 (by have h := HBB.out.1; have h2 := HBK.out.1; dsimp only; omega))⟩
                      clear hK K
                      (try simp only [Act.put, List.setIfInBounds_toArray, List.set_cons_zero, List.set_cons_succ, List.getElem_toArray, List.getElem_cons_zero, List.getElem_cons_succ])
                      refine wpAnyH_done (by kernel_rfl) ?_ _
                      go_wp2
                      go_roundw
                      case rel => exact ⟨t + 1, by omega, by go_num, show _ = _ by rw [HSt.out, HM.out]; exact one_setCell HH6.out, (BR.trans (hb6.mono BR.size)).setCell (p := ⟨wo.heap.size, 0, none⟩) (Nat.le_refl _) _⟩
                      case measure => simp only [intOf]; omega
                    · go_simp
                      (go_at_call 74; (with_reducible refine (scored_any _ HQ4.out _ _ _ _ _ (iol.below (bdrew' (Below.refl _ _))) hl6 hl1 HR.out hy32).mono ?_); rintro e w5 ⟨rfl, hb5⟩; rw [HSc.out]; have hb6 := bdrew hb5; have HH6 := hide ((hb6.block _ hsz).trans HH.out); have d12 := cell_of_one HH6.out; have f12 := free_of_one HH6.out; have K6 := hide (HK2.out.below hb6); have Bx6 := hide (HB2.out.below hb6); clear hb5)
                      go_wp2_with fail
                      refine hK.out _ _ ?_ (fun hHeld => ?_)
                      · exact ⟨K6.out.2, Bx6.out.2⟩
                      clear hK K
                      (try simp only [Act.put, List.setIfInBounds_toArray, List.set_cons_zero, List.set_cons_succ, List.getElem_toArray, List.getElem_cons_zero, List.getElem_cons_succ])
                      refine wpAnyH_ready (rs := [0]) (by kernel_rfl) (by simp) ?_
                      refine (AllReadyH.cons rfl (fun K hK => ?_) AllReadyH.nil)
                      go_simp
                      (try go_wp2_with fail)
                      refine hK.out _ _ ?_ (fun hHeld => ?_)
                      · exact ⟨K6.out.2, Bx6.out.2⟩
                      clear hK K
                      (try simp only [Act.put, List.setIfInBounds_toArray, List.set_cons_zero, List.set_cons_succ, List.getElem_toArray, List.getElem_cons_zero])
                      refine wpAnyH_ready (rs := [5]) (by kernel_rfl) (by simp) ?_
                      refine (AllReadyH.cons rfl (fun K hK => ?_) AllReadyH.nil)
                      go_simp
                      (try go_wp2_with fail)
                      refine hK.out _ _ ?_ (fun hHeld => ?_)
                      · exact ⟨K6.out.2, Bx6.out.2⟩
                      clear hK K
                      (try simp only [Act.put, List.setIfInBounds_toArray, List.set_cons_zero, List.set_cons_succ, List.getElem_toArray, List.getElem_cons_zero, List.getElem_cons_succ])
                      refine wpAnyH_ready (rs := [6]) (by kernel_rfl) (by simp) ?_
                      refine (AllReadyH.cons rfl (fun K hK => ?_) AllReadyH.nil)
                      go_simp
                      (try go_wp2_with fail)
                      refine hK.out _ _ ?_ (fun hHeld => ?_)
                      · exact ⟨(setCell_far K6.out.2 (by have h := HBK.out.1; dsimp only; omega)), (setCell_far Bx6.out.2 (by have h := HBB.out.1; have h2 := HBK.out.1; dsimp only; omega))⟩
                      clear hK K
                      (try simp only [Act.put, List.setIfInBounds_toArray, List.set_cons_zero, List.set_cons_succ, List.getElem_toArray, List.getElem_cons_zero, List.getElem_cons_succ])
                      refine wpAnyH_done (by kernel_rfl) ?_ _
                      go_wp2
                      go_roundw
                      case rel => exact ⟨t + 1, by omega, by go_num, show _ = _ by rw [HSt.out, HM.out]; exact one_setCell HH6.out, (BR.trans (hb6.mono BR.size)).setCell (p := ⟨wo.heap.size, 0, none⟩) (Nat.le_refl _) _⟩
                      case measure => simp only [intOf]; omega
          · obtain rfl : t = zs.length := by omega
            have BM : Box1 wr wo.heap.size (.int .i64 ((mxN (scF (kindN s) bs) zs zs.length : Nat) : Int)) := ⟨lt_of_block HH.out, cell_of_one HH.out⟩
            have BB := HBB.out.below BR
            have BK := HBK.out.below BR
            have io2 := hio.below BR
            have ilr := il.below BR
            have HFL : Hid (zs.filter (bestIs (kindN s) bs (mxN (scF (kindN s) bs) zs zs.length)) = bestL (kindN s) bs zs) := bestPick_eq _ _ _ hzp
            go_wp2_with fail
            refine (pickedBest_any (bestIs (kindN s) bs (mxN (scF (kindN s) bs) zs zs.length)) _ _ _ _ _ _ _ ilr (by omega) (fun z w' hz hb' => bestPick_any (kindN s) HQ4.out a cap bs _ z _ _ _ _ (io2.below hb') hl6 hl1 HR.out (HZ.out z hz) (BK.below hb') (BB.below hb') (BM.below hb'))).mono ?_
            rintro e w6 ⟨v6, rfl, own6, hb6⟩
            go_wp2
            go_ret
            exact ⟨_, rfl, by rw [HN.out, ← HFL.out]; exact own6.le (Nat.le_trans B2.size BR.size), bnext (bnext B2 BR) hb6⟩
      · have HN := hide (bestA_seats (s := s) ((seatsB_yes hv).trans (decide_eq_false hs)))
        have HS := hide hs
        clear hs hk
        go_enter Try.func34, Try.ntmps34
        go_wp2_with (go_at_call 73; refine (scoreNamed_yes _ _ HK.out).mono ?_; rintro e w' ⟨rfl, rfl⟩)
        refine (implBal_any _ _ _ _ _ (hi.below (bel2 w _ _)) hn).mono ?_
        rintro e w1 ⟨rfl, hb1⟩
        go_wp2_with (go_at_call 68; refine (validSeats_no _ _ _ HS.out).mono ?_; rintro e w' ⟨rfl, rfl⟩)
        go_ret
        exact gives_nil HN.out (bnext (bel2 w _ _) hb1)
    · have hv : balB c bs = false := by simpa using hv
      have HN := hide (bestA_seats (s := s) (seatsB_no (k := k) hv))
      clear hk
      go_enter Try.func34, Try.ntmps34
      go_wp2_with (go_at_call 73; refine (scoreNamed_yes _ _ HK.out).mono ?_; rintro e w' ⟨rfl, rfl⟩)
      refine (implBal_any _ _ _ _ _ (hi.below (bel2 w _ _)) hn).mono ?_
      rintro e w1 ⟨rfl, hb1⟩
      go_wp2
      go_ret
      exact gives_nil HN.out (bnext (bel2 w _ _) hb1)
  · have HN := hide (bestA_name (c := c) (bs := bs) (k := k) hk)
    have HK := hide hk
    clear hk
    go_enter Try.func34, Try.ntmps34
    go_wp2_with (go_at_call 73; refine (scoreNamed_no _ _ HK.out).mono ?_; rintro e w' ⟨rfl, rfl⟩)
    go_ret
    exact gives_nil HN.out (bel2 w _ _)
end Go.Proofs.Ytgkaghappogglaa
