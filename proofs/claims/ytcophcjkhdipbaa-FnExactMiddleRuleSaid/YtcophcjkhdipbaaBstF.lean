/- bestBy by isNearerToFarthest, and MiddleRule of the program. -/
import Derived.Test.YtcophcjkhdipbaaUnbF
import Derived.Test.YtcophcjkhdipbaaPoll
import Derived.Test.YtcophcjkhdipbaaBestD
import Derived.Deep.DeepCutAuto
import Derived.Laws.EntriesVeiled
namespace Go.Proofs.Ytcophcjkhdipbaa
open Go.RowKit Go.Joins

set_option maxRecDepth 100000 in
set_option maxHeartbeats 4000000 in
theorem bestByF_any (n : Int) (a l : Option Addr) (cap capl : Nat) (zs vs : List Int) (w : World) (hi : Ints w a zs) (hj : Ints w l vs) (hn : zs.length ≤ 1048576) (hm : vs.length ≤ 1048576) :
    Calls Try.prog 46 #[.int .i64 1, .agg #[.int .i64 n, .slice a zs.length cap], .slice l vs.length capl] w (Gives (bestF n zs vs) w) := by
  have S0 := SV.new w n a zs cap l vs 27 hi hj
  clear hi hj
  by_cases hv : vvB n zs vs = false
  · have HN := hide (bestF_no hv)
    have HV := hide hv
    clear hv
    obtain ⟨⟨_, c0, c1⟩, _⟩ := S0.pair
    go_enter Try.func46, Try.ntmps46
    go_wp2_with fail
    refine (implVotes_is _ _ _ _ _ _ _ _ false S0.2.1 S0.2.2.1 hn hm HV.out).mono ?_
    rintro e w1 ⟨rfl, hb⟩
    go_wp2
    go_ret
    exact gives_nil HN.out (S0.below hb).2.2.2
  · have hv : vvB n zs vs = true := by simpa using hv
    have hV := vv_of hv
    obtain ⟨m, rfl⟩ := Int.eq_ofNat_of_zero_le (show 0 ≤ n from by have := hV.1.1; omega)
    have h4 : m ≤ 4 := by have := hV.1.1; omega
    have h5 : vs.length ≤ 5 := by have := hV.2.2; omega
    have HZ := hide (valid_range hV.1)
    have HR := hide (votes_range hV.1 hV.2)
    have HN := hide (show bestF (m : Int) zs vs = unbL (fun y x => decide (farN vs y < farN vs x)) zs from bestF_yes hv)
    have HV := hide hv
    have HC := hide (wpC_yes hv)
    have HB := hide (wpB_yes hv)
    have H16 := hide (want_16 vs m h4)
    clear hv hV
    obtain ⟨⟨_, c0, c1⟩, _⟩ := S0.pair
    go_enter Try.func46, Try.ntmps46
    go_wp2_with fail
    refine (implVotes_is _ _ _ _ _ _ _ _ true S0.2.1 S0.2.2.1 hn hm HV.out).mono ?_
    rintro e w1 ⟨rfl, hb⟩
    have S1 := S0.below hb
    clear S0 hb c0 c1
    obtain ⟨⟨_, c0, c1⟩, _⟩ := S1.pair
    go_wp2_with fail
    go_cut [7] (fun v wx => ∃ g : Nat, v = .pointer (some ⟨g, 0, none⟩) ∧ w1.heap.size ≤ g ∧ wx.heap[g]? = some (.cells #[.int .i64 m, .slice a zs.length cap, .slice l vs.length capl, .int .i64 (wantC vs m : Nat), .int .i64 (wantB vs m : Nat)] 61 (0, 0)) ∧ Below w1.heap.size w1 wx)
    case first =>
      refine wp_region_held_drew (S := (fun w' => w'.cell? ⟨w.heap.size, 0, none⟩ = some (.int .i64 m) ∧ w'.cell? ⟨w.heap.size, 1, none⟩ = some (.slice a zs.length cap))) (by kernel_rfl) ?_ (fun hHeld => ?_)
      · exact ⟨c0, c1⟩
      refine wpAnyH_take (i := 0) (v := ?vvt1) rfl (by kernel_rfl) (by kernel_rfl) (by kernel_rfl) (fun _ _ _ h => h) (Or.inl ⟨by rfl, ?hyt1⟩) (by assumption) ?restt1
      case hyt1 => (intro w hSw; (try dsimp only at hSw); go_simp; (try with_reducible rfl))
      case restt1 =>
        (try simp only [Act.put, List.setIfInBounds_toArray, List.set_cons_zero, List.set_cons_succ, List.getElem_toArray, List.getElem_cons_zero])
        refine wpAnyH_take (i := 1) (v := ?vvt2) rfl (by kernel_rfl) (by kernel_rfl) (by kernel_rfl) (fun _ _ _ h => h) (Or.inl ⟨by rfl, ?hyt2⟩) (by assumption) ?restt2
        case hyt2 => (intro w hSw; (try dsimp only at hSw); go_simp; (try with_reducible rfl))
        case restt2 =>
          (try simp only [Act.put, List.setIfInBounds_toArray, List.set_cons_zero, List.set_cons_succ, List.getElem_toArray, List.getElem_cons_zero, List.getElem_cons_succ])
          refine wpAnyH_take (i := 2) (v := ?vvt3) rfl (by kernel_rfl) (by kernel_rfl) (by kernel_rfl) (fun _ _ _ h => h) (Or.inl ⟨by rfl, ?hyt3⟩) (by assumption) ?restt3
          case hyt3 => (intro w hSw; (try dsimp only at hSw); go_simp; (try with_reducible rfl))
          case restt3 =>
            (try simp only [Act.put, List.setIfInBounds_toArray, List.set_cons_zero, List.set_cons_succ, List.getElem_toArray, List.getElem_cons_zero, List.getElem_cons_succ])
            refine wpAnyH_take (i := 3) (v := ?vvt4) rfl (by kernel_rfl) (by kernel_rfl) (by kernel_rfl) (fun _ _ _ h => h) (Or.inl ⟨by rfl, ?hyt4⟩) (by assumption) ?restt4
            case hyt4 => (intro w hSw; (try dsimp only at hSw); go_simp; (try with_reducible rfl))
            case restt4 =>
              (try simp only [Act.put, List.setIfInBounds_toArray, List.set_cons_zero, List.set_cons_succ, List.getElem_toArray, List.getElem_cons_zero, List.getElem_cons_succ])
              refine wpAnyH_ready (rs := [4, 6]) (by kernel_rfl) (by simp) ?_
              refine (AllReadyH.cons rfl (fun K hK => ?_) (AllReadyH.cons rfl (fun K hK => ?_) AllReadyH.nil))
              · go_simp
                (go_at_call 30; refine (implWanted_any _ _ _ _ _ _ _ _ (S1.drew).2.1 (S1.drew).2.2.1 hn hm).mono ?_)
                rintro e w2 ⟨rfl, hb2⟩
                have S2 := S1.drew.below hb2
                have B2 := hide (bdrew hb2)
                rw [HC.out, HB.out, Int.toNat_natCast]
                go_wp2_with fail
                refine hK.out _ _ ?_ (fun hHeld => ?_)
                · exact S2.1.2
                clear hK K
                (try simp only [Act.put, List.setIfInBounds_toArray, List.set_cons_zero, List.set_cons_succ, List.getElem_toArray, List.getElem_cons_zero, List.getElem_cons_succ])
                refine wpAnyH_take (i := 5) (v := ?vvt5) rfl (by kernel_rfl) (by kernel_rfl) (by kernel_rfl) (fun _ _ _ h => h) (Or.inl ⟨by rfl, ?hyt5⟩) (by assumption) ?restt5
                case hyt5 => (intro w hSw; (try dsimp only at hSw); go_simp; (try with_reducible rfl))
                case restt5 =>
                  (try simp only [Act.put, List.setIfInBounds_toArray, List.set_cons_zero, List.set_cons_succ, List.getElem_toArray, List.getElem_cons_zero, List.getElem_cons_succ])
                  refine wpAnyH_ready (rs := [6]) (by kernel_rfl) (by simp) ?_
                  refine (AllReadyH.cons rfl (fun K hK => ?_) AllReadyH.nil)
                  go_simp
                  refine hK.out _ _ ?_ (fun hHeld => ?_)
                  · exact (S2.below (bel1 w2 (.cells #[.int .i64 0, .slice none 0 0, .slice none 0 0, .int .i64 0, .int .i64 0] 61))).1.2
                  clear hK K
                  (try simp only [Act.put, List.setIfInBounds_toArray, List.set_cons_zero, List.set_cons_succ, List.getElem_toArray, List.getElem_cons_zero, List.getElem_cons_succ])
                  refine wpAnyH_ready (rs := [7]) (by kernel_rfl) (by simp) ?_
                  refine (AllReadyH.cons rfl (fun K hK => ?_) AllReadyH.nil)
                  go_simp
                  have SA := S2.below (bel1 w2 (.cells #[.int .i64 m, .slice a zs.length cap, .slice l vs.length capl, .int .i64 (wantC vs m : Nat), .int .i64 (wantB vs m : Nat)] 61))
                  refine hK.out _ _ ?_ (fun hHeld => ?_)
                  · exact SA.1.2
                  clear hK K
                  (try simp only [Act.put, List.setIfInBounds_toArray, List.set_cons_zero, List.set_cons_succ, List.getElem_toArray, List.getElem_cons_zero, List.getElem_cons_succ])
                  refine wpAnyH_done (by kernel_rfl) ?_ _
                  go_wp2_with fail
                  go_meet
                  exact ⟨_, rfl, B2.out.size, heap_alloc_new w2 _, bnext B2.out (bel1 w2 _)⟩
              · go_simp
                have S2 := S1.below (bdrew' (bel1 w1 (.cells #[.int .i64 0, .slice none 0 0, .slice none 0 0, .int .i64 0, .int .i64 0] 61)))
                refine hK.out _ _ ?_ (fun hHeld => ?_)
                · exact S2.1.2
                clear hK K
                (try simp only [Act.put, List.setIfInBounds_toArray, List.set_cons_zero, List.set_cons_succ, List.getElem_toArray, List.getElem_cons_zero, List.getElem_cons_succ])
                refine wpAnyH_ready (rs := [4]) (by kernel_rfl) (by simp) ?_
                refine (AllReadyH.cons rfl (fun K hK => ?_) AllReadyH.nil)
                go_simp
                (go_at_call 30; refine (implWanted_any _ _ _ _ _ _ _ _ (S2).2.1 (S2).2.2.1 hn hm).mono ?_)
                rintro e w2 ⟨rfl, hb2⟩
                have S3 := S2.below hb2
                have hg2 : w2.heap[w1.heap.size]? = some (.cells #[.int .i64 0, .slice none 0 0, .slice none 0 0, .int .i64 0, .int .i64 0] 61 (0, 0)) := (hb2.block _ (by simp)).trans (heap_alloc_new w1 (.cells #[.int .i64 0, .slice none 0 0, .slice none 0 0, .int .i64 0, .int .i64 0] 61))
                have f0 := unfrozen_of_block hg2 0
                have f1 := unfrozen_of_block hg2 1
                have f2 := unfrozen_of_block hg2 2
                have f3 := unfrozen_of_block hg2 3
                have f4 := unfrozen_of_block hg2 4
                have r0 := cell_of_block hg2 0
                have r1 := cell_of_block hg2 1
                have r2 := cell_of_block hg2 2
                have r3 := cell_of_block hg2 3
                have r4 := cell_of_block hg2 4
                have B2 := hide (bnext (bdrew' (bel1 w1 (.cells #[.int .i64 0, .slice none 0 0, .slice none 0 0, .int .i64 0, .int .i64 0] 61))) hb2)
                rw [HC.out, HB.out, Int.toNat_natCast]
                go_wp2_with fail
                refine hK.out _ _ ?_ (fun hHeld => ?_)
                · exact S3.1.2
                clear hK K
                (try simp only [Act.put, List.setIfInBounds_toArray, List.set_cons_zero, List.set_cons_succ, List.getElem_toArray, List.getElem_cons_zero, List.getElem_cons_succ])
                refine wpAnyH_take (i := 5) (v := ?vvt6) rfl (by kernel_rfl) (by kernel_rfl) (by kernel_rfl) (fun _ _ _ h => h) (Or.inl ⟨by rfl, ?hyt6⟩) (by assumption) ?restt6
                case hyt6 => (intro w hSw; (try dsimp only at hSw); go_simp; (try with_reducible rfl))
                case restt6 =>
                  (try simp only [Act.put, List.setIfInBounds_toArray, List.set_cons_zero, List.set_cons_succ, List.getElem_toArray, List.getElem_cons_zero, List.getElem_cons_succ])
                  refine wpAnyH_ready (rs := [7]) (by kernel_rfl) (by simp) ?_
                  refine (AllReadyH.cons rfl (fun K hK => ?_) AllReadyH.nil)
                  go_simp
                  have BB := (((((B2.out.setCell (p := ⟨w1.heap.size, 0, none⟩) (Nat.le_refl _) (.int .i64 m)).setCell (p := ⟨w1.heap.size, 1, none⟩) (Nat.le_refl _) (.slice a zs.length cap)).setCell (p := ⟨w1.heap.size, 2, none⟩) (Nat.le_refl _) (.slice l vs.length capl)).setCell (p := ⟨w1.heap.size, 3, none⟩) (Nat.le_refl _) (.int .i64 (wantC vs m : Nat))).setCell (p := ⟨w1.heap.size, 4, none⟩) (Nat.le_refl _) (.int .i64 (wantB vs m : Nat)))
                  have SB := S1.below BB
                  refine hK.out _ _ ?_ (fun hHeld => ?_)
                  · exact SB.1.2
                  clear hK K
                  (try simp only [Act.put, List.setIfInBounds_toArray, List.set_cons_zero, List.set_cons_succ, List.getElem_toArray, List.getElem_cons_zero, List.getElem_cons_succ])
                  refine wpAnyH_done (by kernel_rfl) ?_ _
                  go_wp2_with fail
                  go_meet
                  exact ⟨_, rfl, Nat.le_refl _, block_setCell (i := 4) (block_setCell (i := 3) (block_setCell (i := 2) (block_setCell (i := 1) (block_setCell (i := 0) hg2 _) _) _) _) _, BB⟩
    case rest =>
      obtain ⟨g, rfl, hg1, hgb, BG⟩ := hcut
      have q0 := cell_of_block hgb 0
      have q1 := cell_of_block hgb 1
      have q2 := cell_of_block hgb 2
      have q3 := cell_of_block hgb 3
      have q4 := cell_of_block hgb 4
      have S2 := S1.below BG
      clear S1 c0 c1
      have hgf := heap_alloc_new wc (.cells #[.nilFunc, .nilFunc, .nilFunc, .nilFunc] 63)
      have s0 := cell_of_block hgf 0
      have s1 := cell_of_block hgf 1
      have s2 := cell_of_block hgf 2
      have s3 := cell_of_block hgf 3
      have f0 := unfrozen_of_block hgf 0
      have f1 := unfrozen_of_block hgf 1
      have f2 := unfrozen_of_block hgf 2
      have f3 := unfrozen_of_block hgf 3
      go_wp2_with fail
      obtain ⟨wd, hwd⟩ : ∃ wd : World, wc.alloc (.cells #[.func (.func 66) #[.agg #[.int .i64 m, .slice a zs.length cap, .slice l vs.length capl, .int .i64 (wantC vs m : Nat), .int .i64 (wantB vs m : Nat)]] #[], .func (.func 67) #[.agg #[.int .i64 m, .slice a zs.length cap, .slice l vs.length capl, .int .i64 (wantC vs m : Nat), .int .i64 (wantB vs m : Nat)]] #[], .func (.func 68) #[.agg #[.int .i64 m, .slice a zs.length cap, .slice l vs.length capl, .int .i64 (wantC vs m : Nat), .int .i64 (wantB vs m : Nat)]] #[], .func (.func 69) #[.agg #[.int .i64 m, .slice a zs.length cap, .slice l vs.length capl, .int .i64 (wantC vs m : Nat), .int .i64 (wantB vs m : Nat)]] #[]] 63) = wd := ⟨_, rfl⟩
      have BD : Below wc.heap.size wc wd := by rw [← hwd]; exact bel1 _ _
      have hgd : wd.heap[wc.heap.size]? = some (.cells #[.func (.func 66) #[.agg #[.int .i64 m, .slice a zs.length cap, .slice l vs.length capl, .int .i64 (wantC vs m : Nat), .int .i64 (wantB vs m : Nat)]] #[], .func (.func 67) #[.agg #[.int .i64 m, .slice a zs.length cap, .slice l vs.length capl, .int .i64 (wantC vs m : Nat), .int .i64 (wantB vs m : Nat)]] #[], .func (.func 68) #[.agg #[.int .i64 m, .slice a zs.length cap, .slice l vs.length capl, .int .i64 (wantC vs m : Nat), .int .i64 (wantB vs m : Nat)]] #[], .func (.func 69) #[.agg #[.int .i64 m, .slice a zs.length cap, .slice l vs.length capl, .int .i64 (wantC vs m : Nat), .int .i64 (wantB vs m : Nat)]] #[]] 63 (0, 0)) := by rw [← hwd]; exact heap_alloc_new wc _
      rw [hwd]
      clear hwd s0 s1 s2 s3 f0 f1 f2 f3 hgf
      have hgg := lt_of_block hgb
      have S3 := S2.below (bdrew' BD)
      have q0 := (BD.cell (p := ⟨g, 0, none⟩) hgg).trans q0
      have q1 := (BD.cell (p := ⟨g, 1, none⟩) hgg).trans q1
      have q2 := (BD.cell (p := ⟨g, 2, none⟩) hgg).trans q2
      have q3 := (BD.cell (p := ⟨g, 3, none⟩) hgg).trans q3
      have q4 := (BD.cell (p := ⟨g, 4, none⟩) hgg).trans q4
      have qk := cell_of_block hgd 1
      have hlg := lt_of_block hgd
      have hgg2 : g < wd.heap.size := Nat.lt_of_lt_of_le hgg BD.size
      have hW := S3.2.2.2
      have hIZ := S3.2.1
      have hIV := hide S3.2.2.1
      clear S2 S3 BD hgd hgb
      refine wp_region_held_drew (S := (fun w' => w'.cell? ⟨g, 0, none⟩ = some (.int .i64 m) ∧ w'.cell? ⟨g, 1, none⟩ = some (.slice a zs.length cap) ∧ w'.cell? ⟨g, 2, none⟩ = some (.slice l vs.length capl) ∧ w'.cell? ⟨g, 3, none⟩ = some (.int .i64 (wantC vs m : Nat)) ∧ w'.cell? ⟨g, 4, none⟩ = some (.int .i64 (wantB vs m : Nat)) ∧ w'.cell? ⟨wc.heap.size, 1, none⟩ = some (.func (.func 67) #[.agg #[.int .i64 m, .slice a zs.length cap, .slice l vs.length capl, .int .i64 (wantC vs m : Nat), .int .i64 (wantB vs m : Nat)]] #[]))) (by kernel_rfl) ?_ (fun hHeld => ?_)
      · exact ⟨q0, q1, q2, q3, q4, qk⟩
      refine wpAnyH_take (i := 0) (v := ?vvt12) rfl (by kernel_rfl) (by kernel_rfl) (by kernel_rfl) (fun _ _ _ h => h) (Or.inl ⟨by rfl, ?hyt12⟩) (by assumption) ?restt12
      case hyt12 => (intro w hSw; (try dsimp only at hSw); go_simp; (try with_reducible rfl))
      case restt12 =>
        (try simp only [Act.put, List.setIfInBounds_toArray, List.set_cons_zero, List.set_cons_succ, List.getElem_toArray, List.getElem_cons_zero])
        refine wpAnyH_take (i := 1) (v := ?vvt13) rfl (by kernel_rfl) (by kernel_rfl) (by kernel_rfl) (fun _ _ _ h => h) (Or.inl ⟨by rfl, ?hyt13⟩) (by assumption) ?restt13
        case hyt13 => (intro w hSw; (try dsimp only at hSw); go_simp; (try with_reducible rfl))
        case restt13 =>
          (try simp only [Act.put, List.setIfInBounds_toArray, List.set_cons_zero, List.set_cons_succ, List.getElem_toArray, List.getElem_cons_zero, List.getElem_cons_succ])
          refine wpAnyH_take (i := 2) (v := ?vvt14) rfl (by kernel_rfl) (by kernel_rfl) (by kernel_rfl) (fun _ _ _ h => h) (Or.inl ⟨by rfl, ?hyt14⟩) (by assumption) ?restt14
          case hyt14 => (intro w hSw; (try dsimp only at hSw); go_simp; (try with_reducible rfl))
          case restt14 =>
            (try simp only [Act.put, List.setIfInBounds_toArray, List.set_cons_zero, List.set_cons_succ, List.getElem_toArray, List.getElem_cons_zero, List.getElem_cons_succ])
            refine wpAnyH_take (i := 3) (v := ?vvt15) rfl (by kernel_rfl) (by kernel_rfl) (by kernel_rfl) (fun _ _ _ h => h) (Or.inl ⟨by rfl, ?hyt15⟩) (by assumption) ?restt15
            case hyt15 => (intro w hSw; (try dsimp only at hSw); go_simp; (try with_reducible rfl))
            case restt15 =>
              (try simp only [Act.put, List.setIfInBounds_toArray, List.set_cons_zero, List.set_cons_succ, List.getElem_toArray, List.getElem_cons_zero, List.getElem_cons_succ])
              refine wpAnyH_ready (rs := [4]) (by kernel_rfl) (by simp) ?_
              refine (AllReadyH.cons rfl (fun K hK => ?_) AllReadyH.nil)
              go_simp
              (go_at_call 70; refine (unbeatenF_any (fun y x => decide (farN vs y < farN vs x)) m a l cap capl vs.length zs (wantC vs m : Nat) (wantB vs m : Nat) _ hIZ hn (fun y x w' hy hx hb => nearerFar_any m a l zs.length cap capl vs (wantC vs m : Nat) (wantB vs m : Nat) y x w' (hIV.out.below hb) h5 HR.out (HZ.out y hy) (HZ.out x hx))).mono ?_)
              rintro e w3 ⟨v, rfl, ov, hb3⟩
              obtain ⟨av, cv, rfl, _, _⟩ := ov.form
              have hb3' := bdrew hb3
              have OV := hide ov
              clear ov hIZ
              have p0 := (hb3'.cell (p := ⟨g, 0, none⟩) hgg2).trans q0
              have p1 := (hb3'.cell (p := ⟨g, 1, none⟩) hgg2).trans q1
              have p2 := (hb3'.cell (p := ⟨g, 2, none⟩) hgg2).trans q2
              have p3 := (hb3'.cell (p := ⟨g, 3, none⟩) hgg2).trans q3
              have p4 := (hb3'.cell (p := ⟨g, 4, none⟩) hgg2).trans q4
              have pk := (hb3'.cell (p := ⟨wc.heap.size, 1, none⟩) hlg).trans qk
              go_wp2_with fail
              refine hK.out _ _ ?_ (fun hHeld => ?_)
              · exact ⟨p0, p1, p2, p3, p4, pk⟩
              clear hK K
              (try simp only [Act.put, List.setIfInBounds_toArray, List.set_cons_zero, List.set_cons_succ, List.getElem_toArray, List.getElem_cons_zero, List.getElem_cons_succ])
              refine wpAnyH_take (i := 5) (v := ?vvt16) rfl (by kernel_rfl) (by kernel_rfl) (by kernel_rfl) (fun _ _ _ h => h) (Or.inl ⟨by rfl, ?hyt16⟩) (by assumption) ?restt16
              case hyt16 => (intro w hSw; (try dsimp only at hSw); go_simp; (try with_reducible rfl))
              case restt16 =>
                (try simp only [Act.put, List.setIfInBounds_toArray, List.set_cons_zero, List.set_cons_succ, List.getElem_toArray, List.getElem_cons_zero, List.getElem_cons_succ])
                refine wpAnyH_done (by kernel_rfl) ?_ _
                go_wp2_with fail
                go_ret
                exact ⟨_, rfl, by rw [HN.out]; exact OV.out.le hW.size, bnext hW hb3⟩

theorem implMiddleRule_any (n : Int) (a l : Option Addr) (cap capl : Nat) (zs vs : List Int) (w : World) (hi : Ints w a zs) (hj : Ints w l vs) (hn : zs.length ≤ 1048576) (hm : vs.length ≤ 1048576) :
    Calls Try.prog 22 #[.agg #[.int .i64 n, .slice a zs.length cap], .slice l vs.length capl] w (Gives (bestF n zs vs) w) := by
  have S0 := SV.new w n a zs cap l vs 27 hi hj
  obtain ⟨⟨_, c0, c1⟩, _⟩ := S0.pair
  clear hi hj
  go_enter Try.func22, Try.ntmps22
  go_wp2_with fail
  refine (bestByF_any _ _ _ _ _ _ _ _ S0.2.1 S0.2.2.1 hn hm).mono ?_
  rintro e w1 ⟨v, rfl, ov, hb⟩
  go_wp2
  go_ret
  exact ⟨_, rfl, ov.le S0.2.2.2.size, bnext S0.2.2.2 hb⟩
end Go.Proofs.Ytcophcjkhdipbaa
