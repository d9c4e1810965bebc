/- spec.CrossSpaces. -/
import Derived.Test.YtbnnblfgpdfmpaaCrossI
import Derived.Deep.RegionHeld3
import Derived.Deep.AppendLies
import Derived.Deep.DeepCutAuto
import Derived.Outline
namespace Go.Proofs.Ytbnnblfgpdfmpaa
open Go.RowKit Go.Joins

set_option maxHeartbeats 4000000 in
set_option maxRecDepth 100000 in
theorem specCross_any (na nb : Int) (a b : Option Addr) (ca cb : Nat) (xs ys : List Int) (w : World) (hx : Ints w a xs) (hy : Ints w b ys) (hn : xs.length ≤ 1048576) (hm : ys.length ≤ 1048576) :
    Calls Try.prog 33 #[.agg #[.int .i64 na, .slice a xs.length ca], .agg #[.int .i64 nb, .slice b ys.length cb]] w (GivesX (crsN na xs nb ys) (crsL na xs nb ys) (crsB na xs nb ys) w) := by
  obtain ⟨i0, hi0, hz0, hz1, hz2⟩ := info_parts info_int
  have S0 := CV.new w na nb a b xs ys ca cb hx hy
  clear hx hy
  by_cases hv : vsB na xs = false
  · have HN : Hid (¬ CrossOk na xs nb ys) := fun h => by rw [vsB_true h.1] at hv; cases hv
    go_enter Try.func33, Try.ntmps33
    go_wp2_with fail
    refine (validSpace_any _ _ _ _ _ S0.2.2.1 hn).mono ?_
    rintro e w1 ⟨rfl, hb⟩
    have S1 := S0.below hb
    have hblk := S1.2.2.2.2.1
    have f0 := unfrozen_of_block hblk 0
    have f1 := unfrozen_of_block hblk 1
    have g0 := cell_of_block hblk 0
    have g1 := cell_of_block hblk 1
    go_wp2
    refine bodyPost_ret (ret_cross rfl _ _ _ _ _ rfl (block_setCell (i := 1) (block_setCell (i := 0) hblk _) _)) rfl ?_
    exact givesC_no HN.out (S1.set _ _)
  · have hv : vsB na xs = true := by simpa using hv
    have hV := hide (valid_of hv)
    by_cases hu : vsB nb ys = false
    · have HN : Hid (¬ CrossOk na xs nb ys) := fun h => by rw [vsB_true h.2.1] at hu; cases hu
      go_enter Try.func33, Try.ntmps33
      go_wp2_with fail
      refine (validSpace_any _ _ _ _ _ S0.2.2.1 hn).mono ?_
      rintro e w1 ⟨rfl, hb⟩
      have S1 := S0.below hb
      have ⟨⟨_, c0, c1⟩, ⟨_, d0, d1⟩, _⟩ := S1
      go_wp2_with fail
      refine (validSpace_any _ _ _ _ _ S1.2.2.2.1 hm).mono ?_
      rintro e w2 ⟨rfl, hb⟩
      have S2 := S1.below hb
      have hblk := S2.2.2.2.2.1
      have f0 := unfrozen_of_block hblk 0
      have f1 := unfrozen_of_block hblk 1
      have g0 := cell_of_block hblk 0
      have g1 := cell_of_block hblk 1
      go_wp2
      refine bodyPost_ret (ret_cross rfl _ _ _ _ _ rfl (block_setCell (i := 1) (block_setCell (i := 0) hblk _) _)) rfl ?_
      exact givesC_no HN.out (S2.set _ _)
    · have hu : vsB nb ys = true := by simpa using hu
      have hU := hide (valid_of hu)
      have h14 := hV.out.1
      have k14 := hU.out.1
      by_cases h4 : 4 < na + nb
      · have HN : Hid (¬ CrossOk na xs nb ys) := fun h => by have := h.2.2; omega
        go_enter Try.func33, Try.ntmps33
        go_wp2_with fail
        refine (validSpace_any _ _ _ _ _ S0.2.2.1 hn).mono ?_
        rintro e w1 ⟨rfl, hb⟩
        have S1 := S0.below hb
        have ⟨⟨_, c0, c1⟩, ⟨_, d0, d1⟩, _⟩ := S1
        go_wp2_with fail
        refine (validSpace_any _ _ _ _ _ S1.2.2.2.1 hm).mono ?_
        rintro e w2 ⟨rfl, hb⟩
        have S2 := S1.below hb
        have ⟨⟨_, x0, x1⟩, ⟨_, y0, y1⟩, _⟩ := S2
        have hblk := S2.2.2.2.2.1
        have f0 := unfrozen_of_block hblk 0
        have f1 := unfrozen_of_block hblk 1
        have g0 := cell_of_block hblk 0
        have g1 := cell_of_block hblk 1
        go_wp2
        refine bodyPost_ret (ret_cross rfl _ _ _ _ _ rfl (block_setCell (i := 1) (block_setCell (i := 0) hblk _) _)) rfl ?_
        exact givesC_no HN.out (S2.set _ _)
      · have HK : Hid (CrossOk na xs nb ys) := ⟨hV.out, hU.out, by omega⟩
        have HX := hide (valid_in hV.out)
        have HY := hide (valid_in hU.out)
        have lx := valid_len hV.out
        have ly := valid_len hU.out
        go_enter Try.func33, Try.ntmps33
        go_wp2_with fail
        refine (validSpace_any _ _ _ _ _ S0.2.2.1 hn).mono ?_
        rintro e w1 ⟨rfl, hb⟩
        have S1 := S0.below hb
        have ⟨⟨_, c0, c1⟩, ⟨_, d0, d1⟩, _⟩ := S1
        go_wp2_with fail
        refine (validSpace_any _ _ _ _ _ S1.2.2.2.1 hm).mono ?_
        rintro e w2 ⟨rfl, hb2⟩
        have S2 := S1.below hb2
        clear S0 S1 hb hb2 c0 c1 d0 d1
        have ⟨⟨_, x0, x1⟩, ⟨_, y0, y1⟩, _⟩ := S2
        have hw4 : IntKind.i64.wrap (na + nb) = na + nb := IntWalk.i64_in _ (by omega)
        go_wp2_with fail
        go_loopw [7] (fun i wr => ∃ (k : Nat) (v : Value), k ≤ ys.length ∧ i = .int .i64 k ∧ wr.heap[w2.heap.size]? = some (.cells #[.int .i64 (na + nb), v] 26 (0, 0)) ∧ Owns wr (w2.heap.size + 1) v (crossL (pw na) xs (ys.take k)) ∧ Below w2.heap.size w2 wr) (fun i _ => ys.length - (intOf i).toNat)
        case atStart => exact ⟨0, _, Nat.zero_le _, rfl, heap_alloc_new w2 _, World.ownsRow_nil _ _ _ _, bel1 w2 _⟩
        case round =>
          clear x0 x1 y0 y1
          obtain ⟨k, v, hk, rfl, hblk, hown, BR⟩ := hrel
          have SR := S2.below BR
          have ⟨⟨_, x0, x1⟩, ⟨_, y0, y1⟩, _, iy, _⟩ := SR
          by_cases hlt : k < ys.length
          · obtain ⟨yb, yo, rfl, hybl, hyc⟩ := iy (by omega)
            have hct := hide (cross_take (pw na) xs ys k hlt)
            have rY := hide (HY.out _ (mem_of_at hlt))
            have hms := hide (mul_small (a := na) (b := nb) (y := ys[k]) (by omega) (by omega) (by omega) rY.out)
            have pa := pw_pos na
            have pb := pw_le na h14.2
            have hsh : IntKind.i64.wrap (pw na * ys[k]) = pw na * ys[k] := IntWalk.i64_in _ (by have := hms.out; omega)
            have hcl : (crossL (pw na) xs (ys.take k)).length ≤ 256 := cross_small lx (by rw [List.length_take]; omega)
            clear hyc iy
            go_wp2_with fail
            go_loopw [8] (fun i wq => ∃ (j : Nat) (v : Value), j ≤ xs.length ∧ i = .int .i64 j ∧ wq.heap[w2.heap.size]? = some (.cells #[.int .i64 (na + nb), v] 26 (0, 0)) ∧ Owns wq (w2.heap.size + 1) v (crossL (pw na) xs (ys.take k) ++ rowL (pw na) (xs.take j) ys[k]) ∧ Below w2.heap.size w2 wq) (fun i _ => xs.length - (intOf i).toNat)
            case atStart => exact ⟨0, _, Nat.zero_le _, rfl, hblk, by rw [show rowL (pw na) (xs.take 0) ys[k] = [] from rfl, List.append_nil]; exact hown, BR⟩
            case round =>
              clear x0 x1 y0 y1 hown BR SR hblk
              obtain ⟨j, v, hj, rfl, hblk, hown, BR⟩ := hrel
              have SR := S2.below BR
              have ⟨⟨_, x0, x1⟩, ⟨_, y0, y1⟩, ix, iy, _⟩ := SR
              by_cases hjt : j < xs.length
              · obtain ⟨xb, xo, rfl, hxbl, hxc⟩ := ix (by omega)
                have hxk := hxc j hjt
                rw [getD_lt hjt] at hxk
                obtain ⟨yb', yo', e', hybl, hyc⟩ := iy (by omega)
                simp only [Option.some.injEq, Addr.mk.injEq, and_true] at e'
                obtain ⟨rfl, rfl⟩ := e'
                have hyk := hyc k hlt
                rw [getD_lt hlt] at hyk
                have rX := HX.out _ (mem_of_at hjt)
                have hrt := hide (row_take (pw na) xs ys[k] j hjt)
                have hadd : IntKind.i64.wrap (xs[j] + pw na * ys[k]) = xs[j] + pw na * ys[k] := IntWalk.i64_in _ (by have := hms.out; omega)
                have hll : (crossL (pw na) xs (ys.take k) ++ rowL (pw na) (xs.take j) ys[k]).length ≤ 512 := by
                  rw [List.length_append, row_len, List.length_take]; omega
                have hsz := BR.size
                have g0 := cell_of_block hblk 0
                have g1 := cell_of_block hblk 1
                have f1 := unfrozen_of_block hblk 1
                have hgl := lt_of_block hblk
                obtain ⟨zz, hzz⟩ : ∃ zz : List Int, zz = crossL (pw na) xs (ys.take k) ++ rowL (pw na) (xs.take j) ys[k] := ⟨_, rfl⟩
                rw [← hzz] at hown hll
                have HZ := hide hzz
                obtain ⟨av, cv, rfl, iv, hg⟩ := hown.form
                have hw1 : w.heap.size < w2.heap.size := S2.1.1
                have hw2 : w.heap.size + 1 < w2.heap.size := S2.2.1.1
                have hxw : xb < w2.heap.size := by
                  obtain ⟨b', o', e', h', _⟩ := S2.2.2.1 (by omega)
                  simp only [Option.some.injEq, Addr.mk.injEq, and_true] at e'
                  obtain ⟨rfl, rfl⟩ := e'
                  exact h'
                have hyw : yb < w2.heap.size := by
                  obtain ⟨b', o', e', h', _⟩ := S2.2.2.2.1 (by omega)
                  simp only [Option.some.injEq, Addr.mk.injEq, and_true] at e'
                  obtain ⟨rfl, rfl⟩ := e'
                  exact h'
                clear hxc hyc ix iy hzz iv
                go_upto_region 10 with fail
                have hbA : Below wr.heap.size wr (wr.alloc (.cells #[.int .i64 (xs[j] + pw na * ys[k])] 3)).drew := bdrew' (bel1 wr _)
                have HKA : Hid ((fun w' => w'.cell? ⟨w.heap.size, 0, none⟩ = some (.int .i64 na) ∧ w'.cell? ⟨w.heap.size, 1, none⟩ = some (.slice (some ⟨xb, xo, none⟩) xs.length ca) ∧ w'.cell? ⟨w.heap.size + 1, 1, none⟩ = some (.slice (some ⟨yb, yo, none⟩) ys.length cb) ∧ w'.cell? ⟨xb, xo + j, none⟩ = some (.int .i64 xs[j]) ∧ w'.cell? ⟨yb, yo + k, none⟩ = some (.int .i64 ys[k])) (wr.alloc (.cells #[.int .i64 (xs[j] + pw na * ys[k])] 3)).drew) := ⟨(hbA.cell (p := ⟨w.heap.size, 0, none⟩) (by show w.heap.size < wr.heap.size; omega)).trans x0, (hbA.cell (p := ⟨w.heap.size, 1, none⟩) (by show w.heap.size < wr.heap.size; omega)).trans x1, (hbA.cell (p := ⟨w.heap.size + 1, 1, none⟩) (by show w.heap.size + 1 < wr.heap.size; omega)).trans y1, (hbA.cell (p := ⟨xb, xo + j, none⟩) (by show xb < wr.heap.size; omega)).trans hxk, (hbA.cell (p := ⟨yb, yo + k, none⟩) (by show yb < wr.heap.size; omega)).trans hyk⟩
                clear hbA
                refine wp_region_held_drew (S := (fun w' => w'.cell? ⟨w.heap.size, 0, none⟩ = some (.int .i64 na) ∧ w'.cell? ⟨w.heap.size, 1, none⟩ = some (.slice (some ⟨xb, xo, none⟩) xs.length ca) ∧ w'.cell? ⟨w.heap.size + 1, 1, none⟩ = some (.slice (some ⟨yb, yo, none⟩) ys.length cb) ∧ w'.cell? ⟨xb, xo + j, none⟩ = some (.int .i64 xs[j]) ∧ w'.cell? ⟨yb, yo + k, none⟩ = some (.int .i64 ys[k]))) (by kernel_rfl) ?_ (fun hHeld => ?_)
                · exact ⟨x0, x1, y1, hxk, hyk⟩
                refine wpAnyH_take (i := 0) (v := ?vvt1) rfl (by kernel_rfl) (by kernel_rfl) (by kernel_rfl) (fun _ _ _ h => h) (Or.inl ⟨by rfl, ?hyt1⟩) (by assumption) ?restt1
                case hyt1 => (intro w hSw; (try dsimp only at hSw); go_simp; (try with_reducible rfl))
                case restt1 =>
                  (try simp only [Act.put, List.setIfInBounds_toArray, List.set_cons_zero, List.set_cons_succ, List.getElem_toArray, List.getElem_cons_zero])
                  refine wpAnyH_take (i := 2) (v := ?vvt2) rfl (by kernel_rfl) (by kernel_rfl) (by kernel_rfl) (fun _ _ _ h => h) (Or.inl ⟨by rfl, ?hyt2⟩) (by assumption) ?restt2
                  case hyt2 => (intro w hSw; (try dsimp only at hSw); go_simp; (try with_reducible rfl))
                  case restt2 =>
                    (try simp only [Act.put, List.setIfInBounds_toArray, List.set_cons_zero, List.set_cons_succ, List.getElem_toArray, List.getElem_cons_zero, List.getElem_cons_succ])
                    refine wpAnyH_take (i := 3) (v := ?vvt3) rfl (by kernel_rfl) (by kernel_rfl) (by kernel_rfl) (fun _ _ _ h => h) (Or.inl ⟨by rfl, ?hyt3⟩) (by assumption) ?restt3
                    case hyt3 => (intro w hSw; (try dsimp only at hSw); go_simp; (try with_reducible rfl))
                    case restt3 =>
                      (try simp only [Act.put, List.setIfInBounds_toArray, List.set_cons_zero, List.set_cons_succ, List.getElem_toArray, List.getElem_cons_zero, List.getElem_cons_succ])
                      refine wpAnyH_take (i := 4) (v := ?vvt4) rfl (by kernel_rfl) (by kernel_rfl) (by kernel_rfl) (fun _ _ _ h => h) (Or.inl ⟨by rfl, ?hyt4⟩) (by assumption) ?restt4
                      case hyt4 => (intro w hSw; (try dsimp only at hSw); go_simp; (try with_reducible rfl))
                      case restt4 =>
                        (try simp only [Act.put, List.setIfInBounds_toArray, List.set_cons_zero, List.set_cons_succ, List.getElem_toArray, List.getElem_cons_zero, List.getElem_cons_succ])
                        refine wpAnyH_take (i := 5) (v := ?vvt5) rfl (by kernel_rfl) (by kernel_rfl) (by kernel_rfl) (fun _ _ _ h => h) (Or.inl ⟨by rfl, ?hyt5⟩) (by assumption) ?restt5
                        case hyt5 => (intro w hSw; (try dsimp only at hSw); go_simp; (try with_reducible rfl))
                        case restt5 =>
                          (try simp only [Act.put, List.setIfInBounds_toArray, List.set_cons_zero, List.set_cons_succ, List.getElem_toArray, List.getElem_cons_zero, List.getElem_cons_succ])
                          refine wpAnyH_take (i := 6) (v := ?vvt6) rfl (by kernel_rfl) (by kernel_rfl) (by kernel_rfl) (fun _ _ _ h => h) (Or.inl ⟨by rfl, ?hyt6⟩) (by assumption) ?restt6
                          case hyt6 => (intro w hSw; (try dsimp only at hSw); go_simp; (try with_reducible rfl))
                          case restt6 =>
                            (try simp only [Act.put, List.setIfInBounds_toArray, List.set_cons_zero, List.set_cons_succ, List.getElem_toArray, List.getElem_cons_zero, List.getElem_cons_succ])
                            refine wpAnyH_take (i := 7) (v := ?vvt7) rfl (by kernel_rfl) (by kernel_rfl) (by kernel_rfl) (fun _ _ _ h => h) (Or.inl ⟨by rfl, ?hyt7⟩) (by assumption) ?restt7
                            case hyt7 => (intro w hSw; (try dsimp only at hSw); go_simp; (try with_reducible rfl))
                            case restt7 =>
                              (try simp only [Act.put, List.setIfInBounds_toArray, List.set_cons_zero, List.set_cons_succ, List.getElem_toArray, List.getElem_cons_zero, List.getElem_cons_succ])
                              refine wpAnyH_take (i := 8) (v := ?vvt8) rfl (by kernel_rfl) (by kernel_rfl) (by kernel_rfl) (fun _ _ _ h => h) (Or.inl ⟨by rfl, ?hyt8⟩) (by assumption) ?restt8
                              case hyt8 => (intro w hSw; (try dsimp only at hSw); go_simp; (try with_reducible rfl))
                              case restt8 =>
                                (try simp only [Act.put, List.setIfInBounds_toArray, List.set_cons_zero, List.set_cons_succ, List.getElem_toArray, List.getElem_cons_zero, List.getElem_cons_succ])
                                refine wpAnyH_take (i := 10) (v := ?vvt9) rfl (by kernel_rfl) (by kernel_rfl) (by kernel_rfl) (fun _ _ _ h => h) (Or.inl ⟨by rfl, ?hyt9⟩) (by assumption) ?restt9
                                case hyt9 => (intro w hSw; (try dsimp only at hSw); go_simp; (try with_reducible rfl))
                                case restt9 =>
                                  (try simp only [Act.put, List.setIfInBounds_toArray, List.set_cons_zero, List.set_cons_succ, List.getElem_toArray, List.getElem_cons_zero, List.getElem_cons_succ])
                                  refine wpAnyH_take (i := 11) (v := ?vvt10) rfl (by kernel_rfl) (by kernel_rfl) (by kernel_rfl) (fun _ _ _ h => h) (Or.inl ⟨by rfl, ?hyt10⟩) (by assumption) ?restt10
                                  case hyt10 => (intro w hSw; (try dsimp only at hSw); go_simp; (try with_reducible rfl))
                                  case restt10 =>
                                    (try simp only [Act.put, List.setIfInBounds_toArray, List.set_cons_zero, List.set_cons_succ, List.getElem_toArray, List.getElem_cons_zero, List.getElem_cons_succ])
                                    refine wpAnyH_take (i := 12) (v := ?vvt11) rfl (by kernel_rfl) (by kernel_rfl) (by kernel_rfl) (fun _ _ _ h => h) (Or.inl ⟨by rfl, ?hyt11⟩) (by assumption) ?restt11
                                    case hyt11 => (intro w hSw; (try dsimp only at hSw); go_simp; (try with_reducible rfl))
                                    case restt11 =>
                                      (try simp only [Act.put, List.setIfInBounds_toArray, List.set_cons_zero, List.set_cons_succ, List.getElem_toArray, List.getElem_cons_zero, List.getElem_cons_succ])
                                      refine wpAnyH_take (i := 13) (v := ?vvt12) rfl (by kernel_rfl) (by kernel_rfl) (by kernel_rfl) (fun _ _ _ h => h) (Or.inl ⟨by rfl, ?hyt12⟩) (by assumption) ?restt12
                                      case hyt12 => (intro w hSw; (try dsimp only at hSw); go_simp; (try with_reducible rfl))
                                      case restt12 =>
                                        (try simp only [Act.put, List.setIfInBounds_toArray, List.set_cons_zero, List.set_cons_succ, List.getElem_toArray, List.getElem_cons_zero, List.getElem_cons_succ])
                                        refine wpAnyH_take (i := 14) (v := ?vvt13) rfl (by kernel_rfl) (by kernel_rfl) (by kernel_rfl) (fun _ _ _ h => h) (Or.inl ⟨by rfl, ?hyt13⟩) (by assumption) ?restt13
                                        case hyt13 => (intro w hSw; (try dsimp only at hSw); go_simp; (try with_reducible rfl))
                                        case restt13 =>
                                          (try simp only [Act.put, List.setIfInBounds_toArray, List.set_cons_zero, List.set_cons_succ, List.getElem_toArray, List.getElem_cons_zero, List.getElem_cons_succ])
                                          refine wpAnyH_ready (rs := [1, 9]) (by kernel_rfl) (by simp) ?_
                                          refine (AllReadyH.cons rfl (fun K hK => ?_) (AllReadyH.cons rfl (fun K hK => ?_) AllReadyH.nil))
                                          · go_simp
                                            refine hK.out _ _ ?_ (fun hHeld => ?_)
                                            · exact ⟨x0, x1, y1, hxk, hyk⟩
                                            clear hK K
                                            (try simp only [Act.put, List.setIfInBounds_toArray, List.set_cons_zero, List.set_cons_succ, List.getElem_toArray, List.getElem_cons_zero, List.getElem_cons_succ])
                                            refine wpAnyH_ready (rs := [9]) (by kernel_rfl) (by simp) ?_
                                            refine (AllReadyH.cons rfl (fun K hK => ?_) AllReadyH.nil)
                                            go_simp
                                            (go_at_call 39; refine (power_any _ _ (by omega) (by omega)).mono ?_; rintro e w' ⟨rfl, rfl⟩)
                                            go_wp2_with fail
                                            refine hK.out _ _ ?_ (fun hHeld => ?_)
                                            · exact ⟨x0, x1, y1, hxk, hyk⟩
                                            clear hK K
                                            (try simp only [Act.put, List.setIfInBounds_toArray, List.set_cons_zero, List.set_cons_succ, List.getElem_toArray, List.getElem_cons_zero, List.getElem_cons_succ])
                                            refine wpAnyH_take (i := 15) (v := ?vvt14) rfl (by kernel_rfl) (by kernel_rfl) (by kernel_rfl) (fun _ _ _ h => h) (Or.inl ⟨by rfl, ?hyt14⟩) (by assumption) ?restt14
                                            case hyt14 => (intro w hSw; (try dsimp only at hSw); go_simp; (try with_reducible rfl))
                                            case restt14 =>
                                              (try simp only [Act.put, List.setIfInBounds_toArray, List.set_cons_zero, List.set_cons_succ, List.getElem_toArray, List.getElem_cons_zero, List.getElem_cons_succ])
                                              refine wpAnyH_take (i := 16) (v := ?vvt15) rfl (by kernel_rfl) (by kernel_rfl) (by kernel_rfl) (fun _ _ _ h => h) (Or.inl ⟨by rfl, ?hyt15⟩) (by assumption) ?restt15
                                              case hyt15 => (intro w hSw; (try dsimp only at hSw); go_simp; (try with_reducible rfl))
                                              case restt15 =>
                                                (try simp only [Act.put, List.setIfInBounds_toArray, List.set_cons_zero, List.set_cons_succ, List.getElem_toArray, List.getElem_cons_zero, List.getElem_cons_succ])
                                                refine wpAnyH_ready (rs := [17]) (by kernel_rfl) (by simp) ?_
                                                refine (AllReadyH.cons rfl (fun K hK => ?_) AllReadyH.nil)
                                                go_simp
                                                refine hK.out _ _ ?_ (fun hHeld => ?_)
                                                · exact (HKA.out)
                                                clear hK K
                                                (try simp only [Act.put, List.setIfInBounds_toArray, List.set_cons_zero, List.set_cons_succ, List.getElem_toArray, List.getElem_cons_zero, List.getElem_cons_succ])
                                                refine wpAnyH_ready (rs := [18]) (by kernel_rfl) (by simp) ?_
                                                refine (AllReadyH.cons rfl (fun K hK => ?_) AllReadyH.nil)
                                                (refine step_append_lies _ (by rfl) _ _ _ (by rfl) (w2.heap.size + 1) 3 i0 (.int .i64 0) 1 8 Try.underlying22 hi0 hz0 hz1 hz2 rfl (by decide) _ _ _ (by rfl) ((hown.alloc _).drew) ⟨wr.heap.size, 0, none⟩ 1 1 [.int .i64 (xs[j] + pw na * ys[k])] (by rfl) (by rfl) (World.news_of_block (cs := #[.int .i64 (xs[j] + pw na * ys[k])]) (t := 3) (fr := (0, 0)) (heap_alloc_new wr _)) (by simp [Value.oneCell']) (by omega) (by unfold maxLen; omega) (by omega) (by simp; omega) (wr.heap.size + 1) (by simp) ?_; intro gg cc w5 hown5 hgrow hat hltg; have hb5 : Below (w2.heap.size + 1) wr w5 := (((Below.refl _ _).alloc (by omega) _).drew).grown hgrow (by simp; omega) (fun j hj => own_ge hown j hj); have hblk5 := (hb5.block w2.heap.size (Nat.lt_succ_self _)).trans hblk; have f5 := unfrozen_of_block hblk5 1; have g5 := cell_of_block hblk5 1; have hbs : ∀ u : Value, Below w2.heap.size wr (w5.setCell ⟨w2.heap.size, 1, none⟩ u) := fun u => (hb5.mono (Nat.le_succ _)).setCell (p := ⟨w2.heap.size, 1, none⟩) (Nat.le_refl _) u)
                                                refine hK.out _ _ ?_ (fun hHeld => ?_)
                                                · exact ⟨(hb5.cell (p := ⟨w.heap.size, 0, none⟩) (Nat.lt_succ_of_lt hw1)).trans x0, (hb5.cell (p := ⟨w.heap.size, 1, none⟩) (Nat.lt_succ_of_lt hw1)).trans x1, (hb5.cell (p := ⟨w.heap.size + 1, 1, none⟩) (Nat.lt_succ_of_lt hw2)).trans y1, (hb5.cell (p := ⟨xb, xo + j, none⟩) (Nat.lt_succ_of_lt hxw)).trans hxk, (hb5.cell (p := ⟨yb, yo + k, none⟩) (Nat.lt_succ_of_lt hyw)).trans hyk⟩
                                                clear hK K
                                                (try simp only [Act.put, List.setIfInBounds_toArray, List.set_cons_zero, List.set_cons_succ, List.getElem_toArray, List.getElem_cons_zero, List.getElem_cons_succ])
                                                refine wpAnyH_take (i := 19) (v := ?vvt16) rfl (by kernel_rfl) (by kernel_rfl) (by kernel_rfl) (fun _ _ _ h => h) (Or.inl ⟨by rfl, ?hyt16⟩) (by assumption) ?restt16
                                                case hyt16 => (intro w hSw; (try dsimp only at hSw); go_simp; (try with_reducible rfl))
                                                case restt16 =>
                                                  (try simp only [Act.put, List.setIfInBounds_toArray, List.set_cons_zero, List.set_cons_succ, List.getElem_toArray, List.getElem_cons_zero, List.getElem_cons_succ])
                                                  refine wpAnyH_ready (rs := [20]) (by kernel_rfl) (by simp) ?_
                                                  refine (AllReadyH.cons rfl (fun K hK => ?_) AllReadyH.nil)
                                                  go_simp
                                                  refine hK.out _ _ ?_ (fun hHeld => ?_)
                                                  · exact ⟨((hbs _).cell (p := ⟨w.heap.size, 0, none⟩) hw1).trans x0, ((hbs _).cell (p := ⟨w.heap.size, 1, none⟩) hw1).trans x1, ((hbs _).cell (p := ⟨w.heap.size + 1, 1, none⟩) hw2).trans y1, ((hbs _).cell (p := ⟨xb, xo + j, none⟩) hxw).trans hxk, ((hbs _).cell (p := ⟨yb, yo + k, none⟩) hyw).trans hyk⟩
                                                  clear hK K
                                                  (try simp only [Act.put, List.setIfInBounds_toArray, List.set_cons_zero, List.set_cons_succ, List.getElem_toArray, List.getElem_cons_zero, List.getElem_cons_succ])
                                                  refine wpAnyH_done (by kernel_rfl) ?_ _
                                                  go_wp2
                                                  go_roundw
                                                  case rel =>
                                                    refine ⟨j + 1, _, by omega, by go_num, block_setCell (i := 1) hblk5 _, ?_, BR.trans (hbs _)⟩
                                                    rw [hrt.out, ← List.append_assoc, ← HZ.out]
                                                    exact (Owns.push hown5).setBelow (p := ⟨w2.heap.size, 1, none⟩) (Nat.lt_succ_self _) _
                                                  case measure => simp [intOf]; omega
                                          · go_simp
                                            (go_at_call 39; refine (power_any _ _ (by omega) (by omega)).mono ?_; rintro e w' ⟨rfl, rfl⟩)
                                            go_wp2_with fail
                                            refine hK.out _ _ ?_ (fun hHeld => ?_)
                                            · exact ⟨x0, x1, y1, hxk, hyk⟩
                                            clear hK K
                                            (try simp only [Act.put, List.setIfInBounds_toArray, List.set_cons_zero, List.set_cons_succ, List.getElem_toArray, List.getElem_cons_zero, List.getElem_cons_succ])
                                            refine wpAnyH_take (i := 15) (v := ?vvt17) rfl (by kernel_rfl) (by kernel_rfl) (by kernel_rfl) (fun _ _ _ h => h) (Or.inl ⟨by rfl, ?hyt17⟩) (by assumption) ?restt17
                                            case hyt17 => (intro w hSw; (try dsimp only at hSw); go_simp; (try with_reducible rfl))
                                            case restt17 =>
                                              (try simp only [Act.put, List.setIfInBounds_toArray, List.set_cons_zero, List.set_cons_succ, List.getElem_toArray, List.getElem_cons_zero, List.getElem_cons_succ])
                                              refine wpAnyH_take (i := 16) (v := ?vvt18) rfl (by kernel_rfl) (by kernel_rfl) (by kernel_rfl) (fun _ _ _ h => h) (Or.inl ⟨by rfl, ?hyt18⟩) (by assumption) ?restt18
                                              case hyt18 => (intro w hSw; (try dsimp only at hSw); go_simp; (try with_reducible rfl))
                                              case restt18 =>
                                                (try simp only [Act.put, List.setIfInBounds_toArray, List.set_cons_zero, List.set_cons_succ, List.getElem_toArray, List.getElem_cons_zero, List.getElem_cons_succ])
                                                refine wpAnyH_ready (rs := [1, 17]) (by kernel_rfl) (by simp) ?_
                                                refine (AllReadyH.cons rfl (fun K hK => ?_) (AllReadyH.cons rfl (fun K hK => ?_) AllReadyH.nil))
                                                · go_simp
                                                  refine hK.out _ _ ?_ (fun hHeld => ?_)
                                                  · exact ⟨x0, x1, y1, hxk, hyk⟩
                                                  clear hK K
                                                  (try simp only [Act.put, List.setIfInBounds_toArray, List.set_cons_zero, List.set_cons_succ, List.getElem_toArray, List.getElem_cons_zero, List.getElem_cons_succ])
                                                  refine wpAnyH_ready (rs := [17]) (by kernel_rfl) (by simp) ?_
                                                  refine (AllReadyH.cons rfl (fun K hK => ?_) AllReadyH.nil)
                                                  go_simp
                                                  refine hK.out _ _ ?_ (fun hHeld => ?_)
                                                  · exact (HKA.out)
                                                  clear hK K
                                                  (try simp only [Act.put, List.setIfInBounds_toArray, List.set_cons_zero, List.set_cons_succ, List.getElem_toArray, List.getElem_cons_zero, List.getElem_cons_succ])
                                                  refine wpAnyH_ready (rs := [18]) (by kernel_rfl) (by simp) ?_
                                                  refine (AllReadyH.cons rfl (fun K hK => ?_) AllReadyH.nil)
                                                  (refine step_append_lies _ (by rfl) _ _ _ (by rfl) (w2.heap.size + 1) 3 i0 (.int .i64 0) 1 8 Try.underlying22 hi0 hz0 hz1 hz2 rfl (by decide) _ _ _ (by rfl) ((hown.alloc _).drew) ⟨wr.heap.size, 0, none⟩ 1 1 [.int .i64 (xs[j] + pw na * ys[k])] (by rfl) (by rfl) (World.news_of_block (cs := #[.int .i64 (xs[j] + pw na * ys[k])]) (t := 3) (fr := (0, 0)) (heap_alloc_new wr _)) (by simp [Value.oneCell']) (by omega) (by unfold maxLen; omega) (by omega) (by simp; omega) (wr.heap.size + 1) (by simp) ?_; intro gg cc w5 hown5 hgrow hat hltg; have hb5 : Below (w2.heap.size + 1) wr w5 := (((Below.refl _ _).alloc (by omega) _).drew).grown hgrow (by simp; omega) (fun j hj => own_ge hown j hj); have hblk5 := (hb5.block w2.heap.size (Nat.lt_succ_self _)).trans hblk; have f5 := unfrozen_of_block hblk5 1; have g5 := cell_of_block hblk5 1; have hbs : ∀ u : Value, Below w2.heap.size wr (w5.setCell ⟨w2.heap.size, 1, none⟩ u) := fun u => (hb5.mono (Nat.le_succ _)).setCell (p := ⟨w2.heap.size, 1, none⟩) (Nat.le_refl _) u)
                                                  refine hK.out _ _ ?_ (fun hHeld => ?_)
                                                  · exact ⟨(hb5.cell (p := ⟨w.heap.size, 0, none⟩) (Nat.lt_succ_of_lt hw1)).trans x0, (hb5.cell (p := ⟨w.heap.size, 1, none⟩) (Nat.lt_succ_of_lt hw1)).trans x1, (hb5.cell (p := ⟨w.heap.size + 1, 1, none⟩) (Nat.lt_succ_of_lt hw2)).trans y1, (hb5.cell (p := ⟨xb, xo + j, none⟩) (Nat.lt_succ_of_lt hxw)).trans hxk, (hb5.cell (p := ⟨yb, yo + k, none⟩) (Nat.lt_succ_of_lt hyw)).trans hyk⟩
                                                  clear hK K
                                                  (try simp only [Act.put, List.setIfInBounds_toArray, List.set_cons_zero, List.set_cons_succ, List.getElem_toArray, List.getElem_cons_zero, List.getElem_cons_succ])
                                                  refine wpAnyH_take (i := 19) (v := ?vvt19) rfl (by kernel_rfl) (by kernel_rfl) (by kernel_rfl) (fun _ _ _ h => h) (Or.inl ⟨by rfl, ?hyt19⟩) (by assumption) ?restt19
                                                  case hyt19 => (intro w hSw; (try dsimp only at hSw); go_simp; (try with_reducible rfl))
                                                  case restt19 =>
                                                    (try simp only [Act.put, List.setIfInBounds_toArray, List.set_cons_zero, List.set_cons_succ, List.getElem_toArray, List.getElem_cons_zero, List.getElem_cons_succ])
                                                    refine wpAnyH_ready (rs := [20]) (by kernel_rfl) (by simp) ?_
                                                    refine (AllReadyH.cons rfl (fun K hK => ?_) AllReadyH.nil)
                                                    go_simp
                                                    refine hK.out _ _ ?_ (fun hHeld => ?_)
                                                    · exact ⟨((hbs _).cell (p := ⟨w.heap.size, 0, none⟩) hw1).trans x0, ((hbs _).cell (p := ⟨w.heap.size, 1, none⟩) hw1).trans x1, ((hbs _).cell (p := ⟨w.heap.size + 1, 1, none⟩) hw2).trans y1, ((hbs _).cell (p := ⟨xb, xo + j, none⟩) hxw).trans hxk, ((hbs _).cell (p := ⟨yb, yo + k, none⟩) hyw).trans hyk⟩
                                                    clear hK K
                                                    (try simp only [Act.put, List.setIfInBounds_toArray, List.set_cons_zero, List.set_cons_succ, List.getElem_toArray, List.getElem_cons_zero, List.getElem_cons_succ])
                                                    refine wpAnyH_done (by kernel_rfl) ?_ _
                                                    go_wp2
                                                    go_roundw
                                                    case rel =>
                                                      refine ⟨j + 1, _, by omega, by go_num, block_setCell (i := 1) hblk5 _, ?_, BR.trans (hbs _)⟩
                                                      rw [hrt.out, ← List.append_assoc, ← HZ.out]
                                                      exact (Owns.push hown5).setBelow (p := ⟨w2.heap.size, 1, none⟩) (Nat.lt_succ_self _) _
                                                    case measure => simp [intOf]; omega
                                                · go_simp
                                                  refine hK.out _ _ ?_ (fun hHeld => ?_)
                                                  · exact (HKA.out)
                                                  clear hK K
                                                  (try simp only [Act.put, List.setIfInBounds_toArray, List.set_cons_zero, List.set_cons_succ, List.getElem_toArray, List.getElem_cons_zero, List.getElem_cons_succ])
                                                  refine wpAnyH_ready (rs := [1]) (by kernel_rfl) (by simp) ?_
                                                  refine (AllReadyH.cons rfl (fun K hK => ?_) AllReadyH.nil)
                                                  go_simp
                                                  refine hK.out _ _ ?_ (fun hHeld => ?_)
                                                  · exact (HKA.out)
                                                  clear hK K
                                                  (try simp only [Act.put, List.setIfInBounds_toArray, List.set_cons_zero, List.set_cons_succ, List.getElem_toArray, List.getElem_cons_zero, List.getElem_cons_succ])
                                                  refine wpAnyH_ready (rs := [18]) (by kernel_rfl) (by simp) ?_
                                                  refine (AllReadyH.cons rfl (fun K hK => ?_) AllReadyH.nil)
                                                  (refine step_append_lies _ (by rfl) _ _ _ (by rfl) (w2.heap.size + 1) 3 i0 (.int .i64 0) 1 8 Try.underlying22 hi0 hz0 hz1 hz2 rfl (by decide) _ _ _ (by rfl) ((hown.alloc _).drew) ⟨wr.heap.size, 0, none⟩ 1 1 [.int .i64 (xs[j] + pw na * ys[k])] (by rfl) (by rfl) (World.news_of_block (cs := #[.int .i64 (xs[j] + pw na * ys[k])]) (t := 3) (fr := (0, 0)) (heap_alloc_new wr _)) (by simp [Value.oneCell']) (by omega) (by unfold maxLen; omega) (by omega) (by simp; omega) (wr.heap.size + 1) (by simp) ?_; intro gg cc w5 hown5 hgrow hat hltg; have hb5 : Below (w2.heap.size + 1) wr w5 := (((Below.refl _ _).alloc (by omega) _).drew).grown hgrow (by simp; omega) (fun j hj => own_ge hown j hj); have hblk5 := (hb5.block w2.heap.size (Nat.lt_succ_self _)).trans hblk; have f5 := unfrozen_of_block hblk5 1; have g5 := cell_of_block hblk5 1; have hbs : ∀ u : Value, Below w2.heap.size wr (w5.setCell ⟨w2.heap.size, 1, none⟩ u) := fun u => (hb5.mono (Nat.le_succ _)).setCell (p := ⟨w2.heap.size, 1, none⟩) (Nat.le_refl _) u)
                                                  refine hK.out _ _ ?_ (fun hHeld => ?_)
                                                  · exact ⟨(hb5.cell (p := ⟨w.heap.size, 0, none⟩) (Nat.lt_succ_of_lt hw1)).trans x0, (hb5.cell (p := ⟨w.heap.size, 1, none⟩) (Nat.lt_succ_of_lt hw1)).trans x1, (hb5.cell (p := ⟨w.heap.size + 1, 1, none⟩) (Nat.lt_succ_of_lt hw2)).trans y1, (hb5.cell (p := ⟨xb, xo + j, none⟩) (Nat.lt_succ_of_lt hxw)).trans hxk, (hb5.cell (p := ⟨yb, yo + k, none⟩) (Nat.lt_succ_of_lt hyw)).trans hyk⟩
                                                  clear hK K
                                                  (try simp only [Act.put, List.setIfInBounds_toArray, List.set_cons_zero, List.set_cons_succ, List.getElem_toArray, List.getElem_cons_zero, List.getElem_cons_succ])
                                                  refine wpAnyH_take (i := 19) (v := ?vvt20) rfl (by kernel_rfl) (by kernel_rfl) (by kernel_rfl) (fun _ _ _ h => h) (Or.inl ⟨by rfl, ?hyt20⟩) (by assumption) ?restt20
                                                  case hyt20 => (intro w hSw; (try dsimp only at hSw); go_simp; (try with_reducible rfl))
                                                  case restt20 =>
                                                    (try simp only [Act.put, List.setIfInBounds_toArray, List.set_cons_zero, List.set_cons_succ, List.getElem_toArray, List.getElem_cons_zero, List.getElem_cons_succ])
                                                    refine wpAnyH_ready (rs := [20]) (by kernel_rfl) (by simp) ?_
                                                    refine (AllReadyH.cons rfl (fun K hK => ?_) AllReadyH.nil)
                                                    go_simp
                                                    refine hK.out _ _ ?_ (fun hHeld => ?_)
                                                    · exact ⟨((hbs _).cell (p := ⟨w.heap.size, 0, none⟩) hw1).trans x0, ((hbs _).cell (p := ⟨w.heap.size, 1, none⟩) hw1).trans x1, ((hbs _).cell (p := ⟨w.heap.size + 1, 1, none⟩) hw2).trans y1, ((hbs _).cell (p := ⟨xb, xo + j, none⟩) hxw).trans hxk, ((hbs _).cell (p := ⟨yb, yo + k, none⟩) hyw).trans hyk⟩
                                                    clear hK K
                                                    (try simp only [Act.put, List.setIfInBounds_toArray, List.set_cons_zero, List.set_cons_succ, List.getElem_toArray, List.getElem_cons_zero, List.getElem_cons_succ])
                                                    refine wpAnyH_done (by kernel_rfl) ?_ _
                                                    go_wp2
                                                    go_roundw
                                                    case rel =>
                                                      refine ⟨j + 1, _, by omega, by go_num, block_setCell (i := 1) hblk5 _, ?_, BR.trans (hbs _)⟩
                                                      rw [hrt.out, ← List.append_assoc, ← HZ.out]
                                                      exact (Owns.push hown5).setBelow (p := ⟨w2.heap.size, 1, none⟩) (Nat.lt_succ_self _) _
                                                    case measure => simp [intOf]; omega
              · obtain rfl : j = xs.length := by omega
                rw [List.take_length] at hown
                go_wp2_with fail
                go_roundw
                case rel => exact ⟨k + 1, v, by omega, by go_num, hblk, by rw [hct.out]; exact hown, BR⟩
                case measure => simp only [intOf]; omega
          · obtain rfl : k = ys.length := by omega
            rw [List.take_length] at hown
            have hblk0 := SR.2.2.2.2.1
            have f0 := unfrozen_of_block hblk0 0
            have f1 := unfrozen_of_block hblk0 1
            have g0 := cell_of_block hblk0 0
            have g1 := cell_of_block hblk0 1
            have q0 := cell_of_block hblk 0
            have q1 := cell_of_block hblk 1
            have hle := S2.2.2.2.2.2.size
            obtain ⟨av, cv, rfl, iv, hg⟩ := hown.form
            go_wp2_with fail
            refine bodyPost_ret (ret_cross rfl _ _ _ _ _ rfl (block_setCell (i := 1) (block_setCell (i := 0) hblk0 _) _)) rfl ?_
            have e1 : crsN na xs nb ys = na + nb := if_pos HK.out
            have e2 : crsL na xs nb ys = crossL (pw na) xs ys := if_pos HK.out
            have e3 : crsB na xs nb ys = true := by simpa [crsB] using HK.out
            rw [e1, e2, e3]
            refine ⟨_, rfl, ?_, SR.set _ _⟩
            exact ((hown.setBelow (p := ⟨w.heap.size + 1 + 1, 0, none⟩) (Nat.lt_succ_of_lt (lt_of_block S2.2.2.2.2.1)) _).setBelow (p := ⟨w.heap.size + 1 + 1, 1, none⟩) (Nat.lt_succ_of_lt (lt_of_block S2.2.2.2.2.1)) _).le (Nat.le_succ_of_le hle)
end Go.Proofs.Ytbnnblfgpdfmpaa
