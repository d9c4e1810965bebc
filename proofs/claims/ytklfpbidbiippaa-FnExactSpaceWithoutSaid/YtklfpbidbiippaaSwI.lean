/- SpaceWithout in the program. -/
import Derived.Test.YtklfpbidbiippaaPairs
import Derived.Test.YtklfpbidbiippaaOpen
namespace Go.Proofs.Ytklfpbidbiippaa
open Go.RowKit Go.Joins

theorem swClosure_any (x c b : Int) (g : Nat) (w : World) (hc0 : w.cell? ⟨g, 0, none⟩ = some (.int .i64 x)) (hx : 0 ≤ x ∧ x ≤ 15) (hc : 0 ≤ c ∧ c ≤ 15) (hb : 0 ≤ b) :
    Calls Try.prog 136 #[.agg #[.int .i64 c, .int .i64 b], .pointer (some ⟨g, 0, none⟩)] w fun e w' => e = .returned (.bool (hpB x c b)) ∧ Below w.heap.size w w' := by
  have hlt := World.block_lt_of_cell? w ⟨g, 0, none⟩ hc0
  have c0 := ((bel1 w (.cells #[.int .i64 c, .int .i64 b] 80)).cell (p := ⟨g, 0, none⟩) hlt).trans hc0
  obtain ⟨_, p0, p1⟩ := PBox.new w c b 80
  have B1 := hide (bel1 w (.cells #[.int .i64 c, .int .i64 b] 80))
  go_enter Try.func136, Try.ntmps136
  go_wp2_with fail
  refine (hasPart_any _ _ _ _ hx hc hb).mono ?_
  rintro e w1 ⟨rfl, h1⟩
  go_wp2
  go_ret
  exact ⟨rfl, bnext B1.out h1⟩
/-- What slices.IndexFunc over parts leaves. -/
def IdxPPost (ps : List (Int × Int)) (x : Int) (w : World) (e : Ending) (w' : World) : Prop :=
  ∃ r : Int, ((freeB ps x = false ∧ 0 ≤ r) ∨ (freeB ps x = true ∧ r = -1)) ∧ r ≤ 1048576 ∧ e = .returned (.int .i64 r) ∧ Below w.heap.size w w'
theorem free_false {ps : List (Int × Int)} {x : Int} {k : Nat} (hk : k < ps.length) (h : hpB x ps[k].1 ps[k].2 = true) : freeB ps x = false := by
  unfold freeB
  rw [List.all_eq_false]
  exact ⟨ps[k], List.getElem_mem hk, by rw [h]; simp⟩
theorem free_true {ps : List (Int × Int)} {x : Int} (h : ∀ j, j < ps.length → hpB x (ps.getD j (0, 0)).1 (ps.getD j (0, 0)).2 = false) : freeB ps x = true := by
  unfold freeB
  rw [List.all_eq_true]
  intro p hp
  obtain ⟨j, hj, rfl⟩ := List.getElem_of_mem hp
  have := h j hj
  rw [pgetD_lt hj] at this
  rw [this]; rfl
set_option maxHeartbeats 1000000 in
theorem indexFuncP_any (x : Int) (a : Option Addr) (cap g : Nat) (ps : List (Int × Int)) (w : World) (hi : PInts w a ps) (hn : ps.length ≤ 1048576) (hc0 : w.cell? ⟨g, 0, none⟩ = some (.int .i64 x)) (hx : 0 ≤ x ∧ x ≤ 15) (hr : ∀ p ∈ ps, (0 ≤ p.1 ∧ p.1 ≤ 15) ∧ 0 ≤ p.2) :
    Calls Try.prog 155 #[.slice a ps.length cap, .func (.func 136) #[] #[.pointer (some ⟨g, 0, none⟩)]] w (IdxPPost ps x w) := by
  have hlt := World.block_lt_of_cell? w ⟨g, 0, none⟩ hc0
  have HX := hide hx
  have HR := hide hr
  have HC0 := hide hc0
  clear hx hr hc0
  go_enter Try.func155, Try.ntmps155
  go_wp2_with fail
  go_loopw [8] (fun i wr => ∃ k : Nat, k ≤ ps.length ∧ i = .int .i64 k ∧ (∀ j, j < k → hpB x (ps.getD j (0, 0)).1 (ps.getD j (0, 0)).2 = false) ∧ Below w.heap.size w wr) (fun i _ => ps.length - (intOf i).toNat)
  case atStart => exact ⟨0, Nat.zero_le _, rfl, fun j hj => by omega, Below.refl _ _⟩
  case round =>
    obtain ⟨k, hk, rfl, hall, hb⟩ := hrel
    have HA := hide hall
    clear hall
    by_cases hlt : k < ps.length
    · obtain ⟨bb, off, rfl, hbl, hc⟩ := (hi.below hb) (by omega)
      obtain ⟨h1, h2⟩ := hc k hlt
      rw [pgetD_lt hlt] at h1 h2
      have hm := HR.out _ (List.getElem_mem hlt)
      obtain ⟨pc, hpc⟩ : ∃ pc, pc = ps[k].1 := ⟨_, rfl⟩
      obtain ⟨pb, hpb⟩ : ∃ pb, pb = ps[k].2 := ⟨_, rfl⟩
      have hcl := hide ((hb.cell (p := ⟨g, 0, none⟩) (by assumption)).trans HC0.out)
      by_cases he : hpB x ps[k].1 ps[k].2 = true
      · have HF := hide (free_false hlt he)
        rw [← hpc, ← hpb] at he
        rw [← hpc] at h1 hm
        rw [← hpb] at h2 hm
        have HE := hide he
        have HM := hide hm
        clear hc hi he hpc hpb hm
        go_wp2_with fail
        refine (swClosure_any x _ _ _ _ hcl.out HX.out HM.out.1 HM.out.2).mono ?_
        rintro e w1 ⟨rfl, h1'⟩
        have he := HE.out
        go_wp2
        go_ret
        exact ⟨k, .inl ⟨HF.out, by omega⟩, by omega, rfl, bnext hb h1'⟩
      · have he : hpB x ps[k].1 ps[k].2 = false := by simpa using he
        have HN : Hid (hpB x (ps.getD k (0, 0)).1 (ps.getD k (0, 0)).2 = false) := by unfold Hid; rw [pgetD_lt hlt]; exact he
        rw [← hpc, ← hpb] at he
        rw [← hpc] at h1 hm
        rw [← hpb] at h2 hm
        have HE := hide he
        have HM := hide hm
        clear hc hi he hpc hpb hm
        go_wp2_with fail
        refine (swClosure_any x _ _ _ _ hcl.out HX.out HM.out.1 HM.out.2).mono ?_
        rintro e w1 ⟨rfl, h1'⟩
        have he := HE.out
        go_wp2
        go_roundw
        case rel => exact ⟨k + 1, by omega, by go_num, fun j hj => by
          rcases Nat.lt_or_ge j k with h | h
          · exact HA.out j h
          · obtain rfl : j = k := by omega
            exact HN.out, bnext hb h1'⟩
        case measure => simp only [intOf]; omega
    · obtain rfl : k = ps.length := by omega
      go_wp2
      go_ret
      exact ⟨-1, .inr ⟨free_true HA.out, rfl⟩, by omega, rfl, hb⟩
theorem containsFuncP_any (x : Int) (a : Option Addr) (cap g : Nat) (ps : List (Int × Int)) (w : World) (r : Bool) (hi : PInts w a ps) (hn : ps.length ≤ 1048576) (hc0 : w.cell? ⟨g, 0, none⟩ = some (.int .i64 x)) (hx : 0 ≤ x ∧ x ≤ 15) (hr : ∀ p ∈ ps, (0 ≤ p.1 ∧ p.1 ≤ 15) ∧ 0 ≤ p.2) (hf : freeB ps x = !r) :
    Calls Try.prog 135 #[.slice a ps.length cap, .func (.func 136) #[] #[.pointer (some ⟨g, 0, none⟩)]] w fun e w' => e = .returned (.bool r) ∧ Below w.heap.size w w' := by
  have HF := hide hf
  clear hf
  go_enter Try.func135, Try.ntmps135
  go_wp2_with fail
  refine (indexFuncP_any x _ _ _ _ _ hi hn hc0 hx hr).mono ?_
  rintro e w' ⟨i, hi', hr2, rfl, hb⟩
  cases r with
  | true =>
    have h0 : 0 ≤ i := by
      rcases hi' with ⟨_, h⟩ | ⟨h, _⟩
      · exact h
      · rw [HF.out] at h; cases h
    clear hi'
    go_wp2
    go_ret
    exact ⟨rfl, hb⟩
  | false =>
    have h0 : i < 0 := by
      rcases hi' with ⟨h, _⟩ | ⟨_, h⟩
      · rw [HF.out] at h; cases h
      · omega
    clear hi'
    go_wp2
    go_ret
    exact ⟨ret_bool (by simp; omega), hb⟩
theorem validIssues_yes (n : Int) (w : World) (h : 1 ≤ n ∧ n ≤ 4) : Calls Try.prog 88 #[.int .i64 n] w fun e w' => e = .returned (.bool true) ∧ w = w' :=
  (validIssues_any n w).mono fun _ _ ⟨he, hw⟩ => ⟨by rw [he, decide_eq_true h], hw⟩
theorem validIssues_no (n : Int) (w : World) (h : ¬ (1 ≤ n ∧ n ≤ 4)) : Calls Try.prog 88 #[.int .i64 n] w fun e w' => e = .returned (.bool false) ∧ w = w' :=
  (validIssues_any n w).mono fun _ _ ⟨he, hw⟩ => ⟨by rw [he, decide_eq_false h], hw⟩
theorem wrap_pow4 (n : Int) (h : n ≤ 4) : wrap64 (2 ^ n.toNat) = pw n := by
  have e : pw n = 2 ^ n.toNat := by unfold pw; rw [Int.natCast_pow]; rfl
  have h1 := pw_pos n
  have h2 := pw_le n h
  rw [← e]
  exact IntWalk.wrap64_in _ (by omega)
theorem isPart_is (n c b : Int) (w : World) (r : Bool) (h0 : 0 ≤ n) (h4 : n ≤ 4) (wb : (Lit.int .i64 b).wf = true) (hr : ptB n c b = r) :
    Calls Try.prog 134 #[.int .i64 n, .agg #[.int .i64 c, .int .i64 b]] w fun e w' => e = .returned (.bool r) ∧ Below w.heap.size w w' := by
  subst hr
  exact isPart_any n c b w h0 h4 wb
set_option maxHeartbeats 4000000 in
set_option maxRecDepth 100000 in
theorem implSw_any (n : Int) (l : Option Addr) (capl : Nat) (ps : List (Int × Int)) (w : World) (hj : PInts w l ps) (hm : ps.length ≤ 1048576) (hwf : ∀ p ∈ ps, (Lit.int .i64 p.2).wf = true) :
    Calls Try.prog 70 #[.int .i64 n, .slice l ps.length capl] w (GivesX (swN n ps) (swL n ps) (swB n ps) w) := by
  obtain ⟨i0, hi0, hz0, hz1, hz2⟩ := info_parts info_int
  have hres := heap_alloc_new w (.cells #[.int .i64 0, .slice none 0 0] 25)
  have B1 := hide (bel1 w (.cells #[.int .i64 0, .slice none 0 0] 25))
  have HRES := hide hres
  have HJ := hide hj
  have HWF := hide hwf
  have ENDNO : Hid (∀ W : World, Below w.heap.size w W → ¬ SwYes n ps → ∀ x y : Value, GivesX (swN n ps) (swL n ps) (swB n ps) w (.returned (.tuple #[.agg #[.int .i64 0, .slice none 0 0], .bool false])) ((W.setCell ⟨w.heap.size, 0, none⟩ x).setCell ⟨w.heap.size, 1, none⟩ y)) := fun W hB hno x y =>
    givesSw_no hno ((hB.setCell (p := ⟨w.heap.size, 0, none⟩) (Nat.le_refl _) _).setCell (p := ⟨w.heap.size, 1, none⟩) (Nat.le_refl _) _)
  clear hres hj hwf
  by_cases hn : 1 ≤ n ∧ n ≤ 4
  · have HN := hide hn
    have p1 := pw_pos n
    have p2 := pw_le n hn.2
    by_cases h10 : 10 < ps.length
    · have HNO : Hid (¬ SwYes n ps) := fun h => by have := h.1.2.1; omega
      have f0 := unfrozen_of_block HRES.out 0
      have f1 := unfrozen_of_block HRES.out 1
      have r0 := cell_of_block HRES.out 0
      have r1 := cell_of_block HRES.out 1
      clear hn
      go_enter Try.func70, Try.ntmps70
      go_wp2_with (go_at_call 88; refine (validIssues_yes _ _ HN.out).mono ?_; rintro e w' ⟨rfl, rfl⟩)
      refine bodyPost_ret (ret_cross rfl _ _ _ _ _ rfl HRES.out) rfl ?_
      exact givesSw_no HNO.out B1.out
    · have h10' : ps.length ≤ 10 := by omega
      have hp2 : pw n = ((2 ^ n.toNat : Nat) : Int) := rfl
      have hsh := wrap_pow4 n hn.2
      obtain ⟨q, hq⟩ : ∃ q, q = 2 ^ n.toNat := ⟨_, rfl⟩
      rw [← hq] at hp2
      have hq16 : q ≤ 16 := by omega
      have HQ := hide hq
      have HP2 := hide hp2
      rw [hp2] at hsh
      clear hq hp2 h10
      go_enter Try.func70, Try.ntmps70
      go_wp2_with (go_at_call 88; refine (validIssues_yes _ _ HN.out).mono ?_; rintro e w' ⟨rfl, rfl⟩)
      go_loopw [21] (fun i wr => ∃ k : Nat, k ≤ ps.length ∧ i = .int .i64 k ∧ (∀ j, j < k → IsPt n (ps.getD j (0, 0)).1 (ps.getD j (0, 0)).2) ∧ wr.heap[w.heap.size]? = some (.cells #[.int .i64 0, .slice none 0 0] 25 (0, 0)) ∧ Below w.heap.size w wr) (fun i _ => ps.length - (intOf i).toNat)
      case atStart => exact ⟨0, Nat.zero_le _, rfl, fun j hj => by omega, HRES.out, B1.out⟩
      case round =>
        obtain ⟨k, hk, rfl, hall, hres, BR⟩ := hrel
        have HA := hide hall
        have HRS := hide hres
        have BRH := hide BR
        have hsz := lt_of_block hres
        clear hall hres
        by_cases hlt : k < ps.length
        · obtain ⟨b, off, rfl, hbl, hc⟩ := (HJ.out.below BR) (by omega)
          obtain ⟨h1, h2⟩ := hc k hlt
          rw [pgetD_lt hlt] at h1 h2
          have hwf := HWF.out _ (List.getElem_mem hlt)
          obtain ⟨pc, hpc⟩ : ∃ pc, pc = ps[k].1 := ⟨_, rfl⟩
          obtain ⟨pb, hpb⟩ : ∃ pb, pb = ps[k].2 := ⟨_, rfl⟩
          rw [← hpc] at h1
          rw [← hpb] at h2 hwf
          have HPC := hide hpc
          have HPB := hide hpb
          have HW1 := hide hwf
          clear hc hpc hpb BR hwf
          obtain ⟨r, hr⟩ : ∃ r, ptB n pc pb = r := ⟨_, rfl⟩
          have HE := hide hr
          clear hr
          have BX := hide (bel1 wr (.cells #[.int .i64 pc, .int .i64 pb] 80))
          cases r with
          | true =>
            go_wp2_with fail
            refine (isPart_is n pc pb _ true (by have := HN.out; omega) (by have := HN.out; omega) HW1.out HE.out).mono ?_
            rintro e w3 ⟨rfl, hb3⟩
            have B3 := hide (bnext BX.out hb3)
            go_wp2
            go_roundw
            case rel => exact ⟨k + 1, by omega, by go_num, fun j hj => by
              rcases Nat.lt_or_ge j k with h | h
              · exact HA.out j h
              · obtain rfl : j = k := by omega
                rw [pgetD_lt hlt, ← HPC.out, ← HPB.out]
                simpa [ptB] using HE.out, (B3.out.block _ hsz).trans HRS.out, bnext BRH.out B3.out⟩
            case measure => simp only [intOf]; omega
          | false =>
            have HNO : Hid (¬ SwYes n ps) := fun h => by
              have h3 := h.1.2.2 k hlt
              rw [pgetD_lt hlt, ← HPC.out, ← HPB.out] at h3
              have h4 := ptB_true h3
              rw [HE.out] at h4
              cases h4
            go_wp2_with fail
            refine (isPart_is n pc pb _ false (by have := HN.out; omega) (by have := HN.out; omega) HW1.out HE.out).mono ?_
            rintro e w3 ⟨rfl, hb3⟩
            have B3 := hide (bnext BX.out hb3)
            have hres3 := (B3.out.block _ hsz).trans HRS.out
            have f0 := unfrozen_of_block hres3 0
            have f1 := unfrozen_of_block hres3 1
            have r0 := cell_of_block hres3 0
            have r1 := cell_of_block hres3 1
            have HR3 := hide hres3
            clear hres3 h1 h2 hb3
            go_wp2
            refine bodyPost_ret (ret_cross rfl _ _ _ _ _ rfl (block_setCell (i := 1) (block_setCell (i := 0) HR3.out _) _)) rfl ?_
            exact ENDNO.out _ (bnext BRH.out B3.out) HNO.out _ _
        · obtain rfl : k = ps.length := by omega
          have HOK : Hid (SwOk n ps) := ⟨HN.out, h10', HA.out⟩
          have HRG : Hid (∀ p ∈ ps, (0 ≤ p.1 ∧ p.1 ≤ 15) ∧ 0 ≤ p.2) := fun p hp => by
            obtain ⟨j, hj, rfl⟩ := List.getElem_of_mem hp
            have h := HOK.out.2.2 j hj
            rw [pgetD_lt hj] at h
            have h2 := pt_16 HN.out.2 h
            exact ⟨h2.1, h2.2.1⟩
          clear BR
          go_wp2_with fail
          simp only [hsh]
          go_loopw [8, 33] (fun v i wq => ∃ t : Nat, t ≤ q ∧ i = .int .i64 t ∧ Owns wq (w.heap.size + 1) v (swK ps t) ∧ wq.heap[w.heap.size]? = some (.cells #[.int .i64 0, .slice none 0 0] 25 (0, 0)) ∧ Below w.heap.size w wq) (fun _ i _ => q - (intOf i).toNat)
          case atStart => exact ⟨0, Nat.zero_le _, rfl, World.ownsRow_nil _ _ _ _, HRS.out, BRH.out⟩
          case round =>
            clear HRS BRH
            obtain ⟨t, ht, rfl, hown, hres, BQ⟩ := hrel
            have hgl := swK_len ps t
            obtain ⟨av, cv, rfl, _, _⟩ := hown.form
            have HO := hide hown
            have HRS := hide hres
            have BQH := hide BQ
            have hsz := lt_of_block hres
            clear hown hres BQ
            by_cases hlt : t < q
            · have hc0 := cell_of_block (heap_alloc_new wr (.cells #[.int .i64 (t : Int)] 3)) 0
              have HC0 := hide hc0
              have BX := hide (bel1 wr (.cells #[.int .i64 (t : Int)] 3))
              have HJ2 := hide (HJ.out.below (bnext BQH.out BX.out))
              have hbl2 : wr.heap.size < (wr.alloc (.cells #[.int .i64 (t : Int)] 3)).heap.size := by simp
              have HB2 := hide hbl2
              clear hc0 hbl2
              obtain ⟨r, hr⟩ : ∃ r, freeB ps (t : Int) = !r := ⟨!freeB ps (t : Int), by simp⟩
              have HF := hide hr
              clear hr
              cases r with
              | true =>
                have hsw := hide (swK_no (ps := ps) (t := t) HF.out)
                go_wp2_with fail
                refine (containsFuncP_any (t : Int) _ _ _ _ _ true HJ2.out hm HC0.out ⟨by omega, by omega⟩ HRG.out HF.out).mono ?_
                rintro e w4 ⟨rfl, hb4⟩
                have B4 := hide (bnext BX.out hb4)
                clear hb4
                go_wp2
                go_roundw
                case rel => exact ⟨t + 1, by omega, by go_num, by rw [hsw.out]; exact HO.out.below B4.out, (B4.out.block _ hsz).trans HRS.out, bnext BQH.out B4.out⟩
                case measure => simp only [intOf]; omega
              | false =>
                have hsw := hide (swK_yes (ps := ps) (t := t) HF.out)
                go_wp2_with fail
                refine (containsFuncP_any (t : Int) _ _ _ _ _ false HJ2.out hm HC0.out ⟨by omega, by omega⟩ HRG.out HF.out).mono ?_
                rintro e w4 ⟨rfl, hb4⟩
                have B4 := hide (bnext BX.out hb4)
                have k0 := (hb4.cell (p := ⟨wr.heap.size, 0, none⟩) HB2.out).trans HC0.out
                have hown := HO.out.below B4.out
                have BB := hide (bnext BQH.out B4.out)
                have hs4 := (B4.out.block _ hsz).trans HRS.out
                have hsz4 := lt_of_block hs4
                have HS4 := hide hs4
                clear hb4 hs4
                go_wp2_with ((at_builtin; refine wpList_append_own _ rfl _ _ 23 rfl (w.heap.size + 1) 3 i0 (.int .i64 0) 1 8 Try.underlying23 hi0 hz0 hz1 hz2 rfl (by decide) _ _ _ rfl (hown.alloc _) ⟨w4.heap.size, 0, none⟩ 1 1 [.int .i64 (t : Int)] rfl rfl (cell_one_new w4 _ _) (by intro u hu; simp at hu; subst hu; rfl) (by unfold maxLen; omega) (by omega) (by first | omega | (simp; omega)) ?_))

                intro v' w5 hown' hgrow _
                have hge := hide (own_ge hown)
                have O5 := Owns.push hown'
                rw [← hsw.out] at O5
                have BX4 := bel1 w4 (.cells #[.int .i64 (t : Int)] 3)
                have hs5 := hide ((hgrow.block w.heap.size (by simp; omega) (fun e => by have := hge.out _ e.symm; omega)).trans ((BX4.block _ hsz4).trans HS4.out))
                have B5 := hide (bgrown (bnext BB.out BX4) hgrow (by simp; omega) (fun k hk => by have := hge.out k hk; omega))
                obtain ⟨qa, qc, rfl, _, _⟩ := O5.form
                have HO5 := hide O5
                clear hown hown' hgrow O5 BX4 k0
                go_wp2
                go_roundw
                case rel => exact ⟨t + 1, by omega, by go_num, HO5.out, hs5.out, B5.out⟩
                case measure => simp only [intOf]; omega
            · obtain rfl : t = q := by omega
              have f0 := unfrozen_of_block HRS.out 0
              have f1 := unfrozen_of_block HRS.out 1
              have r0 := cell_of_block HRS.out 0
              have r1 := cell_of_block HRS.out 1
              by_cases hz : (swK ps t).length = 0
              · have hzz : (((swK ps t).length : Int) == 0) = true := by rw [hz]; rfl
                have HNO : Hid (¬ SwYes n ps) := fun h => h.2 (by rw [← HQ.out]; exact hz)
                clear hz
                go_wp2
                refine bodyPost_ret (ret_cross rfl _ _ _ _ _ rfl (block_setCell (i := 1) (block_setCell (i := 0) HRS.out _) _)) rfl ?_
                exact ENDNO.out _ BQH.out HNO.out _ _
              · have hzz : (((swK ps t).length : Int) == 0) = false := by simpa using hz
                have HYES : Hid (SwYes n ps) := ⟨HOK.out, by rw [← HQ.out]; exact hz⟩
                clear hz
                go_wp2
                refine bodyPost_ret (ret_cross rfl _ _ _ _ _ rfl (block_setCell (i := 1) (block_setCell (i := 0) HRS.out _) _)) rfl ?_
                have e1 : swN n ps = n := if_pos HYES.out
                have e2 : swL n ps = swK ps t := by unfold swL; rw [if_pos HYES.out, ← HQ.out]
                have e3 : swB n ps = true := by simpa [swB] using HYES.out
                rw [e1, e2, e3]
                exact ⟨_, rfl, ((HO.out.set2 (g := w.heap.size) (by omega) _ _)).le (by omega), ((BQH.out.setCell (p := ⟨w.heap.size, 0, none⟩) (Nat.le_refl _) _).setCell (p := ⟨w.heap.size, 1, none⟩) (Nat.le_refl _) _)⟩
  · have HN := hide hn
    have HNO : Hid (¬ SwYes n ps) := fun h => HN.out h.1.1
    have f0 := unfrozen_of_block HRES.out 0
    have f1 := unfrozen_of_block HRES.out 1
    have r0 := cell_of_block HRES.out 0
    have r1 := cell_of_block HRES.out 1
    clear hn
    go_enter Try.func70, Try.ntmps70
    go_wp2_with (go_at_call 88; refine (validIssues_no _ _ HN.out).mono ?_; rintro e w' ⟨rfl, rfl⟩)
    refine bodyPost_ret (ret_cross rfl _ _ _ _ _ rfl HRES.out) rfl ?_
    exact givesSw_no HNO.out B1.out
end Go.Proofs.Ytklfpbidbiippaa
