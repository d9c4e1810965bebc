/- The model's draw of a space. -/
import Derived.Test.YtbmodiobgkmngaaDrawS
import Derived.Handy
import Derived.Outline
import Derived.BigRegion
import Derived.Deep.RegionHeld3
import Derived.Deep.QuietTactic
import Derived.BigQuiet
import Derived.OwnWalk
import Derived.Deep.RegionLaw
import Derived.Deep.AppendLies
namespace Go.Proofs.Ytbmodiobgkmngaa
open Go.RowKit Go.Joins

theorem lit3 (w : World) (a b c : Int) : Ints (w.alloc (.cells #[.int .i64 a, .int .i64 b, .int .i64 c] 3)) (some ⟨w.heap.size, 0, none⟩) [a, b, c] := fun _ =>
  ⟨w.heap.size, 0, rfl, by simp, fun k hk => by
    match k, hk with
    | 0, _ => simp [go_sem]
    | 1, _ => simp [go_sem]
    | 2, _ => simp [go_sem]⟩

set_option maxHeartbeats 8000000 in
set_option maxRecDepth 100000 in
theorem spaceOf_any (R n : Nat) (m : Int) (w : World) (hr : RD w R n) (hn : n < 1073741000) (hm1 : 1 ≤ m) (hm4 : m ≤ 4) :
    Calls Try.prog 75 #[.pointer (some ⟨R, 0, none⟩), .int .i64 m] w (SpacePost R (n + 40) w) := by
  obtain ⟨i0, hi0, hz0, hz1, hz2⟩ := info_parts info_int
  obtain ⟨j0, hj0, hy0, hy1, hy2⟩ := info_parts info_part
  have hS := SI.new m hr
  have p1 := pw_pos m
  have p2 := pw_le m hm4
  have hp2 : pw m = ((2 ^ m.toNat : Nat) : Int) := rfl
  obtain ⟨q, hq⟩ : ∃ q, q = 2 ^ m.toNat := ⟨_, rfl⟩
  rw [← hq] at hp2
  have hq16 : q ≤ 16 := by omega
  have hq1 : 1 ≤ q := by omega
  clear hq
  go_enter Try.func75, Try.ntmps75
  go_wp2_with fail
  refine (pick_any R n _ _ hS.rd (by omega) ⟨by omega, by omega⟩).mono ?_
  rintro e w1 ⟨r, rfl, hr0, hrl, _, hg, hrd⟩
  have hr6 : r < 6 := hrl (by omega)
  have h1 := hS.pick hg hrd
  clear hS hg hrd hrl hr
  rcases (show r = 0 ∨ r = 1 ∨ r = 2 ∨ r = 3 ∨ 4 ≤ r from by omega) with rfl | rfl | rfl | rfl | h4
  · go_wp2_with fail
    go_loopw [6] (fun v wq => ∃ (t : Nat) (vv : Value) (zs : List Int), t ≤ q ∧ zs.length ≤ t ∧ v = .int .i64 t ∧ SI R w m (n + 1) vv zs wq) (fun v _ => q - (intOf v).toNat)
    case atStart => exact ⟨0, _, [], Nat.zero_le _, Nat.le_refl _, rfl, h1⟩
    case round =>
      clear h1
      obtain ⟨t, vv, zs, ht, hzt, rfl, hs⟩ := hrel
      by_cases hlt : t < q
      · go_wp2_with (first | (go_at_call 60; refine (power_any _ _ (by omega) (by omega)).mono ?_; rintro e w' ⟨rfl, rfl⟩) | (go_at_call 83; refine (bit01_any _ _ _ (by omega) ⟨by omega, by omega⟩).mono ?_; rintro e w' ⟨b, hb, rfl, rfl⟩))
        go_loop [8, 9] (fun a v => ∃ i B : Nat, (i : Int) < m ∧ B ≤ 1 ∧ v = .int .i64 i ∧ a = .int .i64 B) (fun _ v => 4 - (intOf v).toNat)
        case atStart => exact ⟨0, 1, by omega, by omega, rfl, rfl⟩
        case round =>
          obtain ⟨i, B, hi, hB, rfl, rfl⟩ := hrel
          by_cases hli : (i : Int) + 1 < m
          · rcases (show B = 0 ∨ B = 1 from by omega) with rfl | rfl
            · go_wp2_with (go_at_call 83; refine (bit01_any _ _ _ (by omega) ⟨by omega, by omega⟩).mono ?_; rintro e w' ⟨c, hc, rfl, rfl⟩)
              go_round
              case rel => exact ⟨i + 1, 0, by omega, by omega, by go_num, by go_num⟩
              case measure => simp only [intOf]; omega
            · go_wp2_with (go_at_call 83; refine (bit01_any _ _ _ (by omega) ⟨by omega, by omega⟩).mono ?_; rintro e w' ⟨c, hc, rfl, rfl⟩)
              go_round
              case rel => exact ⟨i + 1, c, by omega, by omega, by go_num, by go_num⟩
              case measure => simp only [intOf]; omega
          · by_cases hE : ((b : Int) == (B : Int)) = true
            · obtain ⟨av, cv, rfl, iv, _⟩ := hs.2.1.form
              have g1 := cell_of_block hs.1 1
              have f1 := unfrozen_of_block hs.1 1
              have hws : w.heap.size + 2 ≤ (wr).heap.size := hs.2.2.2.2.2.1
              have hown := hs.2.1
              have HS := hide hs
              clear iv hs
              go_wp2_with ((at_builtin; refine wpList_append_own _ rfl _ _ 23 rfl (w.heap.size + 2) 3 i0 (.int .i64 0) 1 8 Try.underlying23 hi0 hz0 hz1 hz2 rfl (by decide) _ _ _ rfl (hown.alloc _) ⟨(wr).heap.size, 0, none⟩ 1 1 [.int .i64 t] rfl rfl (cell_one_new (wr) _ _) (by intro u hu; simp at hu; subst hu; rfl) (by unfold maxLen; omega) (by omega) (by first | omega | (simp; omega)) ?_))

              intro v' w5 hown' hgrow _
              obtain ⟨HP, hb5⟩ := HS.out.push hgrow hown'
              obtain ⟨zz, hzz⟩ : ∃ zz : List Int, zz = zs ++ [(t : Int)] := ⟨_, rfl⟩
              rw [← hzz] at HP
              have hzl : zz.length ≤ t + 1 := by rw [hzz, List.length_append]; simp; omega
              obtain ⟨av', cv', rfl, _, _⟩ := HP.2.1.form
              have f5 := unfrozen_of_block hb5 1
              have g5 := cell_of_block hb5 1
              have HZ := hide hzl
              have HQ := hide HP
              clear hown hown' hgrow hb5 HP hzz hzl g1 f1 hws
              go_wp2
              go_roundw
              case rel => exact ⟨t + 1, _, zz, by omega, HZ.out, by go_num, HQ.out⟩
              case measure => simp only [intOf]; omega
            · have hE : ((b : Int) == (B : Int)) = false := by simpa using hE
              go_wp2
              go_roundw
              case rel => exact ⟨t + 1, vv, zs, by omega, by omega, by go_num, hs⟩
              case measure => simp only [intOf]; omega
      · obtain rfl : t = q := by omega
        obtain ⟨av, cv, rfl, iv, _⟩ := hs.2.1.form
        have g0 := cell_of_block hs.1 0
        have g1 := cell_of_block hs.1 1
        have f0 := unfrozen_of_block hs.2.2.1 0
        have f1 := unfrozen_of_block hs.2.2.1 1
        have r0 := cell_of_block hs.2.2.1 0
        have r1 := cell_of_block hs.2.2.1 1
        have HS := hide hs
        clear iv hs
        go_wp2_with (go_at_call 60; refine (power_any _ _ (by omega) (by omega)).mono ?_; rintro e w' ⟨rfl, rfl⟩)
        refine bodyPost_ret (ret_space rfl _ _ _ _ _ rfl (block_setCell (i := 1) (block_setCell (i := 0) HS.out.2.2.1 _) _)) rfl ?_
        exact HS.out.done (by omega) (by omega) _ _
  · go_wp2_with fail
    go_loopw [10] (fun v wq => ∃ (t : Nat) (vv : Value) (zs : List Int), t ≤ q ∧ zs.length ≤ t ∧ v = .int .i64 t ∧ SI R w m (n + 1) vv zs wq) (fun v _ => q - (intOf v).toNat)
    case atStart => exact ⟨0, _, [], Nat.zero_le _, Nat.le_refl _, rfl, h1⟩
    case round =>
      clear h1
      obtain ⟨t, vv, zs, ht, hzt, rfl, hs⟩ := hrel
      by_cases hlt : t < q
      · obtain ⟨a, zb, cap, p, hblk, hp, _, _, _⟩ := hs.rd
        have k1 := cell_of_block hblk 1
        have HT1 : Int.tmod (wt t : Int) 2 = ((wt t % 2 : Nat) : Int) := tmod_nat (wt t) 2
        have HT2 : Int.tmod (p : Int) 2 = ((p % 2 : Nat) : Int) := tmod_nat p 2
        obtain ⟨x2, hx2⟩ : ∃ x, x = wt t % 2 := ⟨_, rfl⟩
        obtain ⟨y2, hy2⟩ : ∃ x, x = p % 2 := ⟨_, rfl⟩
        rw [← hx2] at HT1
        rw [← hy2] at HT2
        have hlt16 : t < 16 := by omega
        have hx2' : x2 ≤ 1 := by omega
        have hy2' : y2 ≤ 1 := by omega
        clear hblk hx2 hy2
        by_cases hA : ((x2 : Int) == (y2 : Int)) = true
        · go_wp2_with (go_at_call 60; refine (power_any _ _ (by omega) (by omega)).mono ?_; rintro e w' ⟨rfl, rfl⟩)
          go_quiet ((go_at_call 88; exact quiet_left (weight_any _ _ hlt16)))
          have hs := hs.below (belN wr nq)
          generalize wr.drewN nq = wd at hs ⊢
          obtain ⟨av, cv, rfl, iv, _⟩ := hs.2.1.form
          have g1 := cell_of_block hs.1 1
          have f1 := unfrozen_of_block hs.1 1
          have hws : w.heap.size + 2 ≤ (wd).heap.size := hs.2.2.2.2.2.1
          have hown := hs.2.1
          have HS := hide hs
          clear iv hs
          go_wp2_with ((at_builtin; refine wpList_append_own _ rfl _ _ 23 rfl (w.heap.size + 2) 3 i0 (.int .i64 0) 1 8 Try.underlying23 hi0 hz0 hz1 hz2 rfl (by decide) _ _ _ rfl (hown.alloc _) ⟨(wd).heap.size, 0, none⟩ 1 1 [.int .i64 t] rfl rfl (cell_one_new (wd) _ _) (by intro u hu; simp at hu; subst hu; rfl) (by unfold maxLen; omega) (by omega) (by first | omega | (simp; omega)) ?_))

          intro v' w5 hown' hgrow _
          obtain ⟨HP, hb5⟩ := HS.out.push hgrow hown'
          obtain ⟨zz, hzz⟩ : ∃ zz : List Int, zz = zs ++ [(t : Int)] := ⟨_, rfl⟩
          rw [← hzz] at HP
          have hzl : zz.length ≤ t + 1 := by rw [hzz, List.length_append]; simp; omega
          obtain ⟨av', cv', rfl, _, _⟩ := HP.2.1.form
          have f5 := unfrozen_of_block hb5 1
          have g5 := cell_of_block hb5 1
          have HZ := hide hzl
          have HQ := hide HP
          clear hown hown' hgrow hb5 HP hzz hzl g1 f1 hws
          go_wp2
          go_roundw
          case rel => exact ⟨t + 1, _, zz, by omega, HZ.out, by go_num, HQ.out⟩
          case measure => simp only [intOf]; omega
        · have hA : ((x2 : Int) == (y2 : Int)) = false := by simpa using hA
          by_cases hM : (m == 1) = true
          · go_wp2_with (go_at_call 60; refine (power_any _ _ (by omega) (by omega)).mono ?_; rintro e w' ⟨rfl, rfl⟩)
            go_quiet ((go_at_call 88; exact quiet_left (weight_any _ _ hlt16)))
            have hs := hs.below (belN wr nq)
            generalize wr.drewN nq = wd at hs ⊢
            obtain ⟨av, cv, rfl, iv, _⟩ := hs.2.1.form
            have g1 := cell_of_block hs.1 1
            have f1 := unfrozen_of_block hs.1 1
            have hws : w.heap.size + 2 ≤ (wd).heap.size := hs.2.2.2.2.2.1
            have hown := hs.2.1
            have HS := hide hs
            clear iv hs
            go_wp2_with ((at_builtin; refine wpList_append_own _ rfl _ _ 23 rfl (w.heap.size + 2) 3 i0 (.int .i64 0) 1 8 Try.underlying23 hi0 hz0 hz1 hz2 rfl (by decide) _ _ _ rfl (hown.alloc _) ⟨(wd).heap.size, 0, none⟩ 1 1 [.int .i64 t] rfl rfl (cell_one_new (wd) _ _) (by intro u hu; simp at hu; subst hu; rfl) (by unfold maxLen; omega) (by omega) (by first | omega | (simp; omega)) ?_))

            intro v' w5 hown' hgrow _
            obtain ⟨HP, hb5⟩ := HS.out.push hgrow hown'
            obtain ⟨zz, hzz⟩ : ∃ zz : List Int, zz = zs ++ [(t : Int)] := ⟨_, rfl⟩
            rw [← hzz] at HP
            have hzl : zz.length ≤ t + 1 := by rw [hzz, List.length_append]; simp; omega
            obtain ⟨av', cv', rfl, _, _⟩ := HP.2.1.form
            have f5 := unfrozen_of_block hb5 1
            have g5 := cell_of_block hb5 1
            have HZ := hide hzl
            have HQ := hide HP
            clear hown hown' hgrow hb5 HP hzz hzl g1 f1 hws
            go_wp2
            go_roundw
            case rel => exact ⟨t + 1, _, zz, by omega, HZ.out, by go_num, HQ.out⟩
            case measure => simp only [intOf]; omega
          · have hM : (m == 1) = false := by simpa using hM
            go_wp2_with (go_at_call 60; refine (power_any _ _ (by omega) (by omega)).mono ?_; rintro e w' ⟨rfl, rfl⟩)
            go_quiet ((go_at_call 88; exact quiet_left (weight_any _ _ hlt16)))
            go_wp2
            go_roundw
            case rel => exact ⟨t + 1, vv, zs, by omega, by omega, by go_num, hs.below (belN _ _)⟩
            case measure => simp only [intOf]; omega
      · obtain rfl : t = q := by omega
        obtain ⟨av, cv, rfl, iv, _⟩ := hs.2.1.form
        have g0 := cell_of_block hs.1 0
        have g1 := cell_of_block hs.1 1
        have f0 := unfrozen_of_block hs.2.2.1 0
        have f1 := unfrozen_of_block hs.2.2.1 1
        have r0 := cell_of_block hs.2.2.1 0
        have r1 := cell_of_block hs.2.2.1 1
        have HS := hide hs
        clear iv hs
        go_wp2_with (go_at_call 60; refine (power_any _ _ (by omega) (by omega)).mono ?_; rintro e w' ⟨rfl, rfl⟩)
        refine bodyPost_ret (ret_space rfl _ _ _ _ _ rfl (block_setCell (i := 1) (block_setCell (i := 0) HS.out.2.2.1 _) _)) rfl ?_
        exact HS.out.done (by omega) (by omega) _ _
  · go_wp2_with fail
    refine (pick_any R (n + 1) _ _ h1.rd (by omega) ⟨by omega, by omega⟩).mono ?_
    rintro e w2 ⟨k, rfl, hk0, hkl, _, hg, hrd⟩
    have hk4 : k < m := hkl (by omega)
    have h1 := h1.pick hg hrd
    clear hkl hg hrd
    go_wp2_with fail
    go_loopw [12] (fun v wq => ∃ (t : Nat) (vv : Value) (zs : List Int), t ≤ q ∧ zs.length ≤ t ∧ v = .int .i64 t ∧ SI R w m (n + 2) vv zs wq) (fun v _ => q - (intOf v).toNat)
    case atStart => exact ⟨0, _, [], Nat.zero_le _, Nat.le_refl _, rfl, h1⟩
    case round =>
      clear h1
      obtain ⟨t, vv, zs, ht, hzt, rfl, hs⟩ := hrel
      by_cases hlt : t < q
      · have hwt := wt_le t
        by_cases hle : (wt t : Int) ≤ 1 + k
        · obtain ⟨av, cv, rfl, iv, _⟩ := hs.2.1.form
          have g1 := cell_of_block hs.1 1
          have f1 := unfrozen_of_block hs.1 1
          have hws : w.heap.size + 2 ≤ (wr).heap.size := hs.2.2.2.2.2.1
          have hown := hs.2.1
          have HS := hide hs
          clear iv hs
          go_wp2_with (first | (at_builtin; refine wpList_append_own _ rfl _ _ 23 rfl (w.heap.size + 2) 3 i0 (.int .i64 0) 1 8 Try.underlying23 hi0 hz0 hz1 hz2 rfl (by decide) _ _ _ rfl (hown.alloc _) ⟨(wr).heap.size, 0, none⟩ 1 1 [.int .i64 t] rfl rfl (cell_one_new (wr) _ _) (by intro u hu; simp at hu; subst hu; rfl) (by unfold maxLen; omega) (by omega) (by first | omega | (simp; omega)) ?_) | (go_at_call 60; refine (power_any _ _ (by omega) (by omega)).mono ?_; rintro e w' ⟨rfl, rfl⟩) | (go_at_call 88; refine (weight_any _ _ (by omega)).mono ?_; rintro e w' ⟨rfl, rfl⟩))

          intro v' w5 hown' hgrow _
          obtain ⟨HP, hb5⟩ := HS.out.push hgrow hown'
          obtain ⟨zz, hzz⟩ : ∃ zz : List Int, zz = zs ++ [(t : Int)] := ⟨_, rfl⟩
          rw [← hzz] at HP
          have hzl : zz.length ≤ t + 1 := by rw [hzz, List.length_append]; simp; omega
          obtain ⟨av', cv', rfl, _, _⟩ := HP.2.1.form
          have f5 := unfrozen_of_block hb5 1
          have g5 := cell_of_block hb5 1
          have HZ := hide hzl
          have HQ := hide HP
          clear hown hown' hgrow hb5 HP hzz hzl g1 f1 hws
          go_wp2
          go_roundw
          case rel => exact ⟨t + 1, _, zz, by omega, HZ.out, by go_num, HQ.out⟩
          case measure => simp only [intOf]; omega
        · go_wp2_with (first | (go_at_call 60; refine (power_any _ _ (by omega) (by omega)).mono ?_; rintro e w' ⟨rfl, rfl⟩) | (go_at_call 88; refine (weight_any _ _ (by omega)).mono ?_; rintro e w' ⟨rfl, rfl⟩))
          go_roundw
          case rel => exact ⟨t + 1, vv, zs, by omega, by omega, by go_num, hs⟩
          case measure => simp only [intOf]; omega
      · obtain rfl : t = q := by omega
        obtain ⟨av, cv, rfl, iv, _⟩ := hs.2.1.form
        have g0 := cell_of_block hs.1 0
        have g1 := cell_of_block hs.1 1
        have f0 := unfrozen_of_block hs.2.2.1 0
        have f1 := unfrozen_of_block hs.2.2.1 1
        have r0 := cell_of_block hs.2.2.1 0
        have r1 := cell_of_block hs.2.2.1 1
        have HS := hide hs
        clear iv hs
        go_wp2_with (go_at_call 60; refine (power_any _ _ (by omega) (by omega)).mono ?_; rintro e w' ⟨rfl, rfl⟩)
        refine bodyPost_ret (ret_space rfl _ _ _ _ _ rfl (block_setCell (i := 1) (block_setCell (i := 0) HS.out.2.2.1 _) _)) rfl ?_
        exact HS.out.done (by omega) (by omega) _ _
  · have hRs : R < w.heap.size := h1.2.2.2.2.2.2
    have hws1 : w.heap.size + 2 ≤ w1.heap.size := h1.2.2.2.2.2.1
    have hop := OwnsP.empty w1 hws1
    have hs := h1.below (bel1 w1 (.cells #[] 79))
    clear h1
    go_wp2_with fail
    refine (pick_any R _ _ _ hs.rd (by omega) ⟨by omega, by omega⟩).mono ?_
    rintro e w2 ⟨k, rfl, hk0, hkl, _, hg, hrd⟩
    have hs := hs.pick hg hrd
    have hop := hop.other hg (fun g e => by cases e; omega)
    clear hg hrd
    have hk3 : k < 3 := hkl (by omega)
    clear hkl
    go_wp2_with fail
    go_loopw [13] (fun v wq => ∃ ps : List (Int × Int), (ps.length : Int) ≤ 1 + k ∧ OwnsP wq (w.heap.size + 2) v ps ∧ SI R w m (n + 2 + 3 * ps.length) (.slice none 0 0) [] wq) (fun v _ => lackOf 3 v)
    case atStart => exact ⟨[], by simp; omega, hop, hs⟩
    case round =>
      clear hop hs
      obtain ⟨ps, hps, hop, hs⟩ := hrel
      have hpl : ps.length ≤ 3 := by omega
      by_cases hlt : (ps.length : Int) < 1 + k
      · obtain ⟨pa, pc, rfl, hpi⟩ := hop.form
        go_wp2_with fail
        refine (pick_any R _ _ _ hs.rd (by omega) ⟨by omega, by omega⟩).mono ?_
        rintro e w3 ⟨a, rfl, ha0, hal, _, hg, hrd⟩
        have hs := hs.pick hg hrd
        have hop := hop.other hg (fun g e => by cases e; omega)
        clear hg hrd
        have ha4 : a < m := hal (by omega)
        clear hal hpi
        go_wp2_with fail
        refine (pick_any R _ _ _ hs.rd (by omega) ⟨by omega, by omega⟩).mono ?_
        rintro e w4 ⟨b, rfl, hb0, hbl, _, hg, hrd⟩
        have hs := hs.pick hg hrd
        have hop := hop.other hg (fun g e => by cases e; omega)
        clear hg hrd
        have hb4 : b < m := hbl (by omega)
        clear hbl
        go_wp2_with (go_at_call 60; refine (power_any _ _ (by omega) (by omega)).mono ?_; rintro e w' ⟨rfl, rfl⟩)
        refine (pick_any R _ _ _ hs.rd (by omega) ⟨by omega, by omega⟩).mono ?_
        rintro e w5 ⟨c, rfl, hc0, hcl, _, hg, hrd⟩
        have hs := hs.pick hg hrd
        have hop := hop.other hg (fun g e => by cases e; omega)
        clear hg hrd
        have hws : w.heap.size + 2 ≤ w5.heap.size := hs.2.2.2.2.2.1
        clear hcl
        go_wp2_with ((at_builtin; refine wpList_append_own _ rfl _ _ 76 rfl (w.heap.size + 2) 79 j0 (.agg #[.int .i64 0, .int .i64 0]) 2 16 Try.underlying76 hj0 hy0 hy1 hy2 rfl (by decide) _ _ _ rfl (hop.alloc _) ⟨w5.heap.size, 0, none⟩ 1 1 [.int .i64 (bits .or .i64 (pw a) (pw b)), .int .i64 (bits .and .i64 c (bits .or .i64 (pw a) (pw b)))] rfl rfl (World.news_of_block (cs := #[.int .i64 (bits .or .i64 (pw a) (pw b)), .int .i64 (bits .and .i64 c (bits .or .i64 (pw a) (pw b)))]) (t := 79) (fr := (0, 0)) (heap_alloc_new w5 _)) (by intro u hu; simp at hu; rcases hu with rfl | rfl <;> rfl) (by unfold maxLen; omega) (by omega) (by first | omega | (simp; omega)) ?_))
        intro v' w6 hown' hgrow _
        have hop6 := OwnsP.push hown'
        have hs6 := hs.pushP hop ⟨rfl, rfl⟩ hgrow
        obtain ⟨pq, hpq⟩ : ∃ pq, pq = ps ++ [(bits .or .i64 (pw a) (pw b), bits .and .i64 c (bits .or .i64 (pw a) (pw b)))] := ⟨_, rfl⟩
        rw [← hpq] at hop6
        have hql : pq.length = ps.length + 1 := by rw [hpq, List.length_append]; rfl
        obtain ⟨qa, qc, rfl, _⟩ := hop6.form
        have HQ := hide hop6
        have HL := hide hql
        have HS := hide hs6
        clear hown' hgrow hop hs hop6 hs6 hpq hql
        go_wp2
        go_roundw
        case rel => exact ⟨pq, by have := HL.out; omega, HQ.out, HS.out.more (by have := HL.out; omega)⟩
        case measure => simp only [lackOf]; have := HL.out; omega
      · obtain ⟨pa, pc, rfl, hpi⟩ := hop.form
        go_wp2_with fail
        refine (specSw_any m pa pc ps _ hpi (by omega)).mono ?_
        rintro e w6 ⟨v, rfl, hown, hB⟩
        have hL := swL_len m ps
        have hN5 := swN_le (n := m) ps hm4
        have hs6 := hs.below hB
        generalize swN m ps = N' at *
        generalize swL m ps = L at *
        obtain ⟨av, cv, rfl, iv, _⟩ := hown.form
        cases swB m ps with
        | true =>
          have hs7 := hs6.below (bel1 w6 (.cells #[.int .i64 N', .slice av L.length cv] 25))
          have f0 := unfrozen_of_block hs7.2.2.1 0
          have f1 := unfrozen_of_block hs7.2.2.1 1
          have r0 := cell_of_block hs7.2.2.1 0
          have r1 := cell_of_block hs7.2.2.1 1
          have HS := hide hs
          have HO := hide hown
          have HS7 := hide hs7
          clear iv hs hs6 hs7 hown
          go_wp2_with fail
          refine bodyPost_ret (ret_space rfl _ _ _ _ _ rfl (block_setCell (i := 1) (block_setCell (i := 0) HS7.out.2.2.1 _) _)) rfl ?_
          exact HS.out.out hB HO.out (by omega) (by omega) _ _
        | false =>
          have h1 := (hs6.below (bel1 w6 (.cells #[.int .i64 N', .slice av L.length cv] 25))).more (show _ ≤ n + 11 by omega)
          clear iv hs hs6 hown hop
          go_upto_region 42 with fail
          generalize w6.alloc (.cells #[.int .i64 N', .slice av L.length cv] 25) = w9 at h1 ⊢
          go_wp2_with fail
          have hl3 := lit3 w9 2 3 4
          have hs1 := h1.below (bel1 w9 (.cells #[.int .i64 2, .int .i64 3, .int .i64 4] 3))
          have hRw : R < w9.heap.size := h1.rd.lt
          have ho := one_any R (n + 11) 3 _ _ _ hs1.rd (by omega) hl3 (by simp) (by simp) (fun b o s e => by cases e; omega)
          refine ho.mono ?_
          rintro e w2 ⟨x, hx, rfl, g, rd⟩
          have h1 := hs1.pick g rd
          have hx' : 2 ≤ x ∧ x ≤ 4 := by
            simp only [List.mem_cons, List.not_mem_nil, or_false] at hx
            omega
          clear hx ho g rd hs1 hl3
          go_wp2_with fail
          go_loopw [21] (fun v wq => ∃ (t : Nat) (vv : Value) (zs : List Int), t ≤ q ∧ zs.length ≤ t ∧ v = .int .i64 t ∧ SI R w m (n + 11 + 1 + t) vv zs wq) (fun v _ => q - (intOf v).toNat)
          case atStart => exact ⟨0, _, [], Nat.zero_le _, Nat.le_refl _, rfl, h1⟩
          case round =>
            clear h1
            obtain ⟨t, vv, zs, ht, hzt, rfl, hs⟩ := hrel
            by_cases hlt : t < q
            · go_wp2_with (go_at_call 60; refine (power_any _ _ (by omega) (by omega)).mono ?_; rintro e w' ⟨rfl, rfl⟩)
              refine (pick_any R (n + 11 + 1 + t) _ _ hs.rd (by omega) ⟨by omega, by omega⟩).mono ?_
              rintro e w3 ⟨y, rfl, hy0, _, _, g, rd⟩
              have hs := hs.pick g rd
              clear g rd
              by_cases hy : 0 < y
              · obtain ⟨av, cv, rfl, iv, _⟩ := hs.2.1.form
                have g1 := cell_of_block hs.1 1
                have f1 := unfrozen_of_block hs.1 1
                have hws : w.heap.size + 2 ≤ (w3).heap.size := hs.2.2.2.2.2.1
                have hown := hs.2.1
                have HS := hide hs
                clear iv hs
                go_wp2_with ((at_builtin; refine wpList_append_own _ rfl _ _ 23 rfl (w.heap.size + 2) 3 i0 (.int .i64 0) 1 8 Try.underlying23 hi0 hz0 hz1 hz2 rfl (by decide) _ _ _ rfl (hown.alloc _) ⟨(w3).heap.size, 0, none⟩ 1 1 [.int .i64 t] rfl rfl (cell_one_new (w3) _ _) (by intro u hu; simp at hu; subst hu; rfl) (by unfold maxLen; omega) (by omega) (by first | omega | (simp; omega)) ?_))

                intro v' w5 hown' hgrow _
                obtain ⟨HP, hb5⟩ := HS.out.push hgrow hown'
                obtain ⟨zz, hzz⟩ : ∃ zz : List Int, zz = zs ++ [(t : Int)] := ⟨_, rfl⟩
                rw [← hzz] at HP
                have hzl : zz.length ≤ t + 1 := by rw [hzz, List.length_append]; simp; omega
                obtain ⟨av', cv', rfl, _, _⟩ := HP.2.1.form
                have f5 := unfrozen_of_block hb5 1
                have g5 := cell_of_block hb5 1
                have HZ := hide hzl
                have HQ := hide HP
                clear hown hown' hgrow hb5 HP hzz hzl g1 f1 hws
                go_wp2
                go_roundw
                case rel => exact ⟨t + 1, _, zz, by omega, HZ.out, by go_num, HQ.out⟩
                case measure => simp only [intOf]; omega
              · go_wp2
                go_roundw
                case rel => exact ⟨t + 1, vv, zs, by omega, by omega, by go_num, hs⟩
                case measure => simp only [intOf]; omega
            · obtain rfl : t = q := by omega
              by_cases hz : zs.length = 0
              · have hZ : ((zs.length : Int) == 0) = true := by rw [hz]; rfl
                have hzs : zs = [] := List.length_eq_zero_iff.1 hz
                subst hzs
                obtain ⟨av, cv, rfl, iv, _⟩ := hs.2.1.form
                have g1 := cell_of_block hs.1 1
                have HS0 := hide hs
                clear iv hs
                go_upto_region 49 with (go_at_call 60; refine (power_any _ _ (by omega) (by omega)).mono ?_; rintro e w' ⟨rfl, rfl⟩)
                have hs := HS0.out
                have hsd := hs.drew
                have d1 := cell_of_block hsd.1 1
                have hRs : R < w.heap.size := hs.2.2.2.2.2.2
                clear hs
                go_region_law (first
                  | (go_simp; go_at_call 60; refine (power_any _ _ (by omega) (by omega)).mono ?_; rintro e w' ⟨rfl, rfl⟩; go_wp2_with fail)
                  | (go_simp; go_at_call 50; refine (pick_any R _ _ _ hsd.rd (by omega) ⟨by omega, by omega⟩).mono ?_; rintro e w3 ⟨y, rfl, hy0, _, _, g3, rd3⟩; have hs3 := hsd.pick g3 rd3; have k3 := cell_of_block hs3.1 1; have hown3 := hs3.2.1; have hw3 : w.heap.size + 2 ≤ w3.heap.size := hs3.2.2.2.2.2.1; have k4 : ∀ o : Obj, (w3.alloc o).cell? ⟨w.heap.size + 1, 1, none⟩ = some (.slice av 0 cv) := fun o => cell_of_block (hs3.below (bel1 w3 o)).1 1; go_wp2_with fail)
                  | (refine step_append_lies _ (by rfl) _ _ _ (by rfl) (w.heap.size + 2) 3 i0 (.int .i64 0) 1 8 Try.underlying23 hi0 hz0 hz1 hz2 rfl (by decide) _ _ _ (by rfl) (hown3.alloc _) ⟨w3.heap.size, 0, none⟩ 1 1 [.int .i64 y] (by rfl) (by rfl) (World.news_of_block (cs := #[.int .i64 y]) (t := 3) (fr := (0, 0)) (heap_alloc_new w3 _)) (by simp [Value.oneCell']) (by omega) (by unfold maxLen; simp) (by simp) (by simp; omega) (w3.heap.size + 1) (by simp) ?_; intro gg cc w5 hown5 hgrow hat hltg; obtain ⟨HP5, hb5⟩ := hs3.push hgrow hown5; have f5 := unfrozen_of_block hb5 1; have g5 := cell_of_block hb5 1))
                all_goals
                  have HP5 : SI R w m _ (.slice (some ⟨gg, 0, none⟩) 1 cc) [y] (w5.setCell ⟨w.heap.size + 1, 1, none⟩ (.slice (some ⟨gg, 0, none⟩) 1 cc)) := HP5
                  have r0 := cell_of_block HP5.2.2.1 0
                  have r1 := cell_of_block HP5.2.2.1 1
                  have f0 := unfrozen_of_block HP5.2.2.1 0
                  have f1 := unfrozen_of_block HP5.2.2.1 1
                  have q0 := cell_of_block HP5.1 0
                  have q1 := cell_of_block HP5.1 1
                  go_wp2_with fail
                  refine bodyPost_ret (ret_space rfl _ _ _ _ _ rfl (block_setCell (i := 1) (block_setCell (i := 0) HP5.2.2.1 _) _)) rfl ?_
                  exact HP5.done ⟨by simp, by omega⟩ (by omega) _ _
              · have hZ : ((zs.length : Int) == 0) = false := by rw [beq_eq_false_iff_ne]; omega
                obtain ⟨av, cv, rfl, iv, _⟩ := hs.2.1.form
                have g0 := cell_of_block hs.1 0
                have g1 := cell_of_block hs.1 1
                have f0 := unfrozen_of_block hs.2.2.1 0
                have f1 := unfrozen_of_block hs.2.2.1 1
                have r0 := cell_of_block hs.2.2.1 0
                have r1 := cell_of_block hs.2.2.1 1
                have HS := hide hs
                clear iv hs
                go_wp2_with (go_at_call 60; refine (power_any _ _ (by omega) (by omega)).mono ?_; rintro e w' ⟨rfl, rfl⟩)
                refine bodyPost_ret (ret_space rfl _ _ _ _ _ rfl (block_setCell (i := 1) (block_setCell (i := 0) HS.out.2.2.1 _) _)) rfl ?_
                exact HS.out.done (by omega) (by omega) _ _
  · have e0 : (r == 0) = false := by rw [beq_eq_false_iff_ne]; omega
    have e1 : (r == 1) = false := by rw [beq_eq_false_iff_ne]; omega
    have e2 : (r == 2) = false := by rw [beq_eq_false_iff_ne]; omega
    have e3 : (r == 3) = false := by rw [beq_eq_false_iff_ne]; omega
    go_wp2_with fail
    have hl3 := lit3 w1 2 3 4
    have hs1 := h1.below (bel1 w1 (.cells #[.int .i64 2, .int .i64 3, .int .i64 4] 3))
    have hRw : R < w1.heap.size := h1.rd.lt
    have ho := one_any R (n + 1) 3 _ _ _ hs1.rd (by omega) hl3 (by simp) (by simp) (fun b o s e => by cases e; omega)
    refine ho.mono ?_
    rintro e w2 ⟨x, hx, rfl, g, rd⟩
    have h1 := hs1.pick g rd
    have hx' : 2 ≤ x ∧ x ≤ 4 := by
      simp only [List.mem_cons, List.not_mem_nil, or_false] at hx
      omega
    clear hx ho g rd hs1 hl3
    go_wp2_with fail
    go_loopw [21] (fun v wq => ∃ (t : Nat) (vv : Value) (zs : List Int), t ≤ q ∧ zs.length ≤ t ∧ v = .int .i64 t ∧ SI R w m (n + 1 + 1 + t) vv zs wq) (fun v _ => q - (intOf v).toNat)
    case atStart => exact ⟨0, _, [], Nat.zero_le _, Nat.le_refl _, rfl, h1⟩
    case round =>
      clear h1
      obtain ⟨t, vv, zs, ht, hzt, rfl, hs⟩ := hrel
      by_cases hlt : t < q
      · go_wp2_with (go_at_call 60; refine (power_any _ _ (by omega) (by omega)).mono ?_; rintro e w' ⟨rfl, rfl⟩)
        refine (pick_any R (n + 1 + 1 + t) _ _ hs.rd (by omega) ⟨by omega, by omega⟩).mono ?_
        rintro e w3 ⟨y, rfl, hy0, _, _, g, rd⟩
        have hs := hs.pick g rd
        clear g rd
        by_cases hy : 0 < y
        · obtain ⟨av, cv, rfl, iv, _⟩ := hs.2.1.form
          have g1 := cell_of_block hs.1 1
          have f1 := unfrozen_of_block hs.1 1
          have hws : w.heap.size + 2 ≤ (w3).heap.size := hs.2.2.2.2.2.1
          have hown := hs.2.1
          have HS := hide hs
          clear iv hs
          go_wp2_with ((at_builtin; refine wpList_append_own _ rfl _ _ 23 rfl (w.heap.size + 2) 3 i0 (.int .i64 0) 1 8 Try.underlying23 hi0 hz0 hz1 hz2 rfl (by decide) _ _ _ rfl (hown.alloc _) ⟨(w3).heap.size, 0, none⟩ 1 1 [.int .i64 t] rfl rfl (cell_one_new (w3) _ _) (by intro u hu; simp at hu; subst hu; rfl) (by unfold maxLen; omega) (by omega) (by first | omega | (simp; omega)) ?_))

          intro v' w5 hown' hgrow _
          obtain ⟨HP, hb5⟩ := HS.out.push hgrow hown'
          obtain ⟨zz, hzz⟩ : ∃ zz : List Int, zz = zs ++ [(t : Int)] := ⟨_, rfl⟩
          rw [← hzz] at HP
          have hzl : zz.length ≤ t + 1 := by rw [hzz, List.length_append]; simp; omega
          obtain ⟨av', cv', rfl, _, _⟩ := HP.2.1.form
          have f5 := unfrozen_of_block hb5 1
          have g5 := cell_of_block hb5 1
          have HZ := hide hzl
          have HQ := hide HP
          clear hown hown' hgrow hb5 HP hzz hzl g1 f1 hws
          go_wp2
          go_roundw
          case rel => exact ⟨t + 1, _, zz, by omega, HZ.out, by go_num, HQ.out⟩
          case measure => simp only [intOf]; omega
        · go_wp2
          go_roundw
          case rel => exact ⟨t + 1, vv, zs, by omega, by omega, by go_num, hs⟩
          case measure => simp only [intOf]; omega
      · obtain rfl : t = q := by omega
        by_cases hz : zs.length = 0
        · have hZ : ((zs.length : Int) == 0) = true := by rw [hz]; rfl
          have hzs : zs = [] := List.length_eq_zero_iff.1 hz
          subst hzs
          obtain ⟨av, cv, rfl, iv, _⟩ := hs.2.1.form
          have g1 := cell_of_block hs.1 1
          have HS0 := hide hs
          clear iv hs
          go_upto_region 49 with (go_at_call 60; refine (power_any _ _ (by omega) (by omega)).mono ?_; rintro e w' ⟨rfl, rfl⟩)
          have hs := HS0.out
          have hsd := hs.drew
          have d1 := cell_of_block hsd.1 1
          have hRs : R < w.heap.size := hs.2.2.2.2.2.2
          clear hs
          go_region_law (first
            | (go_simp; go_at_call 60; refine (power_any _ _ (by omega) (by omega)).mono ?_; rintro e w' ⟨rfl, rfl⟩; go_wp2_with fail)
            | (go_simp; go_at_call 50; refine (pick_any R _ _ _ hsd.rd (by omega) ⟨by omega, by omega⟩).mono ?_; rintro e w3 ⟨y, rfl, hy0, _, _, g3, rd3⟩; have hs3 := hsd.pick g3 rd3; have k3 := cell_of_block hs3.1 1; have hown3 := hs3.2.1; have hw3 : w.heap.size + 2 ≤ w3.heap.size := hs3.2.2.2.2.2.1; have k4 : ∀ o : Obj, (w3.alloc o).cell? ⟨w.heap.size + 1, 1, none⟩ = some (.slice av 0 cv) := fun o => cell_of_block (hs3.below (bel1 w3 o)).1 1; go_wp2_with fail)
            | (refine step_append_lies _ (by rfl) _ _ _ (by rfl) (w.heap.size + 2) 3 i0 (.int .i64 0) 1 8 Try.underlying23 hi0 hz0 hz1 hz2 rfl (by decide) _ _ _ (by rfl) (hown3.alloc _) ⟨w3.heap.size, 0, none⟩ 1 1 [.int .i64 y] (by rfl) (by rfl) (World.news_of_block (cs := #[.int .i64 y]) (t := 3) (fr := (0, 0)) (heap_alloc_new w3 _)) (by simp [Value.oneCell']) (by omega) (by unfold maxLen; simp) (by simp) (by simp; omega) (w3.heap.size + 1) (by simp) ?_; intro gg cc w5 hown5 hgrow hat hltg; obtain ⟨HP5, hb5⟩ := hs3.push hgrow hown5; have f5 := unfrozen_of_block hb5 1; have g5 := cell_of_block hb5 1))
          all_goals
            have HP5 : SI R w m _ (.slice (some ⟨gg, 0, none⟩) 1 cc) [y] (w5.setCell ⟨w.heap.size + 1, 1, none⟩ (.slice (some ⟨gg, 0, none⟩) 1 cc)) := HP5
            have r0 := cell_of_block HP5.2.2.1 0
            have r1 := cell_of_block HP5.2.2.1 1
            have f0 := unfrozen_of_block HP5.2.2.1 0
            have f1 := unfrozen_of_block HP5.2.2.1 1
            have q0 := cell_of_block HP5.1 0
            have q1 := cell_of_block HP5.1 1
            go_wp2_with fail
            refine bodyPost_ret (ret_space rfl _ _ _ _ _ rfl (block_setCell (i := 1) (block_setCell (i := 0) HP5.2.2.1 _) _)) rfl ?_
            exact HP5.done ⟨by simp, by omega⟩ (by omega) _ _
        · have hZ : ((zs.length : Int) == 0) = false := by rw [beq_eq_false_iff_ne]; omega
          obtain ⟨av, cv, rfl, iv, _⟩ := hs.2.1.form
          have g0 := cell_of_block hs.1 0
          have g1 := cell_of_block hs.1 1
          have f0 := unfrozen_of_block hs.2.2.1 0
          have f1 := unfrozen_of_block hs.2.2.1 1
          have r0 := cell_of_block hs.2.2.1 0
          have r1 := cell_of_block hs.2.2.1 1
          have HS := hide hs
          clear iv hs
          go_wp2_with (go_at_call 60; refine (power_any _ _ (by omega) (by omega)).mono ?_; rintro e w' ⟨rfl, rfl⟩)
          refine bodyPost_ret (ret_space rfl _ _ _ _ _ rfl (block_setCell (i := 1) (block_setCell (i := 0) HS.out.2.2.1 _) _)) rfl ?_
          exact HS.out.done (by omega) (by omega) _ _
end Go.Proofs.Ytbmodiobgkmngaa
