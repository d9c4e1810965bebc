/- Texts of this seat one behind the other: DrawD. Conditions: none. -/
import Derived.Test.YtgebplpbnaeckaaGreatDoorNg0

/- DrawD: The model's draw of a space, and that it has judgments, all of them in range. -/
namespace Go.Proofs.YtgebplpbnaeckaaGreatDoor
open Go.RowKit Go.Joins

/-- judgments in range, few -/
def LG (t : Nat) (zs : List Int) : Prop := zs.length ≤ t ∧ ∀ z ∈ zs, 0 ≤ z ∧ z ≤ 15
theorem LG.nil : LG 0 [] := ⟨Nat.le_refl _, fun z hz => by cases hz⟩
theorem LG.more {t : Nat} {zs : List Int} (h : LG t zs) : LG (t + 1) zs := ⟨Nat.le_succ_of_le h.1, h.2⟩
theorem LG.push {t : Nat} {zs : List Int} (h : LG t zs) (ht : t < 16) : LG (t + 1) (zs ++ [(t : Int)]) ∧ zs ++ [(t : Int)] ≠ [] := by
  refine ⟨⟨by rw [List.length_append]; have := h.1; simp; omega, fun z hz => ?_⟩, by simp⟩
  rcases List.mem_append.1 hz with h' | h'
  · exact h.2 z h'
  · have := List.mem_singleton.1 h'
    omega
theorem bitK_any (x : Nat) (j : Int) (w : World) (hx : x < 16) (hj : 0 ≤ j ∧ j ≤ 4) : Calls Tryz.prog 46 #[.int .i64 x, .int .i64 j] w fun e w' => ∃ b : Nat, b ≤ 1 ∧ Hid ((x = 0 → b = 0) ∧ (x = 1 → j = 0 → b = 1)) ∧ e = .returned (.int .i64 b) ∧ w = w' := by
  obtain ⟨j, rfl⟩ := Int.eq_ofNat_of_zero_le hj.1
  refine (bit_any x j w hx (by omega)).mono fun _ _ ⟨he, hw⟩ => ⟨_, bitN_le x j, hide ⟨fun h => ?_, fun h h' => ?_⟩, he, hw⟩
  · subst h; simp [bitN]
  · subst h
    obtain rfl : j = 0 := by omega
    rfl
theorem cell_drewN {w : World} {p : Addr} {v : Value} (k : Nat) (h : w.cell? p = some v) : (w.drewN k).cell? p = some v := h
theorem SI.keep {R : Nat} {w : World} {m : Int} {n : Nat} {vv v' x : Value} {zs : List Int} {wq w5 : World} {o : Obj} (h : SI R w m n vv zs wq) (hg : (wq.alloc o).grownBy w5 vv.ownBlock) (hc : wq.cell? ⟨R, 1, none⟩ = some x) :
    (w5.setCell ⟨w.heap.size + 1, 1, none⟩ v').cell? ⟨R, 1, none⟩ = some x := by
  have hs := h.below (bel1 wq o)
  have hlt : R < wq.heap.size := h.rd.lt
  have hRw := h.2.2.2.2.2.2
  have h1 : (wq.alloc o).cell? ⟨R, 1, none⟩ = some x := ((bel1 wq o).cell (p := ⟨R, 1, none⟩) hlt).trans hc
  have h2 : w5.cell? ⟨R, 1, none⟩ = some x := hg.cell h1 (fun e => by have := own_ge hs.2.1 R e.symm; omega)
  exact (gset w5 (w.heap.size + 1) 1 v').cell h2 (by simp; omega)
theorem swL_ok {n : Int} (ps : List (Int × Int)) : swB n ps = true → swL n ps ≠ [] ∧ ∀ z ∈ swL n ps, 0 ≤ z ∧ z ≤ 15 := fun h => by
  have h : SwYes n ps := of_decide_eq_true h
  have e : swL n ps = swK ps (2 ^ n.toNat) := if_pos h
  rw [e]
  refine ⟨fun e' => h.2 (by rw [e']; rfl), fun z hz => ?_⟩
  unfold swK at hz
  obtain ⟨u, hu, rfl⟩ := List.mem_map.1 hz
  have h1 := List.mem_range.1 (List.mem_filter.1 hu).1
  have h2 := pw_le n h.1.1.2
  have h3 : pw n = ((2 ^ n.toNat : Nat) : Int) := rfl
  omega

/-- What a draw of a space leaves, and that the space has judgments in range. -/
def SpacePostD (R n : Nat) (w : World) (e : Ending) (w' : World) : Prop :=
  ∃ (m : Int) (v : Value) (zs : List Int), e = .returned (.agg #[.int .i64 m, v]) ∧ Owns w' w.heap.size v zs ∧ (zs.length ≤ 64 ∧ m ≤ 5 ∧ zs ≠ [] ∧ ∀ z ∈ zs, 0 ≤ z ∧ z ≤ 15) ∧ w.grownBy w' (some R) ∧ RD w' R n
theorem SI.doneD {R : Nat} {w : World} {m : Int} {n k : Nat} {vv : Value} {zs : List Int} {wq : World} (h : SI R w m n vv zs wq) (hl : zs.length ≤ 64 ∧ m ≤ 5 ∧ zs ≠ [] ∧ ∀ z ∈ zs, 0 ≤ z ∧ z ≤ 15) (hk : n ≤ k) (x y : Value) :
    SpacePostD R k w (.returned (.agg #[.int .i64 m, vv])) ((wq.setCell ⟨w.heap.size, 0, none⟩ x).setCell ⟨w.heap.size, 1, none⟩ y) := by
  obtain ⟨_, h2, _, h4, h5, _, h7⟩ := h
  refine ⟨m, vv, zs, rfl, (h2.set2 (by omega) _ _).le (by omega), hl, gbelow (gbelow h4 ((Below.refl _ _).setCell (p := ⟨w.heap.size, 0, none⟩) (Nat.le_refl _) _)) ((Below.refl _ _).setCell (p := ⟨w.heap.size, 1, none⟩) (Nat.le_refl _) _), ((h5.set h7).set h7).more hk⟩
theorem SI.outD {R : Nat} {w : World} {m m' : Int} {n k : Nat} {vv v : Value} {zs L : List Int} {wq w6 : World} {o : Obj} (h : SI R w m n vv zs wq) (hB : Below wq.heap.size wq w6) (hown : Owns w6 wq.heap.size v L) (hl : L.length ≤ 64 ∧ m' ≤ 5 ∧ L ≠ [] ∧ ∀ z ∈ L, 0 ≤ z ∧ z ≤ 15) (hk : n ≤ k) (x y : Value) :
    SpacePostD R k w (.returned (.agg #[.int .i64 m', v])) (((w6.alloc o).setCell ⟨w.heap.size, 0, none⟩ x).setCell ⟨w.heap.size, 1, none⟩ y) := by
  obtain ⟨_, _, _, h4, h5, _, h7⟩ := (h.below hB).below (bel1 w6 o)
  have h6 := h.2.2.2.2.2.1
  refine ⟨m', v, L, rfl, ((hown.below (bel1 w6 o)).set2 (by omega) _ _).le (by omega), hl, gbelow (gbelow h4 ((Below.refl _ _).setCell (p := ⟨w.heap.size, 0, none⟩) (Nat.le_refl _) _)) ((Below.refl _ _).setCell (p := ⟨w.heap.size, 1, none⟩) (Nat.le_refl _) _), ((h5.set h7).set h7).more hk⟩
theorem QI.doneD {R : Nat} {w : World} {m : Int} {n k : Nat} {v : Value} {zs : List Int} {wq : World} (h : QI R w n wq) (ho : Owns wq (w.heap.size + 1) v zs) (hl : zs.length ≤ 64 ∧ m ≤ 5 ∧ zs ≠ [] ∧ ∀ z ∈ zs, 0 ≤ z ∧ z ≤ 15) (hk : n ≤ k) (x y : Value) :
    SpacePostD R k w (.returned (.agg #[.int .i64 m, v])) ((wq.setCell ⟨w.heap.size, 0, none⟩ x).setCell ⟨w.heap.size, 1, none⟩ y) := by
  obtain ⟨_, h2, h3, _, h5⟩ := h
  exact ⟨m, v, zs, rfl, (ho.set2 (by omega) _ _).le (by omega), hl, gbelow (gbelow h2 ((Below.refl _ _).setCell (p := ⟨w.heap.size, 0, none⟩) (Nat.le_refl _) _)) ((Below.refl _ _).setCell (p := ⟨w.heap.size, 1, none⟩) (Nat.le_refl _) _), ((h3.set h5).set h5).more hk⟩

set_option maxHeartbeats 8000000 in
set_option maxRecDepth 100000 in
theorem spaceOfD_any (R n : Nat) (m : Int) (w : World) (hr : RD w R n) (hn : n < 1073741000) (hm1 : 1 ≤ m) (hm4 : m ≤ 4) :
    Calls Tryz.prog 26 #[.pointer (some ⟨R, 0, none⟩), .int .i64 m] w (SpacePostD R (n + 40) w) := by
  obtain ⟨i0, hi0, hz0, hz1, hz2⟩ := info_parts info_int
  obtain ⟨j0, hj0, hy0, hy1, hy2⟩ := info_parts info_part
  have hS := SI.new m hr
  have p1 := pw_pos m
  have p2 := pw_le m hm4
  have hp2 : pw m = ((2 ^ m.toNat : Nat) : Int) := rfl
  obtain ⟨q, hq⟩ : ∃ q, q = 2 ^ m.toNat := ⟨_, rfl⟩
  rw [← hq] at hp2
  have hq16 : q ≤ 16 := by omega
  have hq2 : 2 ≤ q := hq ▸ Nat.pow_le_pow_right (n := 2) (by omega) (show 1 ≤ m.toNat by omega)
  clear hq
  go_enter Tryz.func26, Tryz.ntmps26
  go_wp2_with fail
  refine (pick_any R n _ _ hS.rd (by omega) ⟨by omega, by omega⟩).mono ?_
  rintro e w1 ⟨r, rfl, hr0, hrl, _, hg, hrd⟩
  have hr6 : r < 6 := hrl (by omega)
  have h1 := hS.pick hg hrd
  clear hS hg hrd hrl hr
  rcases (show r = 0 ∨ r = 1 ∨ r = 2 ∨ r = 3 ∨ 4 ≤ r from by omega) with rfl | rfl | rfl | rfl | h4
  · go_wp2_with fail
    go_loopw [6] (fun v wq => ∃ (t : Nat) (vv : Value) (zs : List Int), t ≤ q ∧ LG t zs ∧ (((m = 1 ∧ 2 ≤ t) ∨ (2 ≤ m ∧ 1 ≤ t)) → zs ≠ []) ∧ v = .int .i64 t ∧ SI R w m (n + 1) vv zs wq) (fun v _ => q - (intOf v).toNat)
    case atStart => exact ⟨0, _, [], Nat.zero_le _, LG.nil, fun h => absurd h (by omega), rfl, h1⟩
    case round =>
      clear h1
      obtain ⟨t, vv, zs, ht, hlg, hne, rfl, hs⟩ := hrel
      have hzt := hlg.1
      have HLG := hide hlg
      have HNE := hide hne
      clear hlg hne
      by_cases hlt : t < q
      · go_wp2_with (first | (go_at_call 45; refine (power_any _ _ (by omega) (by omega)).mono ?_; rintro e w' ⟨rfl, rfl⟩) | (go_at_call 46; refine (bitK_any _ _ _ (by omega) ⟨by omega, by omega⟩).mono ?_; rintro e w' ⟨b, hb, HBb, rfl, rfl⟩))
        go_loop [8, 9] (fun a v => ∃ i B : Nat, (i : Int) < m ∧ B ≤ 1 ∧ (i = 0 → B = 1) ∧ (t = 0 → 1 ≤ i → B = 0) ∧ v = .int .i64 i ∧ a = .int .i64 B) (fun _ v => 4 - (intOf v).toNat)
        case atStart => exact ⟨0, 1, by omega, by omega, fun _ => rfl, fun _ h => absurd h (by omega), rfl, rfl⟩
        case round =>
          obtain ⟨i, B, hi, hB, hI1, hI2, rfl, rfl⟩ := hrel
          have HI1 := hide hI1
          have HI2 := hide hI2
          clear hI1 hI2
          by_cases hli : (i : Int) + 1 < m
          · rcases (show B = 0 ∨ B = 1 from by omega) with rfl | rfl
            · go_wp2_with (go_at_call 46; refine (bitK_any _ _ _ (by omega) ⟨by omega, by omega⟩).mono ?_; rintro e w' ⟨c, hc, HBc, rfl, rfl⟩)
              go_round
              case rel => exact ⟨i + 1, 0, by omega, by omega, fun h => absurd h (by omega), fun _ _ => rfl, by go_num, by go_num⟩
              case measure => simp only [intOf]; omega
            · go_wp2_with (go_at_call 46; refine (bitK_any _ _ _ (by omega) ⟨by omega, by omega⟩).mono ?_; rintro e w' ⟨c, hc, HBc, rfl, rfl⟩)
              go_round
              case rel => exact ⟨i + 1, c, by omega, by omega, fun h => absurd h (by omega), fun h _ => HBc.out.1 h, by go_num, by go_num⟩
              case measure => simp only [intOf]; omega
          · by_cases hE : ((b : Int) == (B : Int)) = true
            · obtain ⟨av, cv, rfl, iv, _⟩ := hs.2.1.form
              have g1 := cell_of_block hs.1 1
              have f1 := unfrozen_of_block hs.1 1
              have hws : w.heap.size + 2 ≤ (wr).heap.size := hs.2.2.2.2.2.1
              have hown := hs.2.1
              have HS := hide hs
              clear iv hs
              go_wp2_with ((at_builtin; refine wpList_append_own _ rfl _ _ 35 rfl (w.heap.size + 2) 3 i0 (.int .i64 0) 1 8 Tryz.underlying35 hi0 hz0 hz1 hz2 rfl (by decide) _ _ _ rfl (hown.alloc _) ⟨(wr).heap.size, 0, none⟩ 1 1 [.int .i64 t] rfl rfl (cell_one_new (wr) _ _) (by intro u hu; simp at hu; subst hu; rfl) (by unfold maxLen; omega) (by omega) (by first | omega | (simp; omega)) ?_))

              intro v' w5 hown' hgrow _
              obtain ⟨HP, hb5⟩ := HS.out.push hgrow hown'
              have hzl := HLG.out.push (show t < 16 by omega)
              obtain ⟨zz, hzz⟩ : ∃ zz : List Int, zz = zs ++ [(t : Int)] := ⟨_, rfl⟩
              rw [← hzz] at HP hzl
              obtain ⟨av', cv', rfl, _, _⟩ := HP.2.1.form
              have f5 := unfrozen_of_block hb5 1
              have g5 := cell_of_block hb5 1
              have HZ := hide hzl
              have HQ := hide HP
              clear hown hown' hgrow hb5 HP hzz hzl g1 f1 hws
              go_wp2
              go_roundw
              case rel => exact ⟨t + 1, _, zz, by omega, HZ.out.1, fun _ => HZ.out.2, by go_num, HQ.out⟩
              case measure => simp only [intOf]; omega
            · have hE : ((b : Int) == (B : Int)) = false := by simpa using hE
              go_wp2
              go_roundw
              case rel => exact ⟨t + 1, vv, zs, by omega, HLG.out.more, fun h => by
                  by_cases hk : (m = 1 ∧ 2 ≤ t) ∨ (2 ≤ m ∧ 1 ≤ t)
                  · exact HNE.out hk
                  · exfalso
                    have k1 := HBb.out.1
                    have k2 := HBb.out.2
                    have k3 := HI1.out
                    have k4 := HI2.out
                    have hEn := beq_eq_false_iff_ne.1 hE
                    omega, by go_num, hs⟩
              case measure => simp only [intOf]; omega
      · obtain rfl : t = q := by omega
        obtain ⟨av, cv, rfl, iv, _⟩ := hs.2.1.form
        have g0 := cell_of_block hs.1 0
        have g1 := cell_of_block hs.1 1
        have f0 := unfrozen_of_block hs.2.2.1 0
        have f1 := unfrozen_of_block hs.2.2.1 1
        have r0 := cell_of_block hs.2.2.1 0
        have r1 := cell_of_block hs.2.2.1 1
        have HS := hide hs
        clear iv hs
        go_wp2_with (go_at_call 45; refine (power_any _ _ (by omega) (by omega)).mono ?_; rintro e w' ⟨rfl, rfl⟩)
        refine bodyPost_ret (ret_space rfl _ _ _ _ _ rfl (block_setCell (i := 1) (block_setCell (i := 0) HS.out.2.2.1 _) _)) rfl ?_
        exact HS.out.doneD ⟨by omega, by omega, HNE.out (by omega), HLG.out.2⟩ (by omega) _ _
  · obtain ⟨a, zb, cap, p, hblk, hp, _, _, _⟩ := h1.rd
    have hcp := cell_of_block hblk 1
    have HCP := hide hcp
    clear hblk hcp
    go_wp2_with fail
    go_loopw [10] (fun v wq => ∃ (t : Nat) (vv : Value) (zs : List Int), t ≤ q ∧ LG t zs ∧ (((1 ≤ t ∧ (m = 1 ∨ p % 2 = 0)) ∨ 2 ≤ t) → zs ≠ []) ∧ v = .int .i64 t ∧ SI R w m (n + 1) vv zs wq ∧ wq.cell? ⟨R, 1, none⟩ = some (.int .i64 p)) (fun v _ => q - (intOf v).toNat)
    case atStart => exact ⟨0, _, [], Nat.zero_le _, LG.nil, fun h => absurd h (by omega), rfl, h1, HCP.out⟩
    case round =>
      clear h1
      obtain ⟨t, vv, zs, ht, hlg, hne, rfl, hs, hc⟩ := hrel
      have hzt := hlg.1
      have HLG := hide hlg
      have HNE := hide hne
      clear hlg hne
      by_cases hlt : t < q
      · have k1 := hc
        have HT1 : Int.tmod (wt t : Int) 2 = ((wt t % 2 : Nat) : Int) := tmod_nat (wt t) 2
        have HT2 : Int.tmod (p : Int) 2 = ((p % 2 : Nat) : Int) := tmod_nat p 2
        obtain ⟨x2, hx2⟩ : ∃ x, x = wt t % 2 := ⟨_, rfl⟩
        obtain ⟨y2, hy2⟩ : ∃ x, x = p % 2 := ⟨_, rfl⟩
        rw [← hx2] at HT1
        rw [← hy2] at HT2
        have HX2 := hide hx2
        have HY2 := hide hy2
        have hlt16 : t < 16 := by omega
        have hx2' : x2 ≤ 1 := by omega
        have hy2' : y2 ≤ 1 := by omega
        clear hx2 hy2
        by_cases hA : ((x2 : Int) == (y2 : Int)) = true
        · go_wp2_with (go_at_call 45; refine (power_any _ _ (by omega) (by omega)).mono ?_; rintro e w' ⟨rfl, rfl⟩)
          go_quiet ((go_at_call 47; exact quiet_left (weight_any _ _ hlt16)))
          have hs := hs.below (belN wr nq)
          have hc := cell_drewN nq hc
          generalize wr.drewN nq = wd at hs hc ⊢
          have HC := hide hc
          clear hc k1
          obtain ⟨av, cv, rfl, iv, _⟩ := hs.2.1.form
          have g1 := cell_of_block hs.1 1
          have f1 := unfrozen_of_block hs.1 1
          have hws : w.heap.size + 2 ≤ (wd).heap.size := hs.2.2.2.2.2.1
          have hown := hs.2.1
          have HS := hide hs
          clear iv hs
          go_wp2_with ((at_builtin; refine wpList_append_own _ rfl _ _ 35 rfl (w.heap.size + 2) 3 i0 (.int .i64 0) 1 8 Tryz.underlying35 hi0 hz0 hz1 hz2 rfl (by decide) _ _ _ rfl (hown.alloc _) ⟨(wd).heap.size, 0, none⟩ 1 1 [.int .i64 t] rfl rfl (cell_one_new (wd) _ _) (by intro u hu; simp at hu; subst hu; rfl) (by unfold maxLen; omega) (by omega) (by first | omega | (simp; omega)) ?_))

          intro v' w5 hown' hgrow _
          obtain ⟨HP, hb5⟩ := HS.out.push hgrow hown'
          have HC5 := hide (HS.out.keep hgrow HC.out (v' := v'))
          have hzl := HLG.out.push (show t < 16 by omega)
          obtain ⟨zz, hzz⟩ : ∃ zz : List Int, zz = zs ++ [(t : Int)] := ⟨_, rfl⟩
          rw [← hzz] at HP hzl
          obtain ⟨av', cv', rfl, _, _⟩ := HP.2.1.form
          have f5 := unfrozen_of_block hb5 1
          have g5 := cell_of_block hb5 1
          have HZ := hide hzl
          have HQ := hide HP
          clear hown hown' hgrow hb5 HP hzz hzl g1 f1 hws
          go_wp2
          go_roundw
          case rel => exact ⟨t + 1, _, zz, by omega, HZ.out.1, fun _ => HZ.out.2, by go_num, HQ.out, HC5.out⟩
          case measure => simp only [intOf]; omega
        · have hA : ((x2 : Int) == (y2 : Int)) = false := by simpa using hA
          by_cases hM : (m == 1) = true
          · go_wp2_with (go_at_call 45; refine (power_any _ _ (by omega) (by omega)).mono ?_; rintro e w' ⟨rfl, rfl⟩)
            go_quiet ((go_at_call 47; exact quiet_left (weight_any _ _ hlt16)))
            have hs := hs.below (belN wr nq)
            have hc := cell_drewN nq hc
            generalize wr.drewN nq = wd at hs hc ⊢
            have HC := hide hc
            clear hc k1
            obtain ⟨av, cv, rfl, iv, _⟩ := hs.2.1.form
            have g1 := cell_of_block hs.1 1
            have f1 := unfrozen_of_block hs.1 1
            have hws : w.heap.size + 2 ≤ (wd).heap.size := hs.2.2.2.2.2.1
            have hown := hs.2.1
            have HS := hide hs
            clear iv hs
            go_wp2_with ((at_builtin; refine wpList_append_own _ rfl _ _ 35 rfl (w.heap.size + 2) 3 i0 (.int .i64 0) 1 8 Tryz.underlying35 hi0 hz0 hz1 hz2 rfl (by decide) _ _ _ rfl (hown.alloc _) ⟨(wd).heap.size, 0, none⟩ 1 1 [.int .i64 t] rfl rfl (cell_one_new (wd) _ _) (by intro u hu; simp at hu; subst hu; rfl) (by unfold maxLen; omega) (by omega) (by first | omega | (simp; omega)) ?_))

            intro v' w5 hown' hgrow _
            obtain ⟨HP, hb5⟩ := HS.out.push hgrow hown'
            have HC5 := hide (HS.out.keep hgrow HC.out (v' := v'))
            have hzl := HLG.out.push (show t < 16 by omega)
            obtain ⟨zz, hzz⟩ : ∃ zz : List Int, zz = zs ++ [(t : Int)] := ⟨_, rfl⟩
            rw [← hzz] at HP hzl
            obtain ⟨av', cv', rfl, _, _⟩ := HP.2.1.form
            have f5 := unfrozen_of_block hb5 1
            have g5 := cell_of_block hb5 1
            have HZ := hide hzl
            have HQ := hide HP
            clear hown hown' hgrow hb5 HP hzz hzl g1 f1 hws
            go_wp2
            go_roundw
            case rel => exact ⟨t + 1, _, zz, by omega, HZ.out.1, fun _ => HZ.out.2, by go_num, HQ.out, HC5.out⟩
            case measure => simp only [intOf]; omega
          · have hM : (m == 1) = false := by simpa using hM
            go_wp2_with (go_at_call 45; refine (power_any _ _ (by omega) (by omega)).mono ?_; rintro e w' ⟨rfl, rfl⟩)
            go_quiet ((go_at_call 47; exact quiet_left (weight_any _ _ hlt16)))
            go_wp2
            go_roundw
            case rel => exact ⟨t + 1, vv, zs, by omega, HLG.out.more, fun h => by
                by_cases hk : (1 ≤ t ∧ (m = 1 ∨ p % 2 = 0)) ∨ 2 ≤ t
                · exact HNE.out hk
                · exfalso
                  have hMn := beq_eq_false_iff_ne.1 hM
                  have hAn := beq_eq_false_iff_ne.1 hA
                  have k2 := HX2.out
                  have k3 := HY2.out
                  rcases (show t = 0 ∨ t = 1 from by omega) with rfl | rfl
                  · rw [show wt 0 = 0 from rfl] at k2; omega
                  · rw [show wt 1 = 1 from rfl] at k2; omega, by go_num, hs.below (belN _ _), cell_drewN _ hc⟩
            case measure => simp only [intOf]; omega
      · obtain rfl : t = q := by omega
        obtain ⟨av, cv, rfl, iv, _⟩ := hs.2.1.form
        have g0 := cell_of_block hs.1 0
        have g1 := cell_of_block hs.1 1
        have f0 := unfrozen_of_block hs.2.2.1 0
        have f1 := unfrozen_of_block hs.2.2.1 1
        have r0 := cell_of_block hs.2.2.1 0
        have r1 := cell_of_block hs.2.2.1 1
        have HS := hide hs
        clear iv hs
        go_wp2_with (go_at_call 45; refine (power_any _ _ (by omega) (by omega)).mono ?_; rintro e w' ⟨rfl, rfl⟩)
        refine bodyPost_ret (ret_space rfl _ _ _ _ _ rfl (block_setCell (i := 1) (block_setCell (i := 0) HS.out.2.2.1 _) _)) rfl ?_
        exact HS.out.doneD ⟨by omega, by omega, HNE.out (by omega), HLG.out.2⟩ (by omega) _ _
  · go_wp2_with fail
    refine (pick_any R (n + 1) _ _ h1.rd (by omega) ⟨by omega, by omega⟩).mono ?_
    rintro e w2 ⟨k, rfl, hk0, hkl, _, hg, hrd⟩
    have hk4 : k < m := hkl (by omega)
    have h1 := h1.pick hg hrd
    clear hkl hg hrd
    go_wp2_with fail
    go_loopw [12] (fun v wq => ∃ (t : Nat) (vv : Value) (zs : List Int), t ≤ q ∧ LG t zs ∧ (1 ≤ t → zs ≠ []) ∧ v = .int .i64 t ∧ SI R w m (n + 2) vv zs wq) (fun v _ => q - (intOf v).toNat)
    case atStart => exact ⟨0, _, [], Nat.zero_le _, LG.nil, fun h => absurd h (by omega), rfl, h1⟩
    case round =>
      clear h1
      obtain ⟨t, vv, zs, ht, hlg, hne, rfl, hs⟩ := hrel
      have hzt := hlg.1
      have HLG := hide hlg
      have HNE := hide hne
      clear hlg hne
      by_cases hlt : t < q
      · have hwt := wt_le t
        by_cases hle : (wt t : Int) ≤ 1 + k
        · obtain ⟨av, cv, rfl, iv, _⟩ := hs.2.1.form
          have g1 := cell_of_block hs.1 1
          have f1 := unfrozen_of_block hs.1 1
          have hws : w.heap.size + 2 ≤ (wr).heap.size := hs.2.2.2.2.2.1
          have hown := hs.2.1
          have HS := hide hs
          clear iv hs
          go_wp2_with (first | (at_builtin; refine wpList_append_own _ rfl _ _ 35 rfl (w.heap.size + 2) 3 i0 (.int .i64 0) 1 8 Tryz.underlying35 hi0 hz0 hz1 hz2 rfl (by decide) _ _ _ rfl (hown.alloc _) ⟨(wr).heap.size, 0, none⟩ 1 1 [.int .i64 t] rfl rfl (cell_one_new (wr) _ _) (by intro u hu; simp at hu; subst hu; rfl) (by unfold maxLen; omega) (by omega) (by first | omega | (simp; omega)) ?_) | (go_at_call 45; refine (power_any _ _ (by omega) (by omega)).mono ?_; rintro e w' ⟨rfl, rfl⟩) | (go_at_call 47; refine (weight_any _ _ (by omega)).mono ?_; rintro e w' ⟨rfl, rfl⟩))

          intro v' w5 hown' hgrow _
          obtain ⟨HP, hb5⟩ := HS.out.push hgrow hown'
          have hzl := HLG.out.push (show t < 16 by omega)
          obtain ⟨zz, hzz⟩ : ∃ zz : List Int, zz = zs ++ [(t : Int)] := ⟨_, rfl⟩
          rw [← hzz] at HP hzl
          obtain ⟨av', cv', rfl, _, _⟩ := HP.2.1.form
          have f5 := unfrozen_of_block hb5 1
          have g5 := cell_of_block hb5 1
          have HZ := hide hzl
          have HQ := hide HP
          clear hown hown' hgrow hb5 HP hzz hzl g1 f1 hws
          go_wp2
          go_roundw
          case rel => exact ⟨t + 1, _, zz, by omega, HZ.out.1, fun _ => HZ.out.2, by go_num, HQ.out⟩
          case measure => simp only [intOf]; omega
        · go_wp2_with (first | (go_at_call 45; refine (power_any _ _ (by omega) (by omega)).mono ?_; rintro e w' ⟨rfl, rfl⟩) | (go_at_call 47; refine (weight_any _ _ (by omega)).mono ?_; rintro e w' ⟨rfl, rfl⟩))
          go_roundw
          case rel => exact ⟨t + 1, vv, zs, by omega, HLG.out.more, fun h => by
              by_cases hk : 1 ≤ t
              · exact HNE.out hk
              · exfalso
                obtain rfl : t = 0 := by omega
                have h0 : wt 0 = 0 := rfl
                rw [h0] at hle
                omega, by go_num, hs⟩
          case measure => simp only [intOf]; omega
      · obtain rfl : t = q := by omega
        obtain ⟨av, cv, rfl, iv, _⟩ := hs.2.1.form
        have g0 := cell_of_block hs.1 0
        have g1 := cell_of_block hs.1 1
        have f0 := unfrozen_of_block hs.2.2.1 0
        have f1 := unfrozen_of_block hs.2.2.1 1
        have r0 := cell_of_block hs.2.2.1 0
        have r1 := cell_of_block hs.2.2.1 1
        have HS := hide hs
        clear iv hs
        go_wp2_with (go_at_call 45; refine (power_any _ _ (by omega) (by omega)).mono ?_; rintro e w' ⟨rfl, rfl⟩)
        refine bodyPost_ret (ret_space rfl _ _ _ _ _ rfl (block_setCell (i := 1) (block_setCell (i := 0) HS.out.2.2.1 _) _)) rfl ?_
        exact HS.out.doneD ⟨by omega, by omega, HNE.out (by omega), HLG.out.2⟩ (by omega) _ _
  · have hRs : R < w.heap.size := h1.2.2.2.2.2.2
    have hws1 : w.heap.size + 2 ≤ w1.heap.size := h1.2.2.2.2.2.1
    have hop := OwnsP.empty w1 hws1
    have hs := h1.below (bel1 w1 (.cells #[] 79))
    clear h1
    go_wp2_with fail
    refine (pick_any R _ _ _ hs.rd (by omega) ⟨by omega, by omega⟩).mono ?_
    rintro e w2 ⟨k, rfl, hk0, hkl, _, hg, hrd⟩
    have hs := hs.pick hg hrd
    have hop := hop.other hg (fun g e => by cases e; omega)
    clear hg hrd
    have hk3 : k < 3 := hkl (by omega)
    clear hkl
    go_wp2_with fail
    go_loopw [13] (fun v wq => ∃ ps : List (Int × Int), (ps.length : Int) ≤ 1 + k ∧ OwnsP wq (w.heap.size + 2) v ps ∧ SI R w m (n + 2 + 3 * ps.length) (.slice none 0 0) [] wq) (fun v _ => lackOf 3 v)
    case atStart => exact ⟨[], by simp; omega, hop, hs⟩
    case round =>
      clear hop hs
      obtain ⟨ps, hps, hop, hs⟩ := hrel
      have hpl : ps.length ≤ 3 := by omega
      by_cases hlt : (ps.length : Int) < 1 + k
      · obtain ⟨pa, pc, rfl, hpi⟩ := hop.form
        go_wp2_with fail
        refine (pick_any R _ _ _ hs.rd (by omega) ⟨by omega, by omega⟩).mono ?_
        rintro e w3 ⟨a, rfl, ha0, hal, _, hg, hrd⟩
        have hs := hs.pick hg hrd
        have hop := hop.other hg (fun g e => by cases e; omega)
        clear hg hrd
        have ha4 : a < m := hal (by omega)
        clear hal hpi
        go_wp2_with fail
        refine (pick_any R _ _ _ hs.rd (by omega) ⟨by omega, by omega⟩).mono ?_
        rintro e w4 ⟨b, rfl, hb0, hbl, _, hg, hrd⟩
        have hs := hs.pick hg hrd
        have hop := hop.other hg (fun g e => by cases e; omega)
        clear hg hrd
        have hb4 : b < m := hbl (by omega)
        clear hbl
        go_wp2_with (go_at_call 45; refine (power_any _ _ (by omega) (by omega)).mono ?_; rintro e w' ⟨rfl, rfl⟩)
        refine (pick_any R _ _ _ hs.rd (by omega) ⟨by omega, by omega⟩).mono ?_
        rintro e w5 ⟨c, rfl, hc0, hcl, _, hg, hrd⟩
        have hs := hs.pick hg hrd
        have hop := hop.other hg (fun g e => by cases e; omega)
        clear hg hrd
        have hws : w.heap.size + 2 ≤ w5.heap.size := hs.2.2.2.2.2.1
        clear hcl
        go_wp2_with ((at_builtin; refine wpList_append_own _ rfl _ _ 71 rfl (w.heap.size + 2) 79 j0 (.agg #[.int .i64 0, .int .i64 0]) 2 16 Tryz.underlying71 hj0 hy0 hy1 hy2 rfl (by decide) _ _ _ rfl (hop.alloc _) ⟨w5.heap.size, 0, none⟩ 1 1 [.int .i64 (bits .or .i64 (pw a) (pw b)), .int .i64 (bits .and .i64 c (bits .or .i64 (pw a) (pw b)))] rfl rfl (World.news_of_block (cs := #[.int .i64 (bits .or .i64 (pw a) (pw b)), .int .i64 (bits .and .i64 c (bits .or .i64 (pw a) (pw b)))]) (t := 79) (fr := (0, 0)) (heap_alloc_new w5 _)) (by intro u hu; simp at hu; rcases hu with rfl | rfl <;> rfl) (by unfold maxLen; omega) (by omega) (by first | omega | (simp; omega)) ?_))
        intro v' w6 hown' hgrow _
        have hop6 := OwnsP.push hown'
        have hs6 := hs.pushP hop ⟨rfl, rfl⟩ hgrow
        obtain ⟨pq, hpq⟩ : ∃ pq, pq = ps ++ [(bits .or .i64 (pw a) (pw b), bits .and .i64 c (bits .or .i64 (pw a) (pw b)))] := ⟨_, rfl⟩
        rw [← hpq] at hop6
        have hql : pq.length = ps.length + 1 := by rw [hpq, List.length_append]; rfl
        obtain ⟨qa, qc, rfl, _⟩ := hop6.form
        have HQ := hide hop6
        have HL := hide hql
        have HS := hide hs6
        clear hown' hgrow hop hs hop6 hs6 hpq hql
        go_wp2
        go_roundw
        case rel => exact ⟨pq, by have := HL.out; omega, HQ.out, HS.out.more (by have := HL.out; omega)⟩
        case measure => simp only [lackOf]; have := HL.out; omega
      · obtain ⟨pa, pc, rfl, hpi⟩ := hop.form
        go_wp2_with fail
        refine (specSw_any m pa pc ps _ hpi (by omega)).mono ?_
        rintro e w6 ⟨v, rfl, hown, hB⟩
        have hL := swL_len m ps
        have hL2 := swL_ok (n := m) ps
        have hN5 := swN_le (n := m) ps hm4
        have hs6 := hs.below hB
        generalize swN m ps = N' at *
        generalize swL m ps = L at *
        obtain ⟨av, cv, rfl, iv, _⟩ := hown.form
        revert hL2
        cases swB m ps with
        | true =>
          intro hL2
          have HL2 := hide (hL2 rfl)
          clear hL2
          have hs7 := hs6.below (bel1 w6 (.cells #[.int .i64 N', .slice av L.length cv] 37))
          have f0 := unfrozen_of_block hs7.2.2.1 0
          have f1 := unfrozen_of_block hs7.2.2.1 1
          have r0 := cell_of_block hs7.2.2.1 0
          have r1 := cell_of_block hs7.2.2.1 1
          have HS := hide hs
          have HO := hide hown
          have HS7 := hide hs7
          clear iv hs hs6 hs7 hown
          go_wp2_with fail
          refine bodyPost_ret (ret_space rfl _ _ _ _ _ rfl (block_setCell (i := 1) (block_setCell (i := 0) HS7.out.2.2.1 _) _)) rfl ?_
          exact HS.out.outD hB HO.out ⟨by omega, by omega, HL2.out.1, HL2.out.2⟩ (by omega) _ _
        | false =>
          intro _
          have h1 := (hs6.below (bel1 w6 (.cells #[.int .i64 N', .slice av L.length cv] 37))).more (show _ ≤ n + 11 by omega)
          clear iv hs hs6 hown hop
          go_upto_region 42 with fail
          generalize w6.alloc (.cells #[.int .i64 N', .slice av L.length cv] 37) = w9 at h1 ⊢
          go_wp2_with fail
          have hl3 := lit3 w9 2 3 4
          have hs1 := h1.below (bel1 w9 (.cells #[.int .i64 2, .int .i64 3, .int .i64 4] 3))
          have hRw : R < w9.heap.size := h1.rd.lt
          have ho := one_any R (n + 11) 3 _ _ _ hs1.rd (by omega) hl3 (by simp) (by simp) (fun b o s e => by cases e; omega)
          refine ho.mono ?_
          rintro e w2 ⟨x, hx, rfl, g, rd⟩
          have h1 := hs1.pick g rd
          have hx' : 2 ≤ x ∧ x ≤ 4 := by
            simp only [List.mem_cons, List.not_mem_nil, or_false] at hx
            omega
          clear hx ho g rd hs1 hl3
          go_wp2_with fail
          go_loopw [21] (fun v wq => ∃ (t : Nat) (vv : Value) (zs : List Int), t ≤ q ∧ LG t zs ∧ (17 ≤ t → zs ≠ []) ∧ v = .int .i64 t ∧ SI R w m (n + 11 + 1 + t) vv zs wq) (fun v _ => q - (intOf v).toNat)
          case atStart => exact ⟨0, _, [], Nat.zero_le _, LG.nil, fun h => absurd h (by omega), rfl, h1⟩
          case round =>
            clear h1
            obtain ⟨t, vv, zs, ht, hlg, hne, rfl, hs⟩ := hrel
            have hzt := hlg.1
            have HLG := hide hlg
            have HNE := hide hne
            clear hlg hne
            by_cases hlt : t < q
            · go_wp2_with (go_at_call 45; refine (power_any _ _ (by omega) (by omega)).mono ?_; rintro e w' ⟨rfl, rfl⟩)
              refine (pick_any R (n + 11 + 1 + t) _ _ hs.rd (by omega) ⟨by omega, by omega⟩).mono ?_
              rintro e w3 ⟨y, rfl, hy0, _, _, g, rd⟩
              have hs := hs.pick g rd
              clear g rd
              by_cases hy : 0 < y
              · obtain ⟨av, cv, rfl, iv, _⟩ := hs.2.1.form
                have g1 := cell_of_block hs.1 1
                have f1 := unfrozen_of_block hs.1 1
                have hws : w.heap.size + 2 ≤ (w3).heap.size := hs.2.2.2.2.2.1
                have hown := hs.2.1
                have HS := hide hs
                clear iv hs
                go_wp2_with ((at_builtin; refine wpList_append_own _ rfl _ _ 35 rfl (w.heap.size + 2) 3 i0 (.int .i64 0) 1 8 Tryz.underlying35 hi0 hz0 hz1 hz2 rfl (by decide) _ _ _ rfl (hown.alloc _) ⟨(w3).heap.size, 0, none⟩ 1 1 [.int .i64 t] rfl rfl (cell_one_new (w3) _ _) (by intro u hu; simp at hu; subst hu; rfl) (by unfold maxLen; omega) (by omega) (by first | omega | (simp; omega)) ?_))

                intro v' w5 hown' hgrow _
                obtain ⟨HP, hb5⟩ := HS.out.push hgrow hown'
                have hzl := HLG.out.push (show t < 16 by omega)
                obtain ⟨zz, hzz⟩ : ∃ zz : List Int, zz = zs ++ [(t : Int)] := ⟨_, rfl⟩
                rw [← hzz] at HP hzl
                obtain ⟨av', cv', rfl, _, _⟩ := HP.2.1.form
                have f5 := unfrozen_of_block hb5 1
                have g5 := cell_of_block hb5 1
                have HZ := hide hzl
                have HQ := hide HP
                clear hown hown' hgrow hb5 HP hzz hzl g1 f1 hws
                go_wp2
                go_roundw
                case rel => exact ⟨t + 1, _, zz, by omega, HZ.out.1, fun _ => HZ.out.2, by go_num, HQ.out⟩
                case measure => simp only [intOf]; omega
              · go_wp2
                go_roundw
                case rel => exact ⟨t + 1, vv, zs, by omega, HLG.out.more, fun h => absurd h (by omega), by go_num, hs⟩
                case measure => simp only [intOf]; omega
            · obtain rfl : t = q := by omega
              by_cases hz : zs.length = 0
              · have hZ : ((zs.length : Int) == 0) = true := by rw [hz]; rfl
                have hzs : zs = [] := List.length_eq_zero_iff.1 hz
                subst hzs
                obtain ⟨av, cv, rfl, iv, _⟩ := hs.2.1.form
                have g1 := cell_of_block hs.1 1
                have HS0 := hide hs
                clear iv hs
                go_upto_region 49 with (go_at_call 45; refine (power_any _ _ (by omega) (by omega)).mono ?_; rintro e w' ⟨rfl, rfl⟩)
                have hs := HS0.out
                have hsd := hs.drew
                have d1 := cell_of_block hsd.1 1
                have hRs : R < w.heap.size := hs.2.2.2.2.2.2
                clear hs
                go_region_law (first
                  | (go_simp; go_at_call 45; refine (power_any _ _ (by omega) (by omega)).mono ?_; rintro e w' ⟨rfl, rfl⟩; go_wp2_with fail)
                  | (go_simp; go_at_call 17; refine (pick_any R _ _ _ hsd.rd (by omega) ⟨by omega, by omega⟩).mono ?_; rintro e w3 ⟨y, rfl, hy0, hyl, _, g3, rd3⟩; have hs3 := hsd.pick g3 rd3; have k3 := cell_of_block hs3.1 1; have hown3 := hs3.2.1; have hw3 : w.heap.size + 2 ≤ w3.heap.size := hs3.2.2.2.2.2.1; have k4 : ∀ o : Obj, (w3.alloc o).cell? ⟨w.heap.size + 1, 1, none⟩ = some (.slice av 0 cv) := fun o => cell_of_block (hs3.below (bel1 w3 o)).1 1; go_wp2_with fail)
                  | (refine step_append_lies _ (by rfl) _ _ _ (by rfl) (w.heap.size + 2) 3 i0 (.int .i64 0) 1 8 Tryz.underlying35 hi0 hz0 hz1 hz2 rfl (by decide) _ _ _ (by rfl) (hown3.alloc _) ⟨w3.heap.size, 0, none⟩ 1 1 [.int .i64 y] (by rfl) (by rfl) (World.news_of_block (cs := #[.int .i64 y]) (t := 3) (fr := (0, 0)) (heap_alloc_new w3 _)) (by simp [Value.oneCell']) (by omega) (by unfold maxLen; simp) (by simp) (by simp; omega) (w3.heap.size + 1) (by simp) ?_; intro gg cc w5 hown5 hgrow hat hltg; obtain ⟨HP5, hb5⟩ := hs3.push hgrow hown5; have f5 := unfrozen_of_block hb5 1; have g5 := cell_of_block hb5 1))
                all_goals
                  have HP5 : SI R w m _ (.slice (some ⟨gg, 0, none⟩) 1 cc) [y] (w5.setCell ⟨w.heap.size + 1, 1, none⟩ (.slice (some ⟨gg, 0, none⟩) 1 cc)) := HP5
                  have r0 := cell_of_block HP5.2.2.1 0
                  have r1 := cell_of_block HP5.2.2.1 1
                  have f0 := unfrozen_of_block HP5.2.2.1 0
                  have f1 := unfrozen_of_block HP5.2.2.1 1
                  have q0 := cell_of_block HP5.1 0
                  have q1 := cell_of_block HP5.1 1
                  go_wp2_with fail
                  refine bodyPost_ret (ret_space rfl _ _ _ _ _ rfl (block_setCell (i := 1) (block_setCell (i := 0) HP5.2.2.1 _) _)) rfl ?_
                  exact HP5.doneD ⟨by simp, by omega, by simp, fun z hz' => by
                    have hy3 := hyl (by omega)
                    have hz3 := List.mem_singleton.1 hz'
                    omega⟩ (by omega) _ _
              · have hZ : ((zs.length : Int) == 0) = false := by rw [beq_eq_false_iff_ne]; omega
                obtain ⟨av, cv, rfl, iv, _⟩ := hs.2.1.form
                have g0 := cell_of_block hs.1 0
                have g1 := cell_of_block hs.1 1
                have f0 := unfrozen_of_block hs.2.2.1 0
                have f1 := unfrozen_of_block hs.2.2.1 1
                have r0 := cell_of_block hs.2.2.1 0
                have r1 := cell_of_block hs.2.2.1 1
                have HS := hide hs
                clear iv hs
                go_wp2_with (go_at_call 45; refine (power_any _ _ (by omega) (by omega)).mono ?_; rintro e w' ⟨rfl, rfl⟩)
                refine bodyPost_ret (ret_space rfl _ _ _ _ _ rfl (block_setCell (i := 1) (block_setCell (i := 0) HS.out.2.2.1 _) _)) rfl ?_
                exact HS.out.doneD ⟨by omega, by omega, fun e => hz (by rw [e]; rfl), HLG.out.2⟩ (by omega) _ _
  · have e0 : (r == 0) = false := by rw [beq_eq_false_iff_ne]; omega
    have e1 : (r == 1) = false := by rw [beq_eq_false_iff_ne]; omega
    have e2 : (r == 2) = false := by rw [beq_eq_false_iff_ne]; omega
    have e3 : (r == 3) = false := by rw [beq_eq_false_iff_ne]; omega
    go_wp2_with fail
    have hl3 := lit3 w1 2 3 4
    have hs1 := h1.below (bel1 w1 (.cells #[.int .i64 2, .int .i64 3, .int .i64 4] 3))
    have hRw : R < w1.heap.size := h1.rd.lt
    have ho := one_any R (n + 1) 3 _ _ _ hs1.rd (by omega) hl3 (by simp) (by simp) (fun b o s e => by cases e; omega)
    refine ho.mono ?_
    rintro e w2 ⟨x, hx, rfl, g, rd⟩
    have h1 := hs1.pick g rd
    have hx' : 2 ≤ x ∧ x ≤ 4 := by
      simp only [List.mem_cons, List.not_mem_nil, or_false] at hx
      omega
    clear hx ho g rd hs1 hl3
    go_wp2_with fail
    go_loopw [21] (fun v wq => ∃ (t : Nat) (vv : Value) (zs : List Int), t ≤ q ∧ LG t zs ∧ (17 ≤ t → zs ≠ []) ∧ v = .int .i64 t ∧ SI R w m (n + 1 + 1 + t) vv zs wq) (fun v _ => q - (intOf v).toNat)
    case atStart => exact ⟨0, _, [], Nat.zero_le _, LG.nil, fun h => absurd h (by omega), rfl, h1⟩
    case round =>
      clear h1
      obtain ⟨t, vv, zs, ht, hlg, hne, rfl, hs⟩ := hrel
      have hzt := hlg.1
      have HLG := hide hlg
      have HNE := hide hne
      clear hlg hne
      by_cases hlt : t < q
      · go_wp2_with (go_at_call 45; refine (power_any _ _ (by omega) (by omega)).mono ?_; rintro e w' ⟨rfl, rfl⟩)
        refine (pick_any R (n + 1 + 1 + t) _ _ hs.rd (by omega) ⟨by omega, by omega⟩).mono ?_
        rintro e w3 ⟨y, rfl, hy0, _, _, g, rd⟩
        have hs := hs.pick g rd
        clear g rd
        by_cases hy : 0 < y
        · obtain ⟨av, cv, rfl, iv, _⟩ := hs.2.1.form
          have g1 := cell_of_block hs.1 1
          have f1 := unfrozen_of_block hs.1 1
          have hws : w.heap.size + 2 ≤ (w3).heap.size := hs.2.2.2.2.2.1
          have hown := hs.2.1
          have HS := hide hs
          clear iv hs
          go_wp2_with ((at_builtin; refine wpList_append_own _ rfl _ _ 35 rfl (w.heap.size + 2) 3 i0 (.int .i64 0) 1 8 Tryz.underlying35 hi0 hz0 hz1 hz2 rfl (by decide) _ _ _ rfl (hown.alloc _) ⟨(w3).heap.size, 0, none⟩ 1 1 [.int .i64 t] rfl rfl (cell_one_new (w3) _ _) (by intro u hu; simp at hu; subst hu; rfl) (by unfold maxLen; omega) (by omega) (by first | omega | (simp; omega)) ?_))

          intro v' w5 hown' hgrow _
          obtain ⟨HP, hb5⟩ := HS.out.push hgrow hown'
          have hzl := HLG.out.push (show t < 16 by omega)
          obtain ⟨zz, hzz⟩ : ∃ zz : List Int, zz = zs ++ [(t : Int)] := ⟨_, rfl⟩
          rw [← hzz] at HP hzl
          obtain ⟨av', cv', rfl, _, _⟩ := HP.2.1.form
          have f5 := unfrozen_of_block hb5 1
          have g5 := cell_of_block hb5 1
          have HZ := hide hzl
          have HQ := hide HP
          clear hown hown' hgrow hb5 HP hzz hzl g1 f1 hws
          go_wp2
          go_roundw
          case rel => exact ⟨t + 1, _, zz, by omega, HZ.out.1, fun _ => HZ.out.2, by go_num, HQ.out⟩
          case measure => simp only [intOf]; omega
        · go_wp2
          go_roundw
          case rel => exact ⟨t + 1, vv, zs, by omega, HLG.out.more, fun h => absurd h (by omega), by go_num, hs⟩
          case measure => simp only [intOf]; omega
      · obtain rfl : t = q := by omega
        by_cases hz : zs.length = 0
        · have hZ : ((zs.length : Int) == 0) = true := by rw [hz]; rfl
          have hzs : zs = [] := List.length_eq_zero_iff.1 hz
          subst hzs
          obtain ⟨av, cv, rfl, iv, _⟩ := hs.2.1.form
          have g1 := cell_of_block hs.1 1
          have HS0 := hide hs
          clear iv hs
          go_upto_region 49 with (go_at_call 45; refine (power_any _ _ (by omega) (by omega)).mono ?_; rintro e w' ⟨rfl, rfl⟩)
          have hs := HS0.out
          have hsd := hs.drew
          have d1 := cell_of_block hsd.1 1
          have hRs : R < w.heap.size := hs.2.2.2.2.2.2
          clear hs
          go_region_law (first
            | (go_simp; go_at_call 45; refine (power_any _ _ (by omega) (by omega)).mono ?_; rintro e w' ⟨rfl, rfl⟩; go_wp2_with fail)
            | (go_simp; go_at_call 17; refine (pick_any R _ _ _ hsd.rd (by omega) ⟨by omega, by omega⟩).mono ?_; rintro e w3 ⟨y, rfl, hy0, hyl, _, g3, rd3⟩; have hs3 := hsd.pick g3 rd3; have k3 := cell_of_block hs3.1 1; have hown3 := hs3.2.1; have hw3 : w.heap.size + 2 ≤ w3.heap.size := hs3.2.2.2.2.2.1; have k4 : ∀ o : Obj, (w3.alloc o).cell? ⟨w.heap.size + 1, 1, none⟩ = some (.slice av 0 cv) := fun o => cell_of_block (hs3.below (bel1 w3 o)).1 1; go_wp2_with fail)
            | (refine step_append_lies _ (by rfl) _ _ _ (by rfl) (w.heap.size + 2) 3 i0 (.int .i64 0) 1 8 Tryz.underlying35 hi0 hz0 hz1 hz2 rfl (by decide) _ _ _ (by rfl) (hown3.alloc _) ⟨w3.heap.size, 0, none⟩ 1 1 [.int .i64 y] (by rfl) (by rfl) (World.news_of_block (cs := #[.int .i64 y]) (t := 3) (fr := (0, 0)) (heap_alloc_new w3 _)) (by simp [Value.oneCell']) (by omega) (by unfold maxLen; simp) (by simp) (by simp; omega) (w3.heap.size + 1) (by simp) ?_; intro gg cc w5 hown5 hgrow hat hltg; obtain ⟨HP5, hb5⟩ := hs3.push hgrow hown5; have f5 := unfrozen_of_block hb5 1; have g5 := cell_of_block hb5 1))
          all_goals
            have HP5 : SI R w m _ (.slice (some ⟨gg, 0, none⟩) 1 cc) [y] (w5.setCell ⟨w.heap.size + 1, 1, none⟩ (.slice (some ⟨gg, 0, none⟩) 1 cc)) := HP5
            have r0 := cell_of_block HP5.2.2.1 0
            have r1 := cell_of_block HP5.2.2.1 1
            have f0 := unfrozen_of_block HP5.2.2.1 0
            have f1 := unfrozen_of_block HP5.2.2.1 1
            have q0 := cell_of_block HP5.1 0
            have q1 := cell_of_block HP5.1 1
            go_wp2_with fail
            refine bodyPost_ret (ret_space rfl _ _ _ _ _ rfl (block_setCell (i := 1) (block_setCell (i := 0) HP5.2.2.1 _) _)) rfl ?_
            exact HP5.doneD ⟨by simp, by omega, by simp, fun z hz' => by
              have hy3 := hyl (by omega)
              have hz3 := List.mem_singleton.1 hz'
              omega⟩ (by omega) _ _
        · have hZ : ((zs.length : Int) == 0) = false := by rw [beq_eq_false_iff_ne]; omega
          obtain ⟨av, cv, rfl, iv, _⟩ := hs.2.1.form
          have g0 := cell_of_block hs.1 0
          have g1 := cell_of_block hs.1 1
          have f0 := unfrozen_of_block hs.2.2.1 0
          have f1 := unfrozen_of_block hs.2.2.1 1
          have r0 := cell_of_block hs.2.2.1 0
          have r1 := cell_of_block hs.2.2.1 1
          have HS := hide hs
          clear iv hs
          go_wp2_with (go_at_call 45; refine (power_any _ _ (by omega) (by omega)).mono ?_; rintro e w' ⟨rfl, rfl⟩)
          refine bodyPost_ret (ret_space rfl _ _ _ _ _ rfl (block_setCell (i := 1) (block_setCell (i := 0) HS.out.2.2.1 _) _)) rfl ?_
          exact HS.out.doneD ⟨by omega, by omega, fun e => hz (by rw [e]; rfl), HLG.out.2⟩ (by omega) _ _
set_option maxHeartbeats 2000000 in
set_option maxRecDepth 100000 in
theorem goodSpaceD_any (R n : Nat) (w : World) (hr : RD w R n) (hn : n < 1073740000) :
    Calls Tryz.prog 14 #[.pointer (some ⟨R, 0, none⟩)] w (SpacePostD R (n + 41) w) := by
  have h0 := QI.new hr
  have hRw := h0.2.2.2.2
  have hl5 := lit5d (w.alloc (.cells #[.int .i64 0, .slice none 0 0] 37)) 3 3 4 2 1
  have h1 := h0.below (bel1 (w.alloc (.cells #[.int .i64 0, .slice none 0 0] 37)) (.cells #[.int .i64 3, .int .i64 3, .int .i64 4, .int .i64 2, .int .i64 1] 3))
  simp only [World.size_alloc] at hl5
  have HQ := hide h1
  clear h0 h1
  go_enter Tryz.func14, Tryz.ntmps14
  go_wp2_with fail
  have ho := one_any R n 5 _ _ _ HQ.out.2.2.1 (by omega) hl5 (by simp) (by simp) (fun b o s e => by cases e; omega)
  refine ho.mono ?_
  rintro e w2 ⟨x, hx, rfl, g, rd⟩
  have h2 := HQ.out.pick g rd
  have hx' : 1 ≤ x ∧ x ≤ 4 := by
    simp only [List.mem_cons, List.not_mem_nil, or_false] at hx
    omega
  clear hx ho g hl5
  go_wp2_with fail
  refine (spaceOfD_any R (n + 1) x _ rd (by omega) hx'.1 hx'.2).mono ?_
  rintro e w3 ⟨m, v, zs, rfl, hown, hl, g, rd3⟩
  have h3 := h2.pick g rd3
  obtain ⟨av, cv, rfl, iv, _⟩ := hown.form
  have f0 := unfrozen_of_block h3.1 0
  have f1 := unfrozen_of_block h3.1 1
  have r0 := cell_of_block h3.1 0
  have r1 := cell_of_block h3.1 1
  have H3 := hide h3
  have HO := hide (hown.le h2.2.2.2.1)
  clear iv hown h2 h3 rd rd3 g
  go_wp2_with fail
  refine bodyPost_ret (ret_space rfl _ _ _ _ _ rfl (block_setCell (i := 1) (block_setCell (i := 0) H3.out.1 _) _)) rfl ?_
  exact H3.out.doneD HO.out hl (by omega) _ _
end Go.Proofs.YtgebplpbnaeckaaGreatDoor
