/- The law of CriticalParts answers true at every code: they tell the space; its walk. -/
import Derived.Test.YtklgganapphioaaCrL
import Derived.Test.YtklgganapphioaaDrawC
namespace Go.Proofs.Ytklgganapphioaa
open Go.RowKit Go.Joins

theorem implIsOpen_wasC (n : Int) (a : Option Addr) (cap : Nat) (zs : List Int) (c b : Int) (w : World) (r : Bool) (hi : Ints w a zs) (hn : zs.length ≤ 1048576) (wb : (Lit.int .i64 b).wf = true) (hr : opB n zs c b = r) :
    Calls Try.prog 40 #[.agg #[.int .i64 n, .slice a zs.length cap], .agg #[.int .i64 c, .int .i64 b]] w fun e w' => e = .returned (.bool r) ∧ Below w.heap.size w w' := by
  subst hr
  exact implIsOpen_any n a cap zs c b w hi hn wb
set_option maxHeartbeats 8000000 in
set_option maxRecDepth 100000 in
theorem walk_FnCriticalParts (a : Option Addr) (zs : List Nat) (cap : Nat) (w : World) (hi : Byts w a zs) (hl : zs.length ≤ maxLen) (hc : zs.length ≤ cap) :
    Calls Try.prog 9 #[.slice a zs.length cap] w fun e w' => e = .returned (.bool true) ∧ Below w.heap.size w w' := by
  by_cases h : 1048576 < zs.length
  · unfold maxLen at hl
    go_enter Try.func9, Try.ntmps9
    go_wp2
    go_ret
    exact ⟨rfl, Below.refl _ _⟩
  · have hl' : zs.length ≤ 1048576 := by omega
    clear h hl
    go_enter Try.func9, Try.ntmps9
    go_wp2_with fail
    refine (drawCriticalParts_any _ _ _ _ hi hl' hc).mono ?_
    rintro e w1 ⟨m, av, ss, cv, rfl, iv, hsl, hcv, hb⟩
    have S0 := SV.new w1 m av ss cv none [] 28 iv (Ints.nil _ _)
    have HB := hide hb
    have hn : ss.length ≤ 1048576 := by omega
    clear hb hi iv hl' hsl hcv
    obtain ⟨⟨_, c0, c1⟩, _⟩ := S0.pair
    obtain ⟨ps, hps⟩ : ∃ ps, crR m ss = ps := ⟨_, rfl⟩
    have HPS := hide hps
    have hl81 : ps.length ≤ 81 := by have := crR_81 m ss; rw [hps] at this; exact this
    have hl20 : ps.length ≤ 1048576 := by omega
    clear hps
    go_wp2_with fail
    refine (implCrit_was _ _ _ _ _ _ S0.2.1 hn HPS.out).mono ?_
    rintro e w2 ⟨v, rfl, ov, b2⟩
    obtain ⟨va, vc, rfl, pv⟩ := ov.form
    have S2 := S0.below b2
    clear c0 c1 S0 b2 ov
    obtain ⟨⟨_, c0, c1⟩, _⟩ := S2.pair
    go_wp2_with fail
    refine (specCrit_was _ _ _ _ _ _ S2.2.1 hn HPS.out).mono ?_
    rintro e w3 ⟨u, rfl, ou, b3⟩
    obtain ⟨ua, uc, rfl, pu⟩ := ou.form
    have S3 := S2.below b3
    have pv3 := pv.below b3
    clear c0 c1 S2 b3 ou pv
    obtain ⟨⟨_, c0, c1⟩, _⟩ := S3.pair
    go_wp2_with fail
    refine (equalParts_yes _ _ _ _ _ _ pv3 pu hl20).mono ?_
    rintro e w4 ⟨rfl, b4⟩
    have S4 := S3.below b4
    have pv4 := pv3.below b4
    clear c0 c1 S3 b4 pv3 pu
    obtain ⟨⟨_, c0, c1⟩, _⟩ := S4.pair
    by_cases hv : vsB m ss = false
    · have HV := hide hv
      clear hv
      go_wp2_with fail
      refine (implValid_was _ _ _ _ _ false S4.2.1 hn HV.out).mono ?_
      rintro e w5 ⟨rfl, b5⟩
      have S5 := S4.below b5
      have pv5 := pv4.below b5
      clear c0 c1 S4 b5 pv4
      obtain ⟨⟨_, c0, c1⟩, _⟩ := S5.pair
      go_wp2_with fail
      refine (specCrit_was _ _ _ _ _ _ S5.2.1 hn HPS.out).mono ?_
      rintro e w6 ⟨x, rfl, ox, b6⟩
      obtain ⟨xa, xc, rfl, px⟩ := ox.form
      have S6 := S5.below b6
      have pv6 := pv5.below b6
      clear c0 c1 S5 b6 ox pv5
      go_wp2_with fail
      refine (equalParts_yes _ _ _ _ _ _ pv6 px hl20).mono ?_
      rintro e w7 ⟨rfl, b7⟩
      go_wp2
      go_ret
      exact ⟨rfl, bnext HB.out (S6.below b7).2.2.2⟩
    · have hv : vsB m ss = true := by simpa using hv
      have HV := hide hv
      have hV := valid_of hv
      have hN4 := hV.1
      obtain ⟨N, rfl⟩ : ∃ N : Nat, m = (N : Int) := ⟨m.toNat, by omega⟩
      obtain ⟨L, hL⟩ : ∃ L, L = critL N ss := ⟨_, rfl⟩
      obtain rfl : ps = ofP L := by rw [← HPS.out, crR_yes hv, Int.toNat_natCast, hL]
      have HLL := hide (ofP_len L)
      have HPT : Hid (∀ p ∈ L, p.1 ≠ 0 ∧ vpB (N : Int) ss (p.1 : Int) (p.2 : Int) = true ∧ opB (N : Int) ss (p.1 : Int) (p.2 : Int) = false ∧ p.1 < 16 ∧ p.2 < 16) := fun p hp => by
        rw [hL] at hp
        obtain ⟨h1, h2, h3, h4, h5⟩ := crit_pt hV hp
        have hvp : vpB (N : Int) ss (p.1 : Int) (p.2 : Int) = true := by rw [vpB_true hv]; exact ptB_true h2
        exact ⟨h1, hvp, by rw [opB_true hvp]; exact h3, h4, h5⟩
      have HWF : Hid (∀ p ∈ ofP L, (Lit.int .i64 p.2).wf = true) := fun p hp => by
        unfold ofP at hp
        obtain ⟨q, hq, rfl⟩ := List.mem_map.1 hp
        exact wf_16 _ (HPT.out q hq).2.2.2.2
      have HSW : Hid (L.length ≤ 10 → swN (N : Int) (ofP L) = N ∧ swL (N : Int) (ofP L) = ss ∧ swB (N : Int) (ofP L) = true) := fun h10 =>
        sw_yes hV (fun m hm => by rw [← hL]; exact hm) h10 (by rw [hL]; exact sw_crit hV) hV.2.1
      clear hv hV hN4 hL
      go_wp2_with fail
      refine (implValid_was _ _ _ _ _ true S4.2.1 hn HV.out).mono ?_
      rintro e w5 ⟨rfl, b5⟩
      have S5 := hide (S4.below b5)
      have pv5 := hide (pv4.below b5)
      clear c0 c1 S4 b5 pv4
      go_wp2_with fail
      go_loopw [5] (fun i wq => ∃ k : Nat, k ≤ (ofP L).length ∧ i = .int .i64 k ∧ Below w5.heap.size w5 wq) (fun i _ => (ofP L).length - (intOf i).toNat)
      case atStart => exact ⟨0, Nat.zero_le _, rfl, Below.refl _ _⟩
      case round =>
        obtain ⟨k, hk, rfl, hbq⟩ := hrel
        have SR := hide (S5.out.below hbq)
        have HBQ := hide hbq
        obtain ⟨⟨_, c0, c1⟩, _⟩ := SR.out.pair
        by_cases hlt : k < (ofP L).length
        · have hlt' : k < L.length := by rw [← HLL.out]; exact hlt
          obtain ⟨bb, off, rfl, hbl, hcc⟩ := (pv5.out.below hbq) (by omega)
          obtain ⟨h1, h2⟩ := hcc k hlt
          rw [ofP_at hlt'] at h1 h2
          have hpt := HPT.out _ (List.getElem_mem hlt')
          obtain ⟨mc, hmc⟩ : ∃ mc, mc = L[k].1 := ⟨_, rfl⟩
          obtain ⟨mb, hmb⟩ : ∃ mb, mb = L[k].2 := ⟨_, rfl⟩
          rw [← hmc, ← hmb] at hpt
          simp only [← hmc] at h1
          simp only [← hmb] at h2
          have hz : ((mc : Int) == 0) = false := by rw [beq_eq_false_iff_ne]; have := hpt.1; omega
          have HPV := hide hpt.2.1
          have HPO := hide hpt.2.2.1
          have wb := hide (wf_16 mb hpt.2.2.2.2)
          clear hcc hmc hmb hpt hbq
          have id0 := SR.out.drew.2.1
          go_upto_region 10 with fail
          go_region_held3 (fun w' => w'.cell? ⟨w1.heap.size, 0, none⟩ = some (.int .i64 (N : Int)) ∧ w'.cell? ⟨w1.heap.size, 1, none⟩ = some (.slice av ss.length cv) ∧ w'.cell? ⟨bb, off + k * 2, none⟩ = some (.int .i64 mc) ∧ w'.cell? ⟨bb, off + k * 2 + 1, none⟩ = some (.int .i64 mb))
            (first | go_keep | exact HK2.out | exact HK1.out)
            (first
              | (go_at_call 40; (with_reducible refine (implIsOpen_wasC _ _ _ _ _ _ _ false id0 hn wb.out HPO.out).mono ?_); rintro e w7 ⟨rfl, b7⟩; have S7 := hide (SR.out.drew.below b7); have i7 := S7.out.2.1; have HK1 := hide (show w7.cell? ⟨w1.heap.size, 0, none⟩ = some (.int .i64 (N : Int)) ∧ w7.cell? ⟨w1.heap.size, 1, none⟩ = some (.slice av ss.length cv) ∧ w7.cell? ⟨bb, off + k * 2, none⟩ = some (.int .i64 mc) ∧ w7.cell? ⟨bb, off + k * 2 + 1, none⟩ = some (.int .i64 mb) from ⟨S7.out.1.2.1, S7.out.1.2.2, (b7.cell (p := ⟨bb, off + k * 2, none⟩) (World.block_lt_of_cell? _ _ (by assumption))).trans (by assumption), (b7.cell (p := ⟨bb, off + k * 2 + 1, none⟩) (World.block_lt_of_cell? _ _ (by assumption))).trans (by assumption)⟩))
              | (go_at_call 42; (with_reducible refine (implValidPart_is _ _ _ _ _ _ _ true i7 hn wb.out HPV.out).mono ?_); rintro e w8 ⟨rfl, b8⟩; have S8 := hide (S7.out.below b8); have HK2 := hide (show w8.cell? ⟨w1.heap.size, 0, none⟩ = some (.int .i64 (N : Int)) ∧ w8.cell? ⟨w1.heap.size, 1, none⟩ = some (.slice av ss.length cv) ∧ w8.cell? ⟨bb, off + k * 2, none⟩ = some (.int .i64 mc) ∧ w8.cell? ⟨bb, off + k * 2 + 1, none⟩ = some (.int .i64 mb) from ⟨S8.out.1.2.1, S8.out.1.2.2, (b8.cell (p := ⟨bb, off + k * 2, none⟩) (World.block_lt_of_cell? _ _ HK1.out.2.2.1)).trans HK1.out.2.2.1, (b8.cell (p := ⟨bb, off + k * 2 + 1, none⟩) (World.block_lt_of_cell? _ _ HK1.out.2.2.2)).trans HK1.out.2.2.2⟩)))
          all_goals
            go_wp2
            go_roundw
            case rel => exact ⟨k + 1, by omega, by go_num, bnext HBQ.out (bnext (bdrew b7) b8)⟩
            case measure => simp only [intOf]; omega
        · obtain rfl : k = (ofP L).length := by omega
          have pvr := pv5.out.below hbq
          clear hbq
          go_wp2_with fail
          refine (implSw_any _ _ _ _ _ pvr hl20 HWF.out).mono ?_
          rintro e w6 ⟨x, rfl, ox, b6⟩
          obtain ⟨xa, xc, rfl, ix, _⟩ := ox.form
          have S6 := (SR.out.below b6).below (bel1 w6 (.cells #[.int .i64 (swN (N : Int) (ofP L)), .slice xa (swL (N : Int) (ofP L)).length xc] 28))
          have bx := Box.new w6 (swN (N : Int) (ofP L)) xa (swL (N : Int) (ofP L)).length xc 28
          have ix6 := ix.below (bel1 w6 (.cells #[.int .i64 (swN (N : Int) (ofP L)), .slice xa (swL (N : Int) (ofP L)).length xc] 28))
          have HS6 := hide S6
          obtain ⟨⟨_, d0, d1⟩, i6, _⟩ := S6.pair
          obtain ⟨_, x0, x1⟩ := bx
          clear c0 c1 ox b6 ix pvr SR S5 pv5
          by_cases h10 : (ofP L).length ≤ 10
          · obtain ⟨e1, e2, e3⟩ := HSW.out (by rw [← HLL.out]; exact h10)
            rw [e1, e2] at HS6 d0 d1 x0 x1 ix6 i6
            rw [e1, e2, e3]
            have hd : decide (10 < (ofP L).length) = false := decide_eq_false (by omega)
            clear e1 e2 e3 HSW
            go_wp2_with fail
            refine (equalSpace_was _ _ _ _ _ _ _ _ _ true ix6 i6 hn hn (eqS_refl _ _)).mono ?_
            rintro e w7 ⟨rfl, b7⟩
            go_wp2
            go_ret
            exact ⟨rfl, bnext HB.out (HS6.out.below b7).2.2.2⟩
          · have hd : decide (10 < (ofP L).length) = true := decide_eq_true (by omega)
            go_wp2
            go_ret
            exact ⟨rfl, bnext HB.out HS6.out.2.2.2⟩
end Go.Proofs.Ytklgganapphioaa
