/- Leads in the model. -/
import Derived.Test.YtgebplpbnaeckaaGreatDoorMg24
namespace Go.Proofs.YtgebplpbnaeckaaGreatDoor
open Go.RowKit Go.Joins

set_option maxHeartbeats 8000000 in
set_option maxRecDepth 100000 in
theorem leads_any (N : Nat) (a : Option Addr) (cap : Nat) (zs : List Int) (w : World) (hi : Ints w a zs) (hn : zs.length ≤ 1048576) (hN : 1 ≤ N ∧ N ≤ 4) (hr : ∀ x ∈ zs, 0 ≤ x ∧ x ≤ 15) :
    Calls Tryz.prog 63 #[.agg #[.int .i64 (N : Int), .slice a zs.length cap]] w (Gives (ci (stI N (critL N zs) (critL N zs).length)) w) := by
  obtain ⟨i0, hi0, hz0, hz1, hz2⟩ := info_parts info_int
  have S0 := SV.new w (N : Int) a zs cap none [] 37 hi (Ints.nil _ _)
  obtain ⟨L, hL⟩ : ∃ L, L = critL N zs := ⟨_, rfl⟩
  have hl81 : L.length ≤ 81 := by
    rw [hL]
    have h1 : (ordL N).length ≤ 81 := by simpa using range5_of ord_len hN.2
    exact Nat.le_trans (List.length_filter_le _ _) h1
  have H16 : Hid (∀ p ∈ L, p.1 < 16 ∧ p.2 < 16) := fun p hp => by
    rw [hL] at hp
    exact ord_16 hN.2 (List.mem_filter.1 hp).1
  have HR := hide hr
  have HLL := hide (ofP_len L)
  have HL := hide hL
  clear hi hr
  obtain ⟨⟨_, c0, c1⟩, _⟩ := S0.pair
  go_enter Tryz.func63, Tryz.ntmps63
  go_wp2_with (at_make; refine wpList_make_full _ rfl _ _ 35 rfl (w.heap.size + 1) 3 i0 (.int .i64 0) 1 Tryz.underlying35 hi0 hz0 hz1 _ _ _ _ (2 * N) rfl rfl (by first | omega | (simp; omega)) (by first | omega | (simp; omega)) ?b2 ?b3 (by simp) ?_)
  case b2 => rw [hz2]; omega
  case b3 => unfold maxLen; omega
  intro w0 hown0 hgrow0
  rw [madeInts] at hown0
  have S1 := S0.below ((Below.refl _ _).grown hgrow0 (Nat.le_refl _) (fun k h => by cases h))
  clear c0 c1 S0 hgrow0
  obtain ⟨⟨_, c0, c1⟩, _⟩ := S1.pair
  go_wp2_with fail
  refine (critical_any N _ _ _ _ S1.2.1 hn hN HR.out).mono ?_
  rintro e w2 ⟨v, rfl, own, hb2⟩
  rw [← HL.out] at own
  obtain ⟨va, vc, hve, pin⟩ := own.form
  rw [HLL.out] at hve
  subst hve
  have hB0 : w.heap.size + 1 < w0.heap.size := (hown0.lt (w.heap.size + 1) rfl).2
  have hne := ownsP_ne own (g := w.heap.size + 1) (by omega)
  have HNE := hide hne
  have PIN := hide pin
  have D0 := hide (LDs.start hown0 hb2)
  have S2 := hide (S1.below hb2)
  obtain ⟨⟨_, d0, _⟩, _⟩ := S2.out.pair
  have DN := hide d0
  clear c0 c1 S1 own hown0 hb2 hne pin d0 hB0 hL
  go_wp2_with fail
  go_loopw [5] (fun i wr => ∃ ii : Nat, ii ≤ L.length ∧ i = .int .i64 ii ∧ LDs w2 (w.heap.size + 1) (2 * N) (stI N L ii) wr) (fun i _ => L.length - (intOf i).toNat)
  case atStart => exact ⟨0, Nat.zero_le _, rfl, D0.out⟩
  case round =>
    clear D0
    obtain ⟨ii, hii, rfl, hc⟩ := hrel
    by_cases hlt : ii < L.length
    · obtain ⟨m, hm⟩ : ∃ m, m = L[ii] := ⟨_, rfl⟩
      have h16 := H16.out L[ii] (List.getElem_mem hlt)
      rw [← hm] at h16
      have HS := hide (show stI N L (ii + 1) = stJ N m N (stI N L ii) from by rw [hm]; exact stI_succ hlt)
      obtain ⟨r0, hr0⟩ : ∃ r0, r0 = stI N L ii := ⟨_, rfl⟩
      rw [← hr0] at hc HS
      have HM := hide hm
      have H16m := hide h16
      have HC := hide hc
      have qn := hc.keep DN.out (by simp)
      clear hm h16 hr0 hc
      go_wp2_with fail
      clear qn
      go_loopw [6] (fun i wr => ∃ jj : Nat, jj ≤ N ∧ i = .int .i64 jj ∧ LDs w2 (w.heap.size + 1) (2 * N) (stJ N m jj r0) wr) (fun i _ => N - (intOf i).toNat)
      case atStart => exact ⟨0, Nat.zero_le _, rfl, HC.out⟩
      case round =>
        clear HC
        obtain ⟨j, hj, rfl, hc⟩ := hrel
        have qn := hc.keep DN.out (by simp)
        have HC := hide hc
        clear hc
        by_cases hjn : j < N
        · obtain ⟨r1, hr1⟩ : ∃ r1, r1 = stJ N m j r0 := ⟨_, rfl⟩
          have HJ := hide (stJ_succ N m j r0)
          rw [← hr1] at HC HJ
          clear hr1
          go_wp2_with fail
          clear qn
          go_loopw [7] (fun i wr => ∃ kk : Nat, kk ≤ N ∧ i = .int .i64 kk ∧ LDs w2 (w.heap.size + 1) (2 * N) (stK m j kk r1) wr) (fun i _ => N - (intOf i).toNat)
          case atStart => exact ⟨0, Nat.zero_le _, rfl, HC.out⟩
          case round =>
            clear HC
            obtain ⟨k, hk, rfl, hc⟩ := hrel
            have qn := hc.keep DN.out (by simp)
            by_cases hkn : k < N
            · obtain ⟨b1, o1, rfl, hb1, hc1⟩ := PIN.out (by rw [HLL.out]; omega)
              obtain ⟨x1, x2⟩ := hc1 ii (by rw [HLL.out]; omega)
              have hnb : b1 ≠ w.heap.size + 1 := HNE.out b1 o1 none rfl
              rw [ofP_at hlt, ← HM.out] at x1 x2
              have z1 := hc.keep x1 (by simpa using hnb)
              have z2 := hc.keep x2 (by simpa using hnb)
              clear x1 x2 hc1 hnb hb1
              obtain ⟨mc, mb⟩ := m
              have m16 := H16m.out
              obtain ⟨bj, hbj⟩ : ∃ bj, bitN mc j = bj := ⟨_, rfl⟩
              obtain ⟨bk, hbk⟩ : ∃ bk, bitN mc k = bk := ⟨_, rfl⟩
              have lbj := bitN_le mc j
              have lbk := bitN_le mc k
              have hcond : condK (mc, mb) j k = ((j != k) && ((bj == 1) && (bk == 1))) := by unfold condK; rw [hbj, hbk]
              rw [hbj] at lbj
              rw [hbk] at lbk
              have HBJ := hide hbj
              have HBK := hide hbk
              have HCD := hide hcond
              have HC := hide hc
              clear hbj hbk hcond hc
              by_cases hjk : j = k
              · subst hjk
                have hne : ((j : Int) != (j : Int)) = false := by simp
                go_wp2_with fail
                go_roundw
                case rel => exact ⟨j + 1, by omega, by go_num, by rw [stK_no (by rw [HCD.out]; simp)]; exact HC.out⟩
                case measure => simp only [intOf]; omega
              · have hne : ((j : Int) != (k : Int)) = true := by simp; omega
                have HJK := hide (show (j != k) = true from by simpa using hjk)
                clear hjk
                rcases (show bj = 0 ∨ bj = 1 from by omega) with rfl | rfl
                · go_wp2_with (go_at_call 46; refine (bit8_was mc j 0 _ (by omega) (by omega) HBJ.out).mono ?_; rintro e w' ⟨rfl, rfl⟩)
                  go_roundw
                  case rel => exact ⟨k + 1, by omega, by go_num, by rw [stK_no (by rw [HCD.out]; simp)]; exact HC.out⟩
                  case measure => simp only [intOf]; omega
                · rcases (show bk = 0 ∨ bk = 1 from by omega) with rfl | rfl
                  · go_wp2_with (go_at_call 46; (first | refine (bit8_was mc j 1 _ (by omega) (by omega) HBJ.out).mono ?_ | refine (bit8_was mc k 0 _ (by omega) (by omega) HBK.out).mono ?_); rintro e w' ⟨rfl, rfl⟩)
                    go_roundw
                    case rel => exact ⟨k + 1, by omega, by go_num, by rw [stK_no (by rw [HCD.out]; simp)]; exact HC.out⟩
                    case measure => simp only [intOf]; omega
                  · obtain ⟨f, hf⟩ : ∃ f, f = plc (mc, mb) j := ⟨_, rfl⟩
                    obtain ⟨t, ht⟩ : ∃ t, t = opp (mc, mb) k := ⟨_, rfl⟩
                    obtain ⟨ej, hej⟩ : ∃ ej, bitN mb j = ej := ⟨_, rfl⟩
                    obtain ⟨ek, hek⟩ : ∃ ek, bitN mb k = ek := ⟨_, rfl⟩
                    have lej := bitN_le mb j
                    have lek := bitN_le mb k
                    rw [hej] at lej
                    rw [hek] at lek
                    have hf1 : 2 * j + ej = f := by rw [hf]; unfold plc; rw [hej]
                    have ht1 : 2 * k + 1 - ek = t := by rw [ht]; unfold opp; rw [hek]
                    have HY := hide (show stK (mc, mb) j (k + 1) r1 = upd (stK (mc, mb) j k r1) f t from by rw [hf, ht]; exact stK_yes (by rw [HCD.out, HJK.out]; rfl))
                    have HEJ := hide hej
                    have HEK := hide hek
                    clear hf ht hej hek
                    go_wp2_with (go_at_call 46; (first | refine (bit8_was mc j 1 _ (by omega) (by omega) HBJ.out).mono ?_ | refine (bit8_was mc k 1 _ (by omega) (by omega) HBK.out).mono ?_ | refine (bit8_was mb j ej _ (by omega) (by omega) HEJ.out).mono ?_ | refine (bit8_was mb k ek _ (by omega) (by omega) HEK.out).mono ?_); rintro e w' ⟨rfl, rfl⟩)
                    clear z1 z2 qn
                    obtain ⟨u, hu⟩ : ∃ u, u = stK (mc, mb) j k r1 := ⟨_, rfl⟩
                    rw [← hu] at HC HY
                    obtain ⟨q, hq⟩ := HC.out.at (f := f) (by omega)
                    have hl := HC.out.2.2.at f
                    obtain ⟨lf, hlf⟩ : ∃ lf, u.getD f 0 = lf := ⟨_, rfl⟩
                    have hp := pow_256 (t := t) (by omega)
                    obtain ⟨pt, hpt⟩ : ∃ pt, 2 ^ t = pt := ⟨_, rfl⟩
                    rw [hlf] at q hl
                    rw [hpt] at hp
                    have hor := orL lf pt (by omega) (by omega)
                    have HP := hide hpt
                    have HLF := hide hlf
                    clear hu hpt hlf
                    have e1 : 2 * (j : Int) + (ej : Int) = (f : Int) := by omega
                    have e2 : 2 * (k : Int) + 1 - (ek : Int) = (t : Int) := by omega
                    rw [e1, e2]
                    have hf8 : f < 2 * N := by omega
                    have ht8 : t ≤ 8 := by omega
                    clear e1 e2 hf1 ht1
                    go_region_with (go_at_call 45; refine (power8_was t pt _ ht8 HP.out).mono ?_; rintro e w' ⟨rfl, rfl⟩)
                    all_goals go_wp2
                    all_goals
                      go_roundw
                      case rel => exact ⟨k + 1, by omega, by go_num, by rw [HY.out]; unfold upd; rw [HLF.out, HP.out]; exact (HC.out.drew).store (or_256 hl hp)⟩
                      case measure => simp only [intOf]; omega
            · obtain rfl : k = N := by omega
              go_wp2_with fail
              go_roundw
              case rel => exact ⟨j + 1, by omega, by go_num, by rw [HJ.out]; exact hc⟩
              case measure => simp only [intOf]; omega
        · obtain rfl : j = N := by omega
          go_wp2_with fail
          go_roundw
          case rel => exact ⟨ii + 1, by omega, by go_num, by rw [HS.out]; exact HC.out⟩
          case measure => simp only [intOf]; omega
    · obtain rfl : ii = L.length := by omega
      go_wp2_with fail
      go_ret
      refine ⟨_, rfl, ?_, ?_⟩
      · refine Owns.le (base := w.heap.size + 1) ?_ (by omega)
        have h1 := hc.1
        have h2 := hc.2.2.1
        unfold Owns
        rw [← HL.out, ci_len]
        clear hc
        generalize (stI N L L.length) = z at h1 h2 ⊢
        rw [h2]
        exact h1
      · exact bgrown S2.out.2.2.2 hc.2.1 (by omega) (fun k hk => by cases hk; omega)
end Go.Proofs.YtgebplpbnaeckaaGreatDoor
