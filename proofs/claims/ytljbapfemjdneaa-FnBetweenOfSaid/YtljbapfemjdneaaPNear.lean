/- The laws of NearestTo and of InSpace: what the nearest are; their walks. -/
import Derived.Test.YtljbapfemjdneaaDrawPN
import Derived.Test.YtljbapfemjdneaaLawH
import Derived.Test.YtljbapfemjdneaaNearI
import Derived.Test.YtljbapfemjdneaaMed
namespace Go.Proofs.Ytljbapfemjdneaa
open Go.RowKit Go.Joins

theorem valid_pair {n : Int} {zs : List Int} (h : Valid n zs) : zs.Pairwise (· < ·) := by
  rw [List.pairwise_iff_getElem]
  intro i j hi hj hij
  have := asc_valid h i j hij hj
  rwa [getD_lt hi, getD_lt hj] at this
theorem ups_filter {n : Int} {zs : List Int} (h : Valid n zs) (p : Int → Bool) : Ups (zs.filter p) := by
  have hp := List.Pairwise.filter p (valid_pair h)
  intro i hi h0
  have := (List.pairwise_iff_getElem.1 hp) (i - 1) i (by omega) hi (by omega)
  rwa [getD_lt hi, getD_lt (by omega)]
theorem leastK_lb (x : Int) (zs : List Int) : ∀ k, ∀ j, j < k → leastK x zs k ≤ dst x (zs.getD j 0)
  | 0, j, h => by omega
  | k + 1, j, h => by
    rw [leastK]
    rcases Nat.lt_or_ge j k with h' | h'
    · exact Nat.le_trans (Nat.min_le_left _ _) (leastK_lb x zs k j h')
    · obtain rfl : j = k := by omega
      exact Nat.min_le_right _ _
theorem leastK_at (x : Int) (zs : List Int) (h0 : 0 < zs.length) : ∀ k, k ≤ zs.length → ∃ j, j < zs.length ∧ leastK x zs k = dst x (zs.getD j 0)
  | 0, _ => ⟨0, h0, rfl⟩
  | k + 1, hk => by
    rw [leastK]
    rcases Nat.le_total (leastK x zs k) (dst x (zs.getD k 0)) with h | h
    · rw [Nat.min_eq_left h]
      exact leastK_at x zs h0 k (by omega)
    · rw [Nat.min_eq_right h]
      exact ⟨k, by omega, rfl⟩
theorem near_pos {n : Int} {zs : List Int} {x : Int} (h : NearOk n zs x) : 0 < (nearL n zs x).length := by
  obtain ⟨j, hj, e⟩ := leastK_at x zs h.1.2.1 zs.length (Nat.le_refl _)
  have hm : zs.getD j 0 ∈ nearL n zs x := by
    rw [nearL_yes h, List.mem_filter]
    rw [getD_lt hj] at e ⊢
    exact ⟨List.getElem_mem hj, by simp [nearP, e]⟩
  exact List.length_pos_of_mem hm
theorem near_mem {n : Int} {zs : List Int} {x y : Int} (h : NearOk n zs x) (hy : y ∈ zs) : hasB (nearL n zs x) y = nearP x zs y := by
  rw [Bool.eq_iff_iff]
  simp [hasB, nearL_yes h, List.mem_filter, hy]
theorem near_ups {n : Int} {zs : List Int} {x : Int} (h : NearOk n zs x) : Ups (nearL n zs x) := by
  rw [nearL_yes h]
  exact ups_filter h.1 _
theorem near_first {n : Int} {zs : List Int} {x : Int} (h : NearOk n zs x) : (nearL n zs x).getD 0 0 ∈ zs ∧ dst x ((nearL n zs x).getD 0 0) = leastK x zs zs.length := by
  have hp := near_pos h
  have hm : (nearL n zs x).getD 0 0 ∈ nearL n zs x := by
    rw [getD_lt hp]
    exact List.getElem_mem hp
  rw [nearL_yes h] at hm ⊢
  have := List.mem_filter.1 hm
  exact ⟨this.1, by simpa [nearP] using this.2⟩
theorem near_lb {zs : List Int} {x : Int} {k : Nat} (hk : k < zs.length) : leastK x zs zs.length ≤ dst x zs[k] := by
  have := leastK_lb x zs zs.length k hk
  rwa [getD_lt hk] at this

theorem implValidSpace_is (n : Int) (a : Option Addr) (cap : Nat) (zs : List Int) (w : World) (r : Bool) (hi : Ints w a zs) (hn : zs.length ≤ 1048576) (hr : vsB n zs = r) :
    Calls Try.prog 18 #[.agg #[.int .i64 n, .slice a zs.length cap]] w fun e w' => e = .returned (.bool r) ∧ Below w.heap.size w w' := by
  subst hr
  exact implValidSpace_any n a cap zs w hi hn
theorem isIn_is (x : Int) (a : Option Addr) (cap : Nat) (zs : List Int) (w : World) (r : Bool) (hi : Ints w a zs) (hn : zs.length ≤ 1048576) (hr : hasB zs x = r) :
    Calls Try.prog 35 #[.slice a zs.length cap, .int .i64 x] w fun e w' => e = .returned (.bool r) ∧ w = w' := by
  subst hr
  exact isIn_any x a cap zs w hi hn
theorem implGapE_any (x y : Int) (w : World) (hx : 0 ≤ x ∧ x ≤ 15) (hy : 0 ≤ y ∧ y ≤ 15) : Calls Try.prog 30 #[.int .i64 y, .int .i64 x] w fun e w' => e = .returned (.int .i64 (dst x y : Nat)) ∧ w = w' := by
  refine (implGapOf_any y x w).mono ?_
  rintro e w' ⟨he, hw⟩
  refine ⟨he.trans (ret_int ?_), hw⟩
  unfold gapV dst
  rw [if_pos ⟨hy, hx⟩]
theorem nearL_len' {n : Int} {zs : List Int} {x : Int} (h : zs.length ≤ 65) : (nearL n zs x).length ≤ 1048576 := Nat.le_trans (nearL_len n zs x) (by omega)

set_option maxHeartbeats 4000000 in
set_option maxRecDepth 100000 in
theorem walk_FnNearestTo (a : Option Addr) (zs : List Nat) (cap : Nat) (w : World) (hi : Byts w a zs) (hl : zs.length ≤ maxLen) (hc : zs.length ≤ cap) :
    Calls Try.prog 8 #[.slice a zs.length cap] w fun e w' => e = .returned (.bool true) ∧ Below w.heap.size w w' := by
  by_cases h : 1048576 < zs.length
  · unfold maxLen at hl
    go_enter Try.func8, Try.ntmps8
    go_wp2
    go_ret
    exact ⟨rfl, Below.refl _ _⟩
  · have hl' : zs.length ≤ 1048576 := by omega
    clear h hl
    go_enter Try.func8, Try.ntmps8
    go_wp2_with fail
    refine (drawNearestTo_any _ _ _ _ hi hl' hc).mono ?_
    rintro e w1 ⟨m, av, ss, cv, x, rfl, ii, hsl, hb⟩
    have S0 := SV.new w1 m av ss cv none [] 25 ii (Ints.nil _ _)
    have HB := hide hb
    have hn : ss.length ≤ 1048576 := by omega
    have hn' := hide (nearL_len' (n := m) (x := x) hsl)
    clear hb hi ii hl' hsl
    obtain ⟨⟨_, c0, c1⟩, _⟩ := S0.pair
    go_wp2_with fail
    refine (implNearestTo_any _ _ _ _ _ _ S0.2.1 hn).mono ?_
    rintro e w2 ⟨v2, rfl, ow2, b2⟩
    have S2 := S0.below b2
    obtain ⟨a2, k2, rfl, i2, _⟩ := ow2.form
    clear c0 c1 S0 ow2 b2
    obtain ⟨⟨_, c0, c1⟩, _⟩ := S2.pair
    go_wp2_with fail
    refine (specNearestTo_any _ _ _ _ _ _ S2.2.1 hn).mono ?_
    rintro e w3 ⟨v3, rfl, ow3, b3⟩
    have S3 := S2.below b3
    have i23 := i2.below b3
    obtain ⟨a3, k3, rfl, i3, _⟩ := ow3.form
    clear c0 c1 S2 ow3 b3 i2
    obtain ⟨⟨_, c0, c1⟩, _⟩ := S3.pair
    go_wp2_with fail
    refine (equalInts_yes _ _ _ _ _ _ i23 i3 hn'.out).mono ?_
    rintro e w4 ⟨rfl, b4⟩
    have S4 := S3.below b4
    have i24 := i23.below b4
    clear c0 c1 S3 b4 i23 i3
    obtain ⟨⟨_, c0, c1⟩, _⟩ := S4.pair
    by_cases hok : NearOk m ss x
    · have HK := hide hok
      have hv := vsB_true hok.1
      obtain ⟨hx0, hx1⟩ := hok.2
      have h14 := hok.1.1
      have p1 := pw_pos m
      have p2 := pw_le m h14.2
      have hd0 : decide (x < 0) = false := by simp; omega
      have hd1 : decide (pw m ≤ x) = false := by simp; omega
      have rx : Hid (0 ≤ x ∧ x ≤ 15) := ⟨by omega, by omega⟩
      have HR := hide (valid_range hok.1)
      have HF := hide (near_first hok)
      have hp := near_pos hok
      clear hok
      go_wp2_with fail
      refine (implValidSpace_is _ _ _ _ _ true S4.2.1 hn hv).mono ?_
      rintro e w5 ⟨rfl, b5⟩
      have S5 := S4.below b5
      have i25 := i24.below b5
      clear c0 c1 S4 b5 i24 hv
      obtain ⟨⟨_, c0, c1⟩, iz, _⟩ := S5.pair
      obtain ⟨b', o', rfl, hbl', hc'⟩ := i25 hp
      have h00 := hc' 0 hp
      rw [Nat.add_zero] at h00
      obtain ⟨y0, hy0⟩ : ∃ y0, y0 = (nearL m ss x).getD 0 0 := ⟨_, rfl⟩
      rw [← hy0] at h00
      have HY := hide hy0
      have ry : Hid (0 ≤ y0 ∧ y0 ≤ 15) := by
        show 0 ≤ y0 ∧ y0 ≤ 15
        rw [hy0]
        exact HR.out _ HF.out.1
      have hL : ((nearL m ss x).length : Int) ≠ 0 := by omega
      have hL' : (((nearL m ss x).length : Int) == 0) = false := by simpa using hL
      have I25 := hide i25
      clear hy0 hc' i25 hL
      go_wp2_with (first
        | (go_at_call 19; refine (lawPower_any _ _ (by omega) (by omega)).mono ?_; rintro e w' ⟨rfl, rfl⟩)
        | (go_at_call 30; refine (implGapE_any _ _ _ rx.out ry.out).mono ?_; rintro e w' ⟨rfl, rfl⟩))
      have hbest : dst x y0 = leastK x ss ss.length := by rw [HY.out]; exact HF.out.2
      rw [hbest]
      have hdl := leastK_le x ss ss.length
      clear hbest h00
      go_loop [7] (fun i => ∃ k : Nat, k ≤ ss.length ∧ i = .int .i64 k) (fun i => ss.length - (intOf i).toNat)
      case atStart => exact ⟨0, Nat.zero_le _, rfl⟩
      case round =>
        obtain ⟨k, hk, rfl⟩ := hrel
        by_cases hlt : k < ss.length
        · obtain ⟨b, off, rfl, hbl, hcz⟩ := iz (by omega)
          have hck := hcz k hlt
          rw [getD_lt hlt] at hck
          have rz := hide (HR.out _ (mem_of_at hlt))
          have hlb := near_lb (x := x) hlt
          have hmm := near_mem HK.out (mem_of_at hlt)
          have hdz := dst_le x ss[k]
          clear hcz iz
          by_cases he : nearP x ss ss[k] = true
          · rw [he] at hmm
            have hE : ((dst x ss[k] : Int) == (leastK x ss ss.length : Int)) = true := by
              unfold nearP at he
              rw [beq_iff_eq] at he ⊢; omega
            clear he
            go_wp2_with (first
              | (go_at_call 35; refine (isIn_is _ _ _ _ _ true I25.out hn'.out hmm).mono ?_; rintro e w' ⟨rfl, rfl⟩)
              | (go_at_call 30; refine (implGapE_any _ _ _ rx.out rz.out).mono ?_; rintro e w' ⟨rfl, rfl⟩))
            go_round
            case rel => exact ⟨k + 1, by omega, by go_num⟩
            case measure => simp only [intOf]; omega
          · have he : nearP x ss ss[k] = false := by simpa using he
            rw [he] at hmm
            have hE : ((dst x ss[k] : Int) == (leastK x ss ss.length : Int)) = false := by
              unfold nearP at he
              rw [beq_eq_false_iff_ne] at he ⊢; omega
            clear he
            go_wp2_with (first
              | (go_at_call 35; refine (isIn_is _ _ _ _ _ false I25.out hn'.out hmm).mono ?_; rintro e w' ⟨rfl, rfl⟩)
              | (go_at_call 30; refine (implGapE_any _ _ _ rx.out rz.out).mono ?_; rintro e w' ⟨rfl, rfl⟩))
            go_round
            case rel => exact ⟨k + 1, by omega, by go_num⟩
            case measure => simp only [intOf]; omega
        · obtain rfl : k = ss.length := by omega
          go_wp2_with fail
          refine (ascends_yes _ _ _ _ I25.out hn'.out (near_ups HK.out)).mono ?_
          rintro e w6 ⟨rfl, b6⟩
          have SS := S5.below b6
          go_wp2
          go_ret
          exact ⟨rfl, bnext HB.out SS.2.2.2⟩
    · by_cases hv : vsB m ss = false
      · clear hok
        go_wp2_with fail
        refine (implValidSpace_is _ _ _ _ _ false S4.2.1 hn hv).mono ?_
        rintro e w5 ⟨rfl, b5⟩
        have S5 := S4.below b5
        have i25 := i24.below b5
        clear c0 c1 S4 b5 i24 hv
        obtain ⟨⟨_, c0, c1⟩, _⟩ := S5.pair
        go_wp2_with fail
        refine (specNearestTo_any _ _ _ _ _ _ S5.2.1 hn).mono ?_
        rintro e w6 ⟨v6, rfl, ow6, b6⟩
        have S6 := S5.below b6
        have i26 := i25.below b6
        obtain ⟨a6, k6, rfl, i6, _⟩ := ow6.form
        go_wp2_with fail
        refine (equalInts_yes _ _ _ _ _ _ i26 i6 hn'.out).mono ?_
        rintro e w7 ⟨rfl, b7⟩
        have S7 := S6.below b7
        go_wp2
        go_ret
        exact ⟨rfl, bnext HB.out S7.2.2.2⟩
      · have hv : vsB m ss = true := by simpa using hv
        have hV := valid_of hv
        have h14 := hV.1
        have p1 := pw_pos m
        have p2 := pw_le m h14.2
        by_cases hx0 : x < 0
        · clear hok hV
          go_wp2_with fail
          refine (implValidSpace_is _ _ _ _ _ true S4.2.1 hn hv).mono ?_
          rintro e w5 ⟨rfl, b5⟩
          have S5 := S4.below b5
          have i25 := i24.below b5
          clear c0 c1 S4 b5 i24 hv
          obtain ⟨⟨_, c0, c1⟩, _⟩ := S5.pair
          go_wp2_with fail
          refine (specNearestTo_any _ _ _ _ _ _ S5.2.1 hn).mono ?_
          rintro e w6 ⟨v6, rfl, ow6, b6⟩
          have S6 := S5.below b6
          have i26 := i25.below b6
          obtain ⟨a6, k6, rfl, i6, _⟩ := ow6.form
          go_wp2_with fail
          refine (equalInts_yes _ _ _ _ _ _ i26 i6 hn'.out).mono ?_
          rintro e w7 ⟨rfl, b7⟩
          have S7 := S6.below b7
          go_wp2
          go_ret
          exact ⟨rfl, bnext HB.out S7.2.2.2⟩
        · have hx1 : pw m ≤ x := by
            rcases Int.lt_or_le x (pw m) with h | h
            · exact absurd ⟨hV, by omega, by omega⟩ hok
            · exact h
          clear hok hV
          go_wp2_with fail
          refine (implValidSpace_is _ _ _ _ _ true S4.2.1 hn hv).mono ?_
          rintro e w5 ⟨rfl, b5⟩
          have S5 := S4.below b5
          have i25 := i24.below b5
          clear c0 c1 S4 b5 i24 hv
          obtain ⟨⟨_, c0, c1⟩, _⟩ := S5.pair
          go_wp2_with (go_at_call 19; refine (lawPower_any _ _ (by omega) (by omega)).mono ?_; rintro e w' ⟨rfl, rfl⟩)
          refine (specNearestTo_any _ _ _ _ _ _ S5.2.1 hn).mono ?_
          rintro e w6 ⟨v6, rfl, ow6, b6⟩
          have S6 := S5.below b6
          have i26 := i25.below b6
          obtain ⟨a6, k6, rfl, i6, _⟩ := ow6.form
          go_wp2_with fail
          refine (equalInts_yes _ _ _ _ _ _ i26 i6 hn'.out).mono ?_
          rintro e w7 ⟨rfl, b7⟩
          have S7 := S6.below b7
          go_wp2
          go_ret
          exact ⟨rfl, bnext HB.out S7.2.2.2⟩
end Go.Proofs.Ytljbapfemjdneaa
