/- The law of BetweenOf answers true at every code: its walk. -/
import Derived.Test.YtljbapfemjdneaaDrawPB
import Derived.Test.YtljbapfemjdneaaPIn
namespace Go.Proofs.Ytljbapfemjdneaa
open Go.RowKit Go.Joins

theorem btw_and_fin : ∀ x : Fin 16, ∀ y : Fin 16, ∀ z : Fin 16, wt (x.val ^^^ z.val) + wt (z.val ^^^ y.val) = wt (x.val ^^^ y.val) → (z.val ^^^ x.val) &&& (z.val ^^^ y.val) = 0 := by decide +kernel
theorem xor_int {x y : Int} (hx : 0 ≤ x ∧ x ≤ 15) (hy : 0 ≤ y ∧ y ≤ 15) : bits .xor .i64 x y = ((x.toNat ^^^ y.toNat : Nat) : Int) := by
  obtain ⟨a, rfl⟩ := Int.eq_ofNat_of_zero_le hx.1
  obtain ⟨b, rfl⟩ := Int.eq_ofNat_of_zero_le hy.1
  exact xor_small a b (by omega) (by omega)
theorem btw_test {x y z : Int} (hx : 0 ≤ x ∧ x ≤ 15) (hy : 0 ≤ y ∧ y ≤ 15) (hz : 0 ≤ z ∧ z ≤ 15) (h : btwP x y z = true) : (bits .and .i64 (bits .xor .i64 z x) (bits .xor .i64 z y) != 0) = false := by
  unfold btwP at h
  rw [beq_iff_eq] at h
  have := btw_and_fin ⟨x.toNat, by omega⟩ ⟨y.toNat, by omega⟩ ⟨z.toNat, by omega⟩ h
  dsimp only at this
  rw [xor_int hz hx, xor_int hz hy, and_small _ _ (Nat.xor_lt_two_pow (n := 4) (by omega) (by omega)) (Nat.xor_lt_two_pow (n := 4) (by omega) (by omega)), this]
  rfl
theorem btw_sym (n : Int) (zs : List Int) (x y : Int) : btwL n zs y x = btwL n zs x y := by
  by_cases h : BtwOk n zs x y
  · rw [btwL_yes h, btwL_yes ⟨h.1, h.2.2, h.2.1⟩]
    refine List.filter_congr (fun z _ => ?_)
    unfold btwP
    rw [Nat.xor_comm y.toNat z.toNat, Nat.xor_comm z.toNat x.toNat, Nat.xor_comm y.toNat x.toNat, Nat.add_comm]
  · rw [btwL_no h, btwL_no (fun h' => h ⟨h'.1, h'.2.2, h'.2.1⟩)]
theorem btw_has {n : Int} {zs : List Int} {x y : Int} (h : BtwOk n zs x y) : hasB (btwL n zs x y) x = true ∧ hasB (btwL n zs x y) y = true := by
  constructor
  · refine hasB_true ?_
    rw [btwL_yes h, List.mem_filter]
    exact ⟨h.2.1, by simp [btwP, wt_zero]⟩
  · refine hasB_true ?_
    rw [btwL_yes h, List.mem_filter]
    exact ⟨h.2.2, by simp [btwP, wt_zero]⟩
theorem btw_ups {n : Int} {zs : List Int} {x y : Int} (h : BtwOk n zs x y) : Ups (btwL n zs x y) := by
  rw [btwL_yes h]
  exact ups_filter h.1 _
theorem btw_of {n : Int} {zs : List Int} {x y : Int} (h : BtwOk n zs x y) {k : Nat} (hk : k < (btwL n zs x y).length) : (btwL n zs x y)[k] ∈ zs ∧ btwP x y (btwL n zs x y)[k] = true := by
  have hm : (btwL n zs x y)[k] ∈ btwL n zs x y := List.getElem_mem hk
  generalize (btwL n zs x y)[k] = z at hm ⊢
  rw [btwL_yes h, List.mem_filter] at hm
  exact hm
theorem in_of {n : Int} {zs : List Int} {x : Int} (h : inB n zs x = true) : Valid n zs ∧ x ∈ zs := by
  unfold inB at h
  rw [Bool.and_eq_true] at h
  exact ⟨valid_of h.1, by simpa [hasB] using h.2⟩
theorem btwL_len' {n : Int} {zs : List Int} {x y : Int} (h : zs.length ≤ 65) : (btwL n zs x y).length ≤ 1048576 := Nat.le_trans (btwL_len n zs x y) (by omega)
theorem implBetweenOf_is (n x y : Int) (a : Option Addr) (cap : Nat) (zs l : List Int) (w : World) (hi : Ints w a zs) (hn : zs.length ≤ 1048576) (hl : btwL n zs x y = l) :
    Calls Try.prog 33 #[.agg #[.int .i64 n, .slice a zs.length cap], .int .i64 x, .int .i64 y] w (Gives l w) := by
  subst hl
  exact implBetweenOf_any n x y a cap zs w hi hn

set_option maxHeartbeats 4000000 in
set_option maxRecDepth 100000 in
theorem walk_FnBetweenOf (a : Option Addr) (zs : List Nat) (cap : Nat) (w : World) (hi : Byts w a zs) (hl : zs.length ≤ maxLen) (hc : zs.length ≤ cap) :
    Calls Try.prog 7 #[.slice a zs.length cap] w fun e w' => e = .returned (.bool true) ∧ Below w.heap.size w w' := by
  by_cases h : 1048576 < zs.length
  · unfold maxLen at hl
    go_enter Try.func7, Try.ntmps7
    go_wp2
    go_ret
    exact ⟨rfl, Below.refl _ _⟩
  · have hl' : zs.length ≤ 1048576 := by omega
    clear h hl
    go_enter Try.func7, Try.ntmps7
    go_wp2_with fail
    refine (drawBetweenOf_any _ _ _ _ hi hl' hc).mono ?_
    rintro e w1 ⟨m, av, ss, cv, x, y, rfl, ii, hsl, hb⟩
    have S0 := SV.new w1 m av ss cv none [] 25 ii (Ints.nil _ _)
    have HB := hide hb
    have hn : ss.length ≤ 1048576 := by omega
    have hn' := hide (btwL_len' (n := m) (x := x) (y := y) hsl)
    clear hb hi ii hl' hsl
    obtain ⟨⟨_, c0, c1⟩, _⟩ := S0.pair
    go_wp2_with fail
    refine (implBetweenOf_any _ _ _ _ _ _ _ S0.2.1 hn).mono ?_
    rintro e w2 ⟨v2, rfl, ow2, b2⟩
    have S2 := S0.below b2
    obtain ⟨a2, k2, rfl, i2, _⟩ := ow2.form
    clear c0 c1 S0 ow2 b2
    obtain ⟨⟨_, c0, c1⟩, _⟩ := S2.pair
    go_wp2_with fail
    refine (specBetweenOf_any _ _ _ _ _ _ _ S2.2.1 hn).mono ?_
    rintro e w3 ⟨v3, rfl, ow3, b3⟩
    have S3 := S2.below b3
    have i23 := i2.below b3
    obtain ⟨a3, k3, rfl, i3, _⟩ := ow3.form
    clear c0 c1 S2 ow3 b3 i2
    obtain ⟨⟨_, c0, c1⟩, _⟩ := S3.pair
    go_wp2_with fail
    refine (equalInts_yes _ _ _ _ _ _ i23 i3 hn'.out).mono ?_
    rintro e w4 ⟨rfl, b4⟩
    have S4 := S3.below b4
    have i24 := i23.below b4
    clear c0 c1 S3 b4 i23 i3
    obtain ⟨⟨_, c0, c1⟩, _⟩ := S4.pair
    by_cases hA : inB m ss x = true
    · go_wp2_with fail
      refine (implInSpace_is _ _ _ _ _ _ true S4.2.1 hn hA).mono ?_
      rintro e w5 ⟨rfl, b5⟩
      have S5 := S4.below b5
      have i25 := i24.below b5
      clear c0 c1 S4 b5 i24
      obtain ⟨⟨_, c0, c1⟩, _⟩ := S5.pair
      by_cases hB : inB m ss y = true
      · have hok : Hid (BtwOk m ss x y) := ⟨(in_of hA).1, (in_of hA).2, (in_of hB).2⟩
        have HR := hide (valid_range (in_of hA).1)
        have rx := hide (HR.out _ (in_of hA).2)
        have ry := hide (HR.out _ (in_of hB).2)
        clear hA
        go_wp2_with fail
        refine (implInSpace_is _ _ _ _ _ _ true S5.2.1 hn hB).mono ?_
        rintro e w6 ⟨rfl, b6⟩
        have S6 := S5.below b6
        have i26 := i25.below b6
        have I26 := hide i26
        clear c0 c1 S5 b6 i25 hB
        obtain ⟨⟨_, c0, c1⟩, _⟩ := S6.pair
        have hl0 := hn'.out
        go_wp2_with fail
        go_loopw [7] (fun i wr => ∃ k : Nat, k ≤ (btwL m ss x y).length ∧ i = .int .i64 k ∧ Below w6.heap.size w6 wr) (fun i _ => (btwL m ss x y).length - (intOf i).toNat)
        case atStart => exact ⟨0, Nat.zero_le _, rfl, Below.refl _ _⟩
        case round =>
          clear c0 c1
          obtain ⟨k, hk, rfl, hbw⟩ := hrel
          have SR := S6.below hbw
          have ir := i26.below hbw
          by_cases hlt : k < (btwL m ss x y).length
          · obtain ⟨b, off, rfl, hbl, hcz⟩ := ir (by omega)
            have hck := hcz k hlt
            rw [getD_lt hlt] at hck
            have hz := btw_of hok.out hlt
            have rz := HR.out _ hz.1
            have HT := btw_test rx.out ry.out rz hz.2
            obtain ⟨z, hzz⟩ : ∃ z, z = (btwL m ss x y)[k] := ⟨_, rfl⟩
            rw [← hzz] at hck HT
            clear hcz ir hz rz hzz
            go_wp2
            go_quiet (fail)
            go_wp2
            go_roundw
            case rel => exact ⟨k + 1, by omega, by go_num, hbw.trans ((belN _ _).mono hbw.size)⟩
            case measure => simp only [intOf]; omega
          · obtain rfl : k = (btwL m ss x y).length := by omega
            obtain ⟨hha, hhb⟩ := btw_has hok.out
            have hsy := hide (btw_sym m ss x y)
            obtain ⟨⟨_, c0, c1⟩, _⟩ := SR.pair
            go_wp2_with (go_at_call 35; refine (isIn_is _ _ _ _ _ true ir hn'.out (by first | exact hha | exact hhb)).mono ?_; rintro e w' ⟨rfl, rfl⟩)
            refine (implBetweenOf_is _ _ _ _ _ _ (btwL m ss x y) _ SR.2.1 hn hsy.out).mono ?_
            rintro e w7 ⟨v7, rfl, ow7, b7⟩
            have S7 := SR.below b7
            have i27 := ir.below b7
            obtain ⟨a7, k7, rfl, i7, _⟩ := ow7.form
            clear c0 c1 ow7 b7 ir SR
            go_wp2_with fail
            refine (equalInts_yes _ _ _ _ _ _ i7 i27 hn'.out).mono ?_
            rintro e w8 ⟨rfl, b8⟩
            have S8 := S7.below b8
            have i28 := i27.below b8
            clear b8 i27 i7 S7
            go_wp2_with fail
            refine (ascends_yes _ _ _ _ i28 hn'.out (btw_ups hok.out)).mono ?_
            rintro e w9 ⟨rfl, b9⟩
            have S9 := S8.below b9
            go_wp2
            go_ret
            exact ⟨rfl, bnext HB.out S9.2.2.2⟩
      · have hB : inB m ss y = false := by simpa using hB
        clear hA
        go_wp2_with fail
        refine (implInSpace_is _ _ _ _ _ _ false S5.2.1 hn hB).mono ?_
        rintro e w6 ⟨rfl, b6⟩
        have S6 := S5.below b6
        have i26 := i25.below b6
        clear c0 c1 S5 b6 i25 hB
        obtain ⟨⟨_, c0, c1⟩, _⟩ := S6.pair
        go_wp2_with fail
        refine (specBetweenOf_any _ _ _ _ _ _ _ S6.2.1 hn).mono ?_
        rintro e w7 ⟨v7, rfl, ow7, b7⟩
        have S7 := S6.below b7
        have i27 := i26.below b7
        obtain ⟨a7, k7, rfl, i7, _⟩ := ow7.form
        go_wp2_with fail
        refine (equalInts_yes _ _ _ _ _ _ i27 i7 hn'.out).mono ?_
        rintro e w8 ⟨rfl, b8⟩
        have S8 := S7.below b8
        go_wp2
        go_ret
        exact ⟨rfl, bnext HB.out S8.2.2.2⟩
    · have hA : inB m ss x = false := by simpa using hA
      go_wp2_with fail
      refine (implInSpace_is _ _ _ _ _ _ false S4.2.1 hn hA).mono ?_
      rintro e w5 ⟨rfl, b5⟩
      have S5 := S4.below b5
      have i25 := i24.below b5
      clear c0 c1 S4 b5 i24 hA
      obtain ⟨⟨_, c0, c1⟩, _⟩ := S5.pair
      go_wp2_with fail
      refine (specBetweenOf_any _ _ _ _ _ _ _ S5.2.1 hn).mono ?_
      rintro e w7 ⟨v7, rfl, ow7, b7⟩
      have S7 := S5.below b7
      have i27 := i25.below b7
      obtain ⟨a7, k7, rfl, i7, _⟩ := ow7.form
      go_wp2_with fail
      refine (equalInts_yes _ _ _ _ _ _ i27 i7 hn'.out).mono ?_
      rintro e w8 ⟨rfl, b8⟩
      have S8 := S7.below b8
      go_wp2
      go_ret
      exact ⟨rfl, bnext HB.out S8.2.2.2⟩
end Go.Proofs.Ytljbapfemjdneaa
