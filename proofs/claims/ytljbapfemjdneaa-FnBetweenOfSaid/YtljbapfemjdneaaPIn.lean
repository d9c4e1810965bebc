/- The law of InSpace answers true at every code: its walk. -/
import Derived.Test.YtljbapfemjdneaaDrawPI
import Derived.Test.YtljbapfemjdneaaPNear
namespace Go.Proofs.Ytljbapfemjdneaa
open Go.RowKit Go.Joins

theorem wt_zero_fin : ∀ a : Fin 16, ∀ b : Fin 16, wt (a.val ^^^ b.val) = 0 → a = b := by decide +kernel
theorem dst_zero {x y : Int} (hx : 0 ≤ x ∧ x ≤ 15) (hy : 0 ≤ y ∧ y ≤ 15) (h : dst x y = 0) : y = x := by
  have := wt_zero_fin ⟨y.toNat, by omega⟩ ⟨x.toNat, by omega⟩ h
  simp only [Fin.mk.injEq] at this
  omega
theorem dst_self (x : Int) : dst x x = 0 := by unfold dst; rw [Nat.xor_self]; rfl
theorem one_of_pair {l : List Int} {x : Int} (hp : l.Pairwise (· < ·)) (hx : x ∈ l) (h : ∀ y ∈ l, y = x) : l = [x] := by
  match l, hp, hx, h with
  | [a], _, _, h => rw [h a (by simp)]
  | a :: b :: t, hp, _, h =>
    have h1 := h a (by simp)
    have h2 := h b (by simp)
    have := (List.pairwise_cons.1 hp).1 b (by simp)
    omega
/-- The nearest are the number alone exactly if it is one of the judgments. -/
theorem near_self {n : Int} {zs : List Int} {x : Int} (h : NearOk n zs x) (hx : 0 ≤ x ∧ x ≤ 15) : eqB (nearL n zs x) [x] = hasB zs x := by
  have hr := valid_range h.1
  rw [Bool.eq_iff_iff]
  simp only [eqB, hasB, decide_eq_true_eq]
  constructor
  · intro e
    have hm : x ∈ nearL n zs x := by rw [e]; simp
    rw [nearL_yes h, List.mem_filter] at hm
    exact hm.1
  · intro hm
    have h0 : leastK x zs zs.length = 0 := by
      obtain ⟨j, hj, e⟩ := List.getElem_of_mem hm
      have := leastK_lb x zs zs.length j hj
      rw [getD_lt hj, e, dst_self] at this
      omega
    rw [nearL_yes h]
    refine one_of_pair (List.Pairwise.filter _ (valid_pair h.1)) (List.mem_filter.2 ⟨hm, by simp [nearP, dst_self, h0]⟩) (fun y hy => ?_)
    have hy' := List.mem_filter.1 hy
    have : dst x y = 0 := by simpa [nearP, h0] using hy'.2
    exact dst_zero hx (hr y hy'.1) this
theorem implInSpace_is (n x : Int) (a : Option Addr) (cap : Nat) (zs : List Int) (w : World) (r : Bool) (hi : Ints w a zs) (hn : zs.length ≤ 1048576) (hr : inB n zs x = r) :
    Calls Try.prog 16 #[.agg #[.int .i64 n, .slice a zs.length cap], .int .i64 x] w fun e w' => e = .returned (.bool r) ∧ Below w.heap.size w w' := by
  subst hr
  exact implInSpace_any n x a cap zs w hi hn
theorem lit1 (w : World) (a : Int) : Ints (w.alloc (.cells #[.int .i64 a] 3)) (some ⟨w.heap.size, 0, none⟩) [a] := fun _ =>
  ⟨w.heap.size, 0, rfl, by simp, fun k hk => by
    match k, hk with
    | 0, _ => simp [go_sem]⟩

set_option maxHeartbeats 4000000 in
set_option maxRecDepth 100000 in
theorem walk_FnInSpace (a : Option Addr) (zs : List Nat) (cap : Nat) (w : World) (hi : Byts w a zs) (hl : zs.length ≤ maxLen) (hc : zs.length ≤ cap) :
    Calls Try.prog 3 #[.slice a zs.length cap] w fun e w' => e = .returned (.bool true) ∧ Below w.heap.size w w' := by
  by_cases h : 1048576 < zs.length
  · unfold maxLen at hl
    go_enter Try.func3, Try.ntmps3
    go_wp2
    go_ret
    exact ⟨rfl, Below.refl _ _⟩
  · have hl' : zs.length ≤ 1048576 := by omega
    clear h hl
    go_enter Try.func3, Try.ntmps3
    go_wp2_with fail
    refine (drawInSpace_any _ _ _ _ hi hl' hc).mono ?_
    rintro e w1 ⟨m, av, ss, cv, x, rfl, ii, hsl, hb⟩
    have S0 := SV.new w1 m av ss cv none [] 25 ii (Ints.nil _ _)
    have HB := hide hb
    have hn : ss.length ≤ 1048576 := by omega
    have hn' := hide (nearL_len' (n := m) (x := x) hsl)
    clear hb hi ii hl' hsl
    obtain ⟨⟨_, c0, c1⟩, _⟩ := S0.pair
    go_wp2_with fail
    refine (implInSpace_any _ _ _ _ _ _ S0.2.1 hn).mono ?_
    rintro e w2 ⟨rfl, b2⟩
    have S2 := S0.below b2
    clear c0 c1 S0 b2
    obtain ⟨⟨_, c0, c1⟩, _⟩ := S2.pair
    have hne : (inB m ss x != inB m ss x) = false := by simp
    have heq : (inB m ss x == inB m ss x) = true := by simp
    go_wp2_with fail
    refine (specInSpace_any _ _ _ _ _ _ S2.2.1 hn).mono ?_
    rintro e w3 ⟨rfl, b3⟩
    have S4 := S2.below b3
    clear c0 c1 S2 b3
    obtain ⟨⟨_, c0, c1⟩, _⟩ := S4.pair
    by_cases hok : NearOk m ss x
    · have HK := hide hok
      have hv := vsB_true hok.1
      obtain ⟨hx0, hx1⟩ := hok.2
      have h14 := hok.1.1
      have p1 := pw_pos m
      have p2 := pw_le m h14.2
      have hd0 : decide (x < 0) = false := by simp; omega
      have hd1 : decide (pw m ≤ x) = false := by simp; omega
      have hfin : (inB m ss x == eqB (nearL m ss x) [x]) = true := by
        rw [near_self hok ⟨by omega, by omega⟩, inB_true hv]
        simp
      clear hok hne heq
      go_wp2_with fail
      refine (implValidSpace_is _ _ _ _ _ true S4.2.1 hn hv).mono ?_
      rintro e w5 ⟨rfl, b5⟩
      have S5 := S4.below b5
      clear c0 c1 S4 b5 hv
      obtain ⟨⟨_, c0, c1⟩, _⟩ := S5.pair
      go_wp2_with (go_at_call 19; refine (lawPower_any _ _ (by omega) (by omega)).mono ?_; rintro e w' ⟨rfl, rfl⟩)
      refine (implNearestTo_any _ _ _ _ _ _ S5.2.1 hn).mono ?_
      rintro e w6 ⟨v6, rfl, ow6, b6⟩
      have S6 := S5.below b6
      obtain ⟨a6, k6, rfl, i6, _⟩ := ow6.form
      have i7 := i6.below (bel1 w6 (.cells #[.int .i64 x] 3))
      have l1 := lit1 w6 x
      have S7 := hide (S6.below (bel1 w6 (.cells #[.int .i64 x] 3)))
      clear c0 c1 ow6 b6 i6 S6 S5
      go_wp2_with fail
      have hcall := equalInts_any a6 (some ⟨w6.heap.size, 0, none⟩) k6 1 (nearL m ss x) [x] _ i7 l1 hn'.out (by simp)
      refine hcall.mono ?_
      rintro e w8 ⟨rfl, b8⟩
      have S8 := S7.out.below b8
      clear hcall i7 l1 b8
      go_wp2
      go_ret
      exact ⟨rfl, bnext HB.out S8.2.2.2⟩
    · by_cases hv : vsB m ss = false
      · clear hok
        go_wp2_with fail
        refine (implValidSpace_is _ _ _ _ _ false S4.2.1 hn hv).mono ?_
        rintro e w5 ⟨rfl, b5⟩
        have S5 := S4.below b5
        clear c0 c1 S4 b5 hv
        obtain ⟨⟨_, c0, c1⟩, _⟩ := S5.pair
        go_wp2_with fail
        refine (specInSpace_any _ _ _ _ _ _ S5.2.1 hn).mono ?_
        rintro e w6 ⟨rfl, b6⟩
        have S6 := S5.below b6
        go_wp2
        go_ret
        exact ⟨rfl, bnext HB.out S6.2.2.2⟩
      · have hv : vsB m ss = true := by simpa using hv
        have hV := valid_of hv
        have h14 := hV.1
        have p1 := pw_pos m
        have p2 := pw_le m h14.2
        by_cases hx0 : x < 0
        · clear hok hV
          go_wp2_with fail
          refine (implValidSpace_is _ _ _ _ _ true S4.2.1 hn hv).mono ?_
          rintro e w5 ⟨rfl, b5⟩
          have S5 := S4.below b5
          clear c0 c1 S4 b5 hv
          obtain ⟨⟨_, c0, c1⟩, _⟩ := S5.pair
          go_wp2_with fail
          refine (specInSpace_any _ _ _ _ _ _ S5.2.1 hn).mono ?_
          rintro e w6 ⟨rfl, b6⟩
          have S6 := S5.below b6
          go_wp2
          go_ret
          exact ⟨rfl, bnext HB.out S6.2.2.2⟩
        · have hx1 : pw m ≤ x := by
            rcases Int.lt_or_le x (pw m) with h | h
            · exact absurd ⟨hV, by omega, by omega⟩ hok
            · exact h
          clear hok hV
          go_wp2_with fail
          refine (implValidSpace_is _ _ _ _ _ true S4.2.1 hn hv).mono ?_
          rintro e w5 ⟨rfl, b5⟩
          have S5 := S4.below b5
          clear c0 c1 S4 b5 hv
          obtain ⟨⟨_, c0, c1⟩, _⟩ := S5.pair
          go_wp2_with (go_at_call 19; refine (lawPower_any _ _ (by omega) (by omega)).mono ?_; rintro e w' ⟨rfl, rfl⟩)
          refine (specInSpace_any _ _ _ _ _ _ S5.2.1 hn).mono ?_
          rintro e w6 ⟨rfl, b6⟩
          have S6 := S5.below b6
          go_wp2
          go_ret
          exact ⟨rfl, bnext HB.out S6.2.2.2⟩
end Go.Proofs.Ytljbapfemjdneaa
