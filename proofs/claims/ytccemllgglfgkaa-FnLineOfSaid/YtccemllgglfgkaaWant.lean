/- Wanted answers: the plain sums; impl.WantedPart; MajorityOf in the model and in the program. -/
import Derived.Test.YtccemllgglfgkaaSup
import Derived.Handy
import Derived.Outline
namespace Go.Proofs.Ytccemllgglfgkaa
open Go.RowKit Go.Joins

/-- the issues among the first k with a wanted answer -/
def wantC (vs : List Int) : Nat → Nat
  | 0 => 0
  | k + 1 => wantC vs k + if 2 * supN vs k = vs.length then 0 else 2 ^ k
/-- those with the wanted answer 1 -/
def wantB (vs : List Int) : Nat → Nat
  | 0 => 0
  | k + 1 => wantB vs k + if vs.length < 2 * supN vs k then 2 ^ k else 0
theorem wantC_lt (vs : List Int) : ∀ k, wantC vs k < 2 ^ k
  | 0 => by simp [wantC]
  | k + 1 => by have := wantC_lt vs k; unfold wantC; rw [Nat.pow_succ]; split <;> omega
theorem wantB_lt (vs : List Int) : ∀ k, wantB vs k < 2 ^ k
  | 0 => by simp [wantB]
  | k + 1 => by have := wantB_lt vs k; unfold wantB; rw [Nat.pow_succ]; split <;> omega
theorem wantC_yes {vs : List Int} {k : Nat} (h : 2 * supN vs k ≠ vs.length) : wantC vs (k + 1) = wantC vs k + 2 ^ k := by rw [wantC, if_neg h]
theorem wantC_no {vs : List Int} {k : Nat} (h : 2 * supN vs k = vs.length) : wantC vs (k + 1) = wantC vs k := by rw [wantC, if_pos h]; rfl
theorem wantB_yes {vs : List Int} {k : Nat} (h : vs.length < 2 * supN vs k) : wantB vs (k + 1) = wantB vs k + 2 ^ k := by rw [wantB, if_pos h]
theorem wantB_no {vs : List Int} {k : Nat} (h : ¬ vs.length < 2 * supN vs k) : wantB vs (k + 1) = wantB vs k := by rw [wantB, if_neg h]; rfl
/-- a digit more -/
theorem or_digit (c k : Nat) (hk : k < 4) (hc : c < 2 ^ k) : bits .or .i64 (c : Int) (2 ^ k) = ((c + 2 ^ k : Nat) : Int) := by
  have h : ∀ c : Fin 16, ∀ k : Fin 4, c.val < 2 ^ k.val → bits .or .i64 ((c.val : Nat) : Int) (2 ^ k.val) = ((c.val + 2 ^ k.val : Nat) : Int) := by decide +kernel
  have h16 : 2 ^ k ≤ 2 ^ 4 := Nat.pow_le_pow_right (by omega) (by omega)
  exact h ⟨c, by omega⟩ ⟨k, hk⟩ hc
theorem pow_small (k : Nat) (h : k ≤ 4) : (1 : Int) ≤ 2 ^ k ∧ (2 : Int) ^ k ≤ 16 := by
  rcases (show k = 0 ∨ k = 1 ∨ k = 2 ∨ k = 3 ∨ k = 4 from by omega) with rfl | rfl | rfl | rfl | rfl <;> decide
theorem pow_cast (k : Nat) : ((2 ^ k : Nat) : Int) = 2 ^ k := by rw [Int.natCast_pow]; rfl
theorem pw_nat (k : Nat) : pw (k : Int) = 2 ^ k := by unfold pw; rw [Int.toNat_natCast, pow_cast]
theorem wrap_pow2 (k : Nat) (h : k ≤ 4) : wrap64 (2 ^ k) = 2 ^ k := IntWalk.wrap64_in _ (by have := pow_small k h; omega)
theorem mul_pow2 (k : Nat) (h : k ≤ 4) : wrap64 (1 * 2 ^ k) = 2 ^ k := by rw [Int.one_mul]; exact wrap_pow2 k h

theorem ret_part {fn : Func} {p : Tmp} (h : fn.results = #[.cell p 67]) (tmps : Array Value) (w : World) (g : Nat) (x y : Value)
    (hp : tmps.getD p undef = .pointer (some ⟨g, 0, none⟩)) (hw : w.heap[g]? = some (.cells #[x, y] 67 (0, 0))) :
    (results fn tmps).run Try.prog w = .ok (.agg #[x, y]) w := by
  have c0 := cell_of_block hw 0
  have c1 := cell_of_block hw 1
  have hr : (results fn tmps).run Try.prog w = ((asAddr (tmps.getD p undef)).run Try.prog w).andThen fun a w₁ => (loadVar 67 a).run Try.prog w₁ := by
    simp only [results, h]
    simp [Sem.run_bind, Result.andThen]
  rw [hr, hp]
  simp [go_sem] at c0 c1 ⊢
  simp [c0, c1, go_sem]

/-- a space in a variable, the answer's cells and the part's -/
def WV (w0 : World) (n : Int) (a : Option Addr) (zs : List Int) (cap : Nat) (l : Option Addr) (vs : List Int) (wx : World) : Prop :=
  Box wx w0.heap.size n a zs.length cap ∧ Ints wx a zs ∧ Ints wx l vs ∧ wx.heap[w0.heap.size + 1]? = some (.cells #[.int .i64 0, .int .i64 0] 67 (0, 0)) ∧ Below w0.heap.size w0 wx
theorem WV.below {w0 wx wy : World} {n : Int} {a l : Option Addr} {zs vs : List Int} {cap : Nat} (h : WV w0 n a zs cap l vs wx) (hb : Below wx.heap.size wx wy) : WV w0 n a zs cap l vs wy :=
  ⟨h.1.below hb, h.2.1.below hb, h.2.2.1.below hb, (hb.block _ (lt_of_block h.2.2.2.1)).trans h.2.2.2.1, bnext h.2.2.2.2 hb⟩
theorem WV.new (w : World) (n : Int) (a l : Option Addr) (zs vs : List Int) (cap : Nat) (hi : Ints w a zs) (hj : Ints w l vs) :
    WV w n a zs cap l vs ((w.alloc (.cells #[.int .i64 n, .slice a zs.length cap] 28)).alloc (.cells #[.int .i64 0, .int .i64 0] 67)) := by
  have b1 := Box.new w n a zs.length cap 28
  have b2 := heap_alloc_new (w.alloc (.cells #[.int .i64 n, .slice a zs.length cap] 28)) (.cells #[.int .i64 0, .int .i64 0] 67)
  simp only [World.size_alloc] at b2
  exact ⟨b1.below (bel1 _ _), hi.below (bel2 _ _ _), hj.below (bel2 _ _ _), b2, bel2 _ _ _⟩

/-- what WantedPart answers -/
def wpC (n : Int) (zs vs : List Int) : Int := if vvB n zs vs = true then (wantC vs n.toNat : Nat) else 0
def wpB (n : Int) (zs vs : List Int) : Int := if vvB n zs vs = true then (wantB vs n.toNat : Nat) else 0
theorem wpC_yes {n : Int} {zs vs : List Int} (h : vvB n zs vs = true) : wpC n zs vs = (wantC vs n.toNat : Nat) := if_pos h
theorem wpB_yes {n : Int} {zs vs : List Int} (h : vvB n zs vs = true) : wpB n zs vs = (wantB vs n.toNat : Nat) := if_pos h
theorem wpC_no {n : Int} {zs vs : List Int} (h : vvB n zs vs = false) : wpC n zs vs = 0 := if_neg (by rw [h]; decide)
theorem wpB_no {n : Int} {zs vs : List Int} (h : vvB n zs vs = false) : wpB n zs vs = 0 := if_neg (by rw [h]; decide)

set_option maxHeartbeats 4000000 in
theorem implWanted_any (n : Int) (a l : Option Addr) (cap capl : Nat) (zs vs : List Int) (w : World) (hi : Ints w a zs) (hj : Ints w l vs) (hn : zs.length ≤ 1048576) (hm : vs.length ≤ 1048576) :
    Calls Try.prog 55 #[.agg #[.int .i64 n, .slice a zs.length cap], .slice l vs.length capl] w fun e w' => e = .returned (.agg #[.int .i64 (wpC n zs vs), .int .i64 (wpB n zs vs)]) ∧ Below w.heap.size w w' := by
  have S0 := (WV.new w n a l zs vs cap hi hj).below (bel1 _ (.cells #[.int .i64 0, .int .i64 0] 67))
  have hblk := heap_alloc_new ((w.alloc (.cells #[.int .i64 n, .slice a zs.length cap] 28)).alloc (.cells #[.int .i64 0, .int .i64 0] 67)) (.cells #[.int .i64 0, .int .i64 0] 67)
  simp only [World.size_alloc] at hblk
  have hgl := lt_of_block hblk
  clear hi hj
  by_cases hv : vvB n zs vs = false
  · have HN := hide (supA_no hv)
    have HC := hide (wpC_no hv)
    have HB := hide (wpB_no hv)
    go_enter Try.func55, Try.ntmps55
    go_wp2_with fail
    refine (implSupportOf_any _ _ _ _ _ _ _ _ S0.2.1 S0.2.2.1 hn hm).mono ?_
    rintro e w1 ⟨v, rfl, ov, hb⟩
    rw [HN.out] at ov
    obtain ⟨av, cv, rfl, _, _⟩ := ov.form
    have S1 := S0.below hb
    have hblk1 := (hb.block _ hgl).trans hblk
    have hres := S1.2.2.2.1
    have f0 := unfrozen_of_block hres 0
    have f1 := unfrozen_of_block hres 1
    have r0 := cell_of_block hres 0
    have r1 := cell_of_block hres 1
    have g0 := cell_of_block hblk1 0
    have g1 := cell_of_block hblk1 1
    clear ov
    go_wp2
    go_loopw [12] (fun i wr => i = .int .i64 0 ∧ wr = w1) (fun _ _ => 0)
    case atStart => exact ⟨rfl, rfl⟩
    case round =>
    obtain ⟨rfl, rfl⟩ := hrel
    go_wp2
    refine bodyPost_ret (ret_part rfl _ _ _ _ _ rfl (block_setCell (i := 1) (block_setCell (i := 0) hres _) _)) rfl ?_
    rw [HC.out, HB.out]
    exact ⟨rfl, (S1.2.2.2.2.setCell (p := ⟨w.heap.size + 1, 0, none⟩) (by show w.heap.size ≤ w.heap.size + 1; omega) _).setCell (p := ⟨w.heap.size + 1, 1, none⟩) (by show w.heap.size ≤ w.heap.size + 1; omega) _⟩
  · have hv : vvB n zs vs = true := by simpa using hv
    have HN := hide (supA_yes hv)
    have HC := hide (wpC_yes hv)
    have HB := hide (wpB_yes hv)
    have hV := hide (vv_of hv)
    obtain ⟨m, rfl⟩ := Int.eq_ofNat_of_zero_le (show 0 ≤ n from by have := hV.out.1.1; omega)
    have h4 : m ≤ 4 := by have := hV.out.1.1; omega
    have h5 : vs.length ≤ 5 := by have := hV.out.2.2; omega
    go_enter Try.func55, Try.ntmps55
    go_wp2_with fail
    refine (implSupportOf_any _ _ _ _ _ _ _ _ S0.2.1 S0.2.2.1 hn hm).mono ?_
    rintro e wo ⟨v, rfl, ov, hb⟩
    rw [HN.out, Int.toNat_natCast] at ov
    obtain ⟨av, cv, rfl, iv, _⟩ := ov.form
    have hl := supL_length m vs
    rw [hl] at ov ⊢
    have S1 := S0.below hb
    have hblk1 := (hb.block _ hgl).trans hblk
    clear iv hl S0 hb hblk hgl
    simp only [World.size_alloc] at ov
    go_wp2
    go_loopw [12] (fun i wr => ∃ k : Nat, k ≤ m ∧ i = .int .i64 k ∧ wr.heap[w.heap.size + 1 + 1]? = some (.cells #[.int .i64 (wantC vs k : Nat), .int .i64 (wantB vs k : Nat)] 67 (0, 0)) ∧ Owns wr (w.heap.size + 1 + 1 + 1) (.slice av m cv) (supL m vs) ∧ wr.heap[w.heap.size + 1]? = some (.cells #[.int .i64 0, .int .i64 0] 67 (0, 0)) ∧ Below w.heap.size w wr) (fun i _ => m - (intOf i).toNat)
    case atStart => exact ⟨0, Nat.zero_le _, rfl, hblk1, ov, S1.2.2.2.1, S1.2.2.2.2⟩
    case round =>
      clear S1 hblk1 ov
      obtain ⟨k, hk, rfl, hblk, ov, hres, BR⟩ := hrel
      by_cases hlt : k < m
      · have hlt' : k < (supL m vs).length := by rw [supL_length]; exact hlt
        obtain ⟨b, off, rfl, hbl, hc⟩ := ov.ints (by omega)
        have hck : wr.cell? ⟨b, off + k, none⟩ = some (.int .i64 (supN vs k : Nat)) := by
          rw [hc k hlt']
          unfold supL
          rw [supKL_getD m vs vs.length k hlt]
          rfl
        have hs := supN_le vs k
        have OV := hide ov
        have BH := hide BR
        have HBK := hide hblk
        have HRS : Hid (∀ (i : Nat) (v : Value), (wr.setCell ⟨w.heap.size + 1 + 1, i, none⟩ v).heap[w.heap.size + 1]? = some (.cells #[.int .i64 0, .int .i64 0] 67 (0, 0))) :=
          fun i v => (Below.heap_setCell _ _ _ _ (by show w.heap.size + 1 ≠ w.heap.size + 1 + 1; omega)).trans hres
        have hr0 := hide hres
        clear hc hlt' ov BR hres
        by_cases he : 2 * supN vs k = vs.length
        · have hE : ((2 * (supN vs k : Int)) != (vs.length : Int)) = false := by rw [bne_eq_false_iff_eq]; omega
          have HC1 := hide (wantC_no he)
          have HB1 := hide (wantB_no (show ¬ vs.length < 2 * supN vs k from by omega))
          clear hblk
          go_wp2
          go_roundw
          case rel => exact ⟨k + 1, by omega, by go_num, by rw [HC1.out, HB1.out]; exact HBK.out, OV.out, hr0.out, BH.out⟩
          case measure => simp only [intOf]; omega
        · have hE : ((2 * (supN vs k : Int)) != (vs.length : Int)) = true := by rw [bne_iff_ne]; omega
          have HC1 := hide (wantC_yes he)
          have hw2 := wrap_pow2 k (by omega)
          have ho1 := or_digit (wantC vs k) k (by omega) (wantC_lt vs k)
          have g0 := cell_of_block hblk 0
          have f0 := unfrozen_of_block hblk 0
          by_cases hgt : vs.length < 2 * supN vs k
          · have HB1 := hide (wantB_yes hgt)
            have ho2 := or_digit (wantB vs k) k (by omega) (wantB_lt vs k)
            have g1 := cell_of_block hblk 1
            have f1 := unfrozen_of_block hblk 1
            clear hblk
            go_wp2
            go_region
            all_goals go_wp2
            all_goals go_region
            all_goals go_wp2
            all_goals
              go_roundw
              case rel =>
                refine ⟨k + 1, by omega, by go_num, ?_, (OV.out.setBelow (p := ⟨w.heap.size + 1 + 1, 0, none⟩) (by show w.heap.size + 1 + 1 < w.heap.size + 1 + 1 + 1; omega) _).setBelow (p := ⟨w.heap.size + 1 + 1, 1, none⟩) (by show w.heap.size + 1 + 1 < w.heap.size + 1 + 1 + 1; omega) _,
                  (Below.heap_setCell _ _ _ _ (by show w.heap.size + 1 ≠ w.heap.size + 1 + 1; omega)).trans (HRS.out 0 _), bdrew' ((bdrew' (BH.out.setCell (p := ⟨w.heap.size + 1 + 1, 0, none⟩) (by show w.heap.size ≤ w.heap.size + 1 + 1; omega) _)).setCell (p := ⟨w.heap.size + 1 + 1, 1, none⟩) (by show w.heap.size ≤ w.heap.size + 1 + 1; omega) _)⟩
                rw [HC1.out, HB1.out]
                exact block_setCell (i := 1) (block_setCell (i := 0) HBK.out _) _
              case measure => simp [intOf]; omega
          · have HB1 := hide (wantB_no hgt)
            clear hblk
            go_wp2
            go_region
            all_goals go_wp2
            all_goals
              go_roundw
              case rel =>
                refine ⟨k + 1, by omega, by go_num, ?_, OV.out.setBelow (p := ⟨w.heap.size + 1 + 1, 0, none⟩) (by show w.heap.size + 1 + 1 < w.heap.size + 1 + 1 + 1; omega) _, HRS.out 0 _, bdrew' (BH.out.setCell (p := ⟨w.heap.size + 1 + 1, 0, none⟩) (by show w.heap.size ≤ w.heap.size + 1 + 1; omega) _)⟩
                rw [HC1.out, HB1.out]
                exact block_setCell (i := 0) HBK.out _
              case measure => simp [intOf]; omega
      · obtain rfl : k = m := by omega
        have g0 := cell_of_block hblk 0
        have g1 := cell_of_block hblk 1
        have f0 := unfrozen_of_block hres 0
        have f1 := unfrozen_of_block hres 1
        have r0 := cell_of_block hres 0
        have r1 := cell_of_block hres 1
        go_wp2
        refine bodyPost_ret (ret_part rfl _ _ _ _ _ rfl (block_setCell (i := 1) (block_setCell (i := 0) hres _) _)) rfl ?_
        rw [HC.out, HB.out, Int.toNat_natCast]
        exact ⟨rfl, (BR.setCell (p := ⟨w.heap.size + 1, 0, none⟩) (by show w.heap.size ≤ w.heap.size + 1; omega) _).setCell (p := ⟨w.heap.size + 1, 1, none⟩) (by show w.heap.size ≤ w.heap.size + 1; omega) _⟩

/-- what MajorityOf answers -/
def majV (n : Int) (zs vs : List Int) : Int := if vvB n zs vs = true then (wantB vs n.toNat : Nat) else -1
theorem majV_yes {n : Int} {zs vs : List Int} (h : vvB n zs vs = true) : majV n zs vs = (wantB vs n.toNat : Nat) := if_pos h
theorem majV_no {n : Int} {zs vs : List Int} (h : vvB n zs vs = false) : majV n zs vs = -1 := if_neg (by rw [h]; decide)

theorem field_bits (x y : Int) (w : World) : (Instr.field 67 (.agg #[.int .i64 x, .int .i64 y]) 1).run Try.prog w = .ok (.int .i64 y) w := by kernel_rfl

theorem implMajorityOf_any (n : Int) (a l : Option Addr) (cap capl : Nat) (zs vs : List Int) (w : World) (hi : Ints w a zs) (hj : Ints w l vs) (hn : zs.length ≤ 1048576) (hm : vs.length ≤ 1048576) :
    Calls Try.prog 24 #[.agg #[.int .i64 n, .slice a zs.length cap], .slice l vs.length capl] w fun e w' => e = .returned (.int .i64 (majV n zs vs)) ∧ Below w.heap.size w w' := by
  have S0 := SV.new w n a zs cap l vs 28 hi hj
  clear hi hj
  by_cases hv : vvB n zs vs = false
  · have HN := hide (majV_no hv)
    go_enter Try.func24, Try.ntmps24
    go_wp2_with fail
    refine (implValidVotes_any _ _ _ _ _ _ _ _ S0.2.1 S0.2.2.1 hn hm).mono ?_
    rintro e w1 ⟨rfl, hb⟩
    go_wp2
    go_ret
    exact ⟨ret_int HN.out.symm, (S0.below hb).2.2.2⟩
  · have hv : vvB n zs vs = true := by simpa using hv
    have HN := hide ((majV_yes hv).trans (wpB_yes hv).symm)
    go_enter Try.func24, Try.ntmps24
    go_wp2_with fail
    refine (implValidVotes_any _ _ _ _ _ _ _ _ S0.2.1 S0.2.2.1 hn hm).mono ?_
    rintro e w1 ⟨rfl, hb⟩
    have S1 := S0.below hb
    obtain ⟨⟨_, c0, c1⟩, _⟩ := S1.pair
    go_wp2_with fail
    refine (implWanted_any _ _ _ _ _ _ _ _ S1.2.1 S1.2.2.1 hn hm).mono ?_
    rintro e w2 ⟨rfl, hb2⟩
    have hfd := field_bits (wpC n zs vs) (wpB n zs vs)
    go_wp2
    go_ret
    exact ⟨ret_int HN.out.symm, (S1.below hb2).2.2.2⟩

end Go.Proofs.Ytccemllgglfgkaa
