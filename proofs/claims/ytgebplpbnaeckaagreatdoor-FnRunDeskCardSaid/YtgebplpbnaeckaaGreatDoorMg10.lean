/- Texts of this seat one behind the other: Want, WantS, OpenI, Set. Conditions: none. -/
import Derived.Test.YtgebplpbnaeckaaGreatDoorMg09
import Derived.Test.YtgebplpbnaeckaaGreatDoorMg04
import Derived.Handy
import Derived.Outline
import Derived.Deep.RegionWith
import Derived.Deep.DeepCutAuto

/- Want: Wanted answers: the plain sums; impl.WantedPart; MajorityOf in the model and in the program. -/
namespace Go.Proofs.YtgebplpbnaeckaaGreatDoor
open Go.RowKit Go.Joins

/-- the issues among the first k with a wanted answer -/
def wantC (vs : List Int) : Nat → Nat
  | 0 => 0
  | k + 1 => wantC vs k + if 2 * supN vs k = vs.length then 0 else 2 ^ k
/-- those with the wanted answer 1 -/
def wantB (vs : List Int) : Nat → Nat
  | 0 => 0
  | k + 1 => wantB vs k + if vs.length < 2 * supN vs k then 2 ^ k else 0
theorem wantC_lt (vs : List Int) : ∀ k, wantC vs k < 2 ^ k
  | 0 => by simp [wantC]
  | k + 1 => by have := wantC_lt vs k; unfold wantC; rw [Nat.pow_succ]; split <;> omega
theorem wantB_lt (vs : List Int) : ∀ k, wantB vs k < 2 ^ k
  | 0 => by simp [wantB]
  | k + 1 => by have := wantB_lt vs k; unfold wantB; rw [Nat.pow_succ]; split <;> omega
theorem wantC_yes {vs : List Int} {k : Nat} (h : 2 * supN vs k ≠ vs.length) : wantC vs (k + 1) = wantC vs k + 2 ^ k := by rw [wantC, if_neg h]
theorem wantC_no {vs : List Int} {k : Nat} (h : 2 * supN vs k = vs.length) : wantC vs (k + 1) = wantC vs k := by rw [wantC, if_pos h]; rfl
theorem wantB_yes {vs : List Int} {k : Nat} (h : vs.length < 2 * supN vs k) : wantB vs (k + 1) = wantB vs k + 2 ^ k := by rw [wantB, if_pos h]
theorem wantB_no {vs : List Int} {k : Nat} (h : ¬ vs.length < 2 * supN vs k) : wantB vs (k + 1) = wantB vs k := by rw [wantB, if_neg h]; rfl
/-- a digit more -/
theorem or_digit (c k : Nat) (hk : k < 4) (hc : c < 2 ^ k) : bits .or .i64 (c : Int) (2 ^ k) = ((c + 2 ^ k : Nat) : Int) := by
  have h : ∀ c : Fin 16, ∀ k : Fin 4, c.val < 2 ^ k.val → bits .or .i64 ((c.val : Nat) : Int) (2 ^ k.val) = ((c.val + 2 ^ k.val : Nat) : Int) := by decide +kernel
  have h16 : 2 ^ k ≤ 2 ^ 4 := Nat.pow_le_pow_right (by omega) (by omega)
  exact h ⟨c, by omega⟩ ⟨k, hk⟩ hc
theorem pow_small (k : Nat) (h : k ≤ 4) : (1 : Int) ≤ 2 ^ k ∧ (2 : Int) ^ k ≤ 16 := by
  rcases (show k = 0 ∨ k = 1 ∨ k = 2 ∨ k = 3 ∨ k = 4 from by omega) with rfl | rfl | rfl | rfl | rfl <;> decide
theorem pow_cast (k : Nat) : ((2 ^ k : Nat) : Int) = 2 ^ k := by rw [Int.natCast_pow]; rfl
theorem pw_nat (k : Nat) : pw (k : Int) = 2 ^ k := by unfold pw; rw [Int.toNat_natCast, pow_cast]
theorem wrap_pow2 (k : Nat) (h : k ≤ 4) : wrap64 (2 ^ k) = 2 ^ k := IntWalk.wrap64_in _ (by have := pow_small k h; omega)
theorem mul_pow2 (k : Nat) (h : k ≤ 4) : wrap64 (1 * 2 ^ k) = 2 ^ k := by rw [Int.one_mul]; exact wrap_pow2 k h

theorem ret_part {fn : Func} {p : Tmp} (h : fn.results = #[.cell p 79]) (tmps : Array Value) (w : World) (g : Nat) (x y : Value)
    (hp : tmps.getD p undef = .pointer (some ⟨g, 0, none⟩)) (hw : w.heap[g]? = some (.cells #[x, y] 79 (0, 0))) :
    (results fn tmps).run Tryz.prog w = .ok (.agg #[x, y]) w := by
  have c0 := cell_of_block hw 0
  have c1 := cell_of_block hw 1
  have hr : (results fn tmps).run Tryz.prog w = ((asAddr (tmps.getD p undef)).run Tryz.prog w).andThen fun a w₁ => (loadVar 79 a).run Tryz.prog w₁ := by
    simp only [results, h]
    simp [Sem.run_bind, Result.andThen]
  rw [hr, hp]
  simp [go_sem] at c0 c1 ⊢
  simp [c0, c1, go_sem]

/-- a space in a variable, the answer's cells and the part's -/
def WV (w0 : World) (n : Int) (a : Option Addr) (zs : List Int) (cap : Nat) (l : Option Addr) (vs : List Int) (wx : World) : Prop :=
  Box wx w0.heap.size n a zs.length cap ∧ Ints wx a zs ∧ Ints wx l vs ∧ wx.heap[w0.heap.size + 1]? = some (.cells #[.int .i64 0, .int .i64 0] 79 (0, 0)) ∧ Below w0.heap.size w0 wx
theorem WV.below {w0 wx wy : World} {n : Int} {a l : Option Addr} {zs vs : List Int} {cap : Nat} (h : WV w0 n a zs cap l vs wx) (hb : Below wx.heap.size wx wy) : WV w0 n a zs cap l vs wy :=
  ⟨h.1.below hb, h.2.1.below hb, h.2.2.1.below hb, (hb.block _ (lt_of_block h.2.2.2.1)).trans h.2.2.2.1, bnext h.2.2.2.2 hb⟩
theorem WV.new (w : World) (n : Int) (a l : Option Addr) (zs vs : List Int) (cap : Nat) (hi : Ints w a zs) (hj : Ints w l vs) :
    WV w n a zs cap l vs ((w.alloc (.cells #[.int .i64 n, .slice a zs.length cap] 37)).alloc (.cells #[.int .i64 0, .int .i64 0] 79)) := by
  have b1 := Box.new w n a zs.length cap 37
  have b2 := heap_alloc_new (w.alloc (.cells #[.int .i64 n, .slice a zs.length cap] 37)) (.cells #[.int .i64 0, .int .i64 0] 79)
  simp only [World.size_alloc] at b2
  exact ⟨b1.below (bel1 _ _), hi.below (bel2 _ _ _), hj.below (bel2 _ _ _), b2, bel2 _ _ _⟩

/-- what WantedPart answers -/
def wpC (n : Int) (zs vs : List Int) : Int := if vvB n zs vs = true then (wantC vs n.toNat : Nat) else 0
def wpB (n : Int) (zs vs : List Int) : Int := if vvB n zs vs = true then (wantB vs n.toNat : Nat) else 0
theorem wpC_yes {n : Int} {zs vs : List Int} (h : vvB n zs vs = true) : wpC n zs vs = (wantC vs n.toNat : Nat) := if_pos h
theorem wpB_yes {n : Int} {zs vs : List Int} (h : vvB n zs vs = true) : wpB n zs vs = (wantB vs n.toNat : Nat) := if_pos h
theorem wpC_no {n : Int} {zs vs : List Int} (h : vvB n zs vs = false) : wpC n zs vs = 0 := if_neg (by rw [h]; decide)
theorem wpB_no {n : Int} {zs vs : List Int} (h : vvB n zs vs = false) : wpB n zs vs = 0 := if_neg (by rw [h]; decide)

set_option maxHeartbeats 4000000 in
theorem implWanted_any (n : Int) (a l : Option Addr) (cap capl : Nat) (zs vs : List Int) (w : World) (hi : Ints w a zs) (hj : Ints w l vs) (hn : zs.length ≤ 1048576) (hm : vs.length ≤ 1048576) :
    Calls Tryz.prog 108 #[.agg #[.int .i64 n, .slice a zs.length cap], .slice l vs.length capl] w fun e w' => e = .returned (.agg #[.int .i64 (wpC n zs vs), .int .i64 (wpB n zs vs)]) ∧ Below w.heap.size w w' := by
  have S0 := (WV.new w n a l zs vs cap hi hj).below (bel1 _ (.cells #[.int .i64 0, .int .i64 0] 79))
  have hblk := heap_alloc_new ((w.alloc (.cells #[.int .i64 n, .slice a zs.length cap] 37)).alloc (.cells #[.int .i64 0, .int .i64 0] 79)) (.cells #[.int .i64 0, .int .i64 0] 79)
  simp only [World.size_alloc] at hblk
  have hgl := lt_of_block hblk
  clear hi hj
  by_cases hv : vvB n zs vs = false
  · have HN := hide (supA_no hv)
    have HC := hide (wpC_no hv)
    have HB := hide (wpB_no hv)
    go_enter Tryz.func108, Tryz.ntmps108
    go_wp2_with fail
    refine (implSupportOf_any _ _ _ _ _ _ _ _ S0.2.1 S0.2.2.1 hn hm).mono ?_
    rintro e w1 ⟨v, rfl, ov, hb⟩
    rw [HN.out] at ov
    obtain ⟨av, cv, rfl, _, _⟩ := ov.form
    have S1 := S0.below hb
    have hblk1 := (hb.block _ hgl).trans hblk
    have hres := S1.2.2.2.1
    have f0 := unfrozen_of_block hres 0
    have f1 := unfrozen_of_block hres 1
    have r0 := cell_of_block hres 0
    have r1 := cell_of_block hres 1
    have g0 := cell_of_block hblk1 0
    have g1 := cell_of_block hblk1 1
    clear ov
    go_wp2
    go_loopw [12] (fun i wr => i = .int .i64 0 ∧ wr = w1) (fun _ _ => 0)
    case atStart => exact ⟨rfl, rfl⟩
    case round =>
    obtain ⟨rfl, rfl⟩ := hrel
    go_wp2
    refine bodyPost_ret (ret_part rfl _ _ _ _ _ rfl (block_setCell (i := 1) (block_setCell (i := 0) hres _) _)) rfl ?_
    rw [HC.out, HB.out]
    exact ⟨rfl, (S1.2.2.2.2.setCell (p := ⟨w.heap.size + 1, 0, none⟩) (by show w.heap.size ≤ w.heap.size + 1; omega) _).setCell (p := ⟨w.heap.size + 1, 1, none⟩) (by show w.heap.size ≤ w.heap.size + 1; omega) _⟩
  · have hv : vvB n zs vs = true := by simpa using hv
    have HN := hide (supA_yes hv)
    have HC := hide (wpC_yes hv)
    have HB := hide (wpB_yes hv)
    have hV := hide (vv_of hv)
    obtain ⟨m, rfl⟩ := Int.eq_ofNat_of_zero_le (show 0 ≤ n from by have := hV.out.1.1; omega)
    have h4 : m ≤ 4 := by have := hV.out.1.1; omega
    have h5 : vs.length ≤ 5 := by have := hV.out.2.2; omega
    go_enter Tryz.func108, Tryz.ntmps108
    go_wp2_with fail
    refine (implSupportOf_any _ _ _ _ _ _ _ _ S0.2.1 S0.2.2.1 hn hm).mono ?_
    rintro e wo ⟨v, rfl, ov, hb⟩
    rw [HN.out, Int.toNat_natCast] at ov
    obtain ⟨av, cv, rfl, iv, _⟩ := ov.form
    have hl := supL_length m vs
    rw [hl] at ov ⊢
    have S1 := S0.below hb
    have hblk1 := (hb.block _ hgl).trans hblk
    clear iv hl S0 hb hblk hgl
    simp only [World.size_alloc] at ov
    go_wp2
    go_loopw [12] (fun i wr => ∃ k : Nat, k ≤ m ∧ i = .int .i64 k ∧ wr.heap[w.heap.size + 1 + 1]? = some (.cells #[.int .i64 (wantC vs k : Nat), .int .i64 (wantB vs k : Nat)] 79 (0, 0)) ∧ Owns wr (w.heap.size + 1 + 1 + 1) (.slice av m cv) (supL m vs) ∧ wr.heap[w.heap.size + 1]? = some (.cells #[.int .i64 0, .int .i64 0] 79 (0, 0)) ∧ Below w.heap.size w wr) (fun i _ => m - (intOf i).toNat)
    case atStart => exact ⟨0, Nat.zero_le _, rfl, hblk1, ov, S1.2.2.2.1, S1.2.2.2.2⟩
    case round =>
      clear S1 hblk1 ov
      obtain ⟨k, hk, rfl, hblk, ov, hres, BR⟩ := hrel
      by_cases hlt : k < m
      · have hlt' : k < (supL m vs).length := by rw [supL_length]; exact hlt
        obtain ⟨b, off, rfl, hbl, hc⟩ := ov.ints (by omega)
        have hck : wr.cell? ⟨b, off + k, none⟩ = some (.int .i64 (supN vs k : Nat)) := by
          rw [hc k hlt']
          unfold supL
          rw [supKL_getD m vs vs.length k hlt]
          rfl
        have hs := supN_le vs k
        have OV := hide ov
        have BH := hide BR
        have HBK := hide hblk
        have HRS : Hid (∀ (i : Nat) (v : Value), (wr.setCell ⟨w.heap.size + 1 + 1, i, none⟩ v).heap[w.heap.size + 1]? = some (.cells #[.int .i64 0, .int .i64 0] 79 (0, 0))) :=
          fun i v => (Below.heap_setCell _ _ _ _ (by show w.heap.size + 1 ≠ w.heap.size + 1 + 1; omega)).trans hres
        have hr0 := hide hres
        clear hc hlt' ov BR hres
        by_cases he : 2 * supN vs k = vs.length
        · have hE : ((2 * (supN vs k : Int)) != (vs.length : Int)) = false := by rw [bne_eq_false_iff_eq]; omega
          have HC1 := hide (wantC_no he)
          have HB1 := hide (wantB_no (show ¬ vs.length < 2 * supN vs k from by omega))
          clear hblk
          go_wp2
          go_roundw
          case rel => exact ⟨k + 1, by omega, by go_num, by rw [HC1.out, HB1.out]; exact HBK.out, OV.out, hr0.out, BH.out⟩
          case measure => simp only [intOf]; omega
        · have hE : ((2 * (supN vs k : Int)) != (vs.length : Int)) = true := by rw [bne_iff_ne]; omega
          have HC1 := hide (wantC_yes he)
          have hw2 := wrap_pow2 k (by omega)
          have ho1 := or_digit (wantC vs k) k (by omega) (wantC_lt vs k)
          have g0 := cell_of_block hblk 0
          have f0 := unfrozen_of_block hblk 0
          by_cases hgt : vs.length < 2 * supN vs k
          · have HB1 := hide (wantB_yes hgt)
            have ho2 := or_digit (wantB vs k) k (by omega) (wantB_lt vs k)
            have g1 := cell_of_block hblk 1
            have f1 := unfrozen_of_block hblk 1
            clear hblk
            go_wp2
            go_region
            all_goals go_wp2
            all_goals go_region
            all_goals go_wp2
            all_goals
              go_roundw
              case rel =>
                refine ⟨k + 1, by omega, by go_num, ?_, (OV.out.setBelow (p := ⟨w.heap.size + 1 + 1, 0, none⟩) (by show w.heap.size + 1 + 1 < w.heap.size + 1 + 1 + 1; omega) _).setBelow (p := ⟨w.heap.size + 1 + 1, 1, none⟩) (by show w.heap.size + 1 + 1 < w.heap.size + 1 + 1 + 1; omega) _,
                  (Below.heap_setCell _ _ _ _ (by show w.heap.size + 1 ≠ w.heap.size + 1 + 1; omega)).trans (HRS.out 0 _), bdrew' ((bdrew' (BH.out.setCell (p := ⟨w.heap.size + 1 + 1, 0, none⟩) (by show w.heap.size ≤ w.heap.size + 1 + 1; omega) _)).setCell (p := ⟨w.heap.size + 1 + 1, 1, none⟩) (by show w.heap.size ≤ w.heap.size + 1 + 1; omega) _)⟩
                rw [HC1.out, HB1.out]
                exact block_setCell (i := 1) (block_setCell (i := 0) HBK.out _) _
              case measure => simp [intOf]; omega
          · have HB1 := hide (wantB_no hgt)
            clear hblk
            go_wp2
            go_region
            all_goals go_wp2
            all_goals
              go_roundw
              case rel =>
                refine ⟨k + 1, by omega, by go_num, ?_, OV.out.setBelow (p := ⟨w.heap.size + 1 + 1, 0, none⟩) (by show w.heap.size + 1 + 1 < w.heap.size + 1 + 1 + 1; omega) _, HRS.out 0 _, bdrew' (BH.out.setCell (p := ⟨w.heap.size + 1 + 1, 0, none⟩) (by show w.heap.size ≤ w.heap.size + 1 + 1; omega) _)⟩
                rw [HC1.out, HB1.out]
                exact block_setCell (i := 0) HBK.out _
              case measure => simp [intOf]; omega
      · obtain rfl : k = m := by omega
        have g0 := cell_of_block hblk 0
        have g1 := cell_of_block hblk 1
        have f0 := unfrozen_of_block hres 0
        have f1 := unfrozen_of_block hres 1
        have r0 := cell_of_block hres 0
        have r1 := cell_of_block hres 1
        go_wp2
        refine bodyPost_ret (ret_part rfl _ _ _ _ _ rfl (block_setCell (i := 1) (block_setCell (i := 0) hres _) _)) rfl ?_
        rw [HC.out, HB.out, Int.toNat_natCast]
        exact ⟨rfl, (BR.setCell (p := ⟨w.heap.size + 1, 0, none⟩) (by show w.heap.size ≤ w.heap.size + 1; omega) _).setCell (p := ⟨w.heap.size + 1, 1, none⟩) (by show w.heap.size ≤ w.heap.size + 1; omega) _⟩

/-- what MajorityOf answers -/
def majV (n : Int) (zs vs : List Int) : Int := if vvB n zs vs = true then (wantB vs n.toNat : Nat) else -1
theorem majV_yes {n : Int} {zs vs : List Int} (h : vvB n zs vs = true) : majV n zs vs = (wantB vs n.toNat : Nat) := if_pos h
theorem majV_no {n : Int} {zs vs : List Int} (h : vvB n zs vs = false) : majV n zs vs = -1 := if_neg (by rw [h]; decide)

theorem field_bits (x y : Int) (w : World) : (Instr.field 79 (.agg #[.int .i64 x, .int .i64 y]) 1).run Tryz.prog w = .ok (.int .i64 y) w := by kernel_rfl

theorem implMajorityOf_any (n : Int) (a l : Option Addr) (cap capl : Nat) (zs vs : List Int) (w : World) (hi : Ints w a zs) (hj : Ints w l vs) (hn : zs.length ≤ 1048576) (hm : vs.length ≤ 1048576) :
    Calls Tryz.prog 82 #[.agg #[.int .i64 n, .slice a zs.length cap], .slice l vs.length capl] w fun e w' => e = .returned (.int .i64 (majV n zs vs)) ∧ Below w.heap.size w w' := by
  have S0 := SV.new w n a zs cap l vs 37 hi hj
  clear hi hj
  by_cases hv : vvB n zs vs = false
  · have HN := hide (majV_no hv)
    go_enter Tryz.func82, Tryz.ntmps82
    go_wp2_with fail
    refine (implValidVotes_any _ _ _ _ _ _ _ _ S0.2.1 S0.2.2.1 hn hm).mono ?_
    rintro e w1 ⟨rfl, hb⟩
    go_wp2
    go_ret
    exact ⟨ret_int HN.out.symm, (S0.below hb).2.2.2⟩
  · have hv : vvB n zs vs = true := by simpa using hv
    have HN := hide ((majV_yes hv).trans (wpB_yes hv).symm)
    go_enter Tryz.func82, Tryz.ntmps82
    go_wp2_with fail
    refine (implValidVotes_any _ _ _ _ _ _ _ _ S0.2.1 S0.2.2.1 hn hm).mono ?_
    rintro e w1 ⟨rfl, hb⟩
    have S1 := S0.below hb
    obtain ⟨⟨_, c0, c1⟩, _⟩ := S1.pair
    go_wp2_with fail
    refine (implWanted_any _ _ _ _ _ _ _ _ S1.2.1 S1.2.2.1 hn hm).mono ?_
    rintro e w2 ⟨rfl, hb2⟩
    have hfd := field_bits (wpC n zs vs) (wpB n zs vs)
    go_wp2
    go_ret
    exact ⟨ret_int HN.out.symm, (S1.below hb2).2.2.2⟩

set_option maxHeartbeats 1000000 in
theorem majority_any (m : Nat) (a l : Option Addr) (cap capl len : Nat) (vs : List Int) (w : World) (hj : Ints w l vs) (h5 : vs.length ≤ 5) (h4 : m ≤ 4) (hr : ∀ x ∈ vs, 0 ≤ x ∧ x ≤ 15) :
    Calls Tryz.prog 41 #[.agg #[.int .i64 m, .slice a len cap], .slice l vs.length capl] w fun e w' => e = .returned (.int .i64 (wantB vs m : Nat)) ∧ Below w.heap.size w w' := by
  have bx := Box.new w m a len cap 37
  have il := hj.below (bel1 w (.cells #[.int .i64 m, .slice a len cap] 37))
  have HR := hide hr
  clear hj hr
  go_enter Tryz.func41, Tryz.ntmps41
  go_wp2_with fail
  obtain ⟨_, c0, c1⟩ := bx
  go_loop [5, 6] (fun o i => ∃ k : Nat, k ≤ m ∧ i = .int .i64 k ∧ o = .int .i64 (wantB vs k : Nat)) (fun _ i => m - (intOf i).toNat)
  case atStart => exact ⟨0, Nat.zero_le _, rfl, rfl⟩
  case round =>
    obtain ⟨k, hk, rfl, rfl⟩ := hrel
    by_cases hlt : k < m
    · have hs := supN_le vs k
      have hp := pw_nat k
      have hpb := pow_small k (by omega)
      have hbl := wantB_lt vs k
      have hb16 : wantB vs k ≤ 16 := Nat.le_trans (Nat.le_of_lt hbl) (Nat.pow_le_pow_right (n := 2) (by omega) (show k ≤ 4 from by omega))
      clear hbl
      by_cases hgt : vs.length < 2 * supN vs k
      · have HB1 := hide (wantB_yes hgt)
        go_wp2_with (first
          | (go_at_call 64; refine (support_any _ _ _ _ _ il (by omega) HR.out (by omega)).mono ?_; rintro e w' ⟨rfl, rfl⟩)
          | (go_at_call 45; refine (power_any _ _ (by omega) (by omega)).mono ?_; rintro e w' ⟨rfl, rfl⟩))
        go_round
        case rel => exact ⟨k + 1, by omega, by go_num, by rw [HB1.out, Int.natCast_add, pow_cast]; try rw [hp]⟩
        case measure => simp only [intOf]; omega
      · have HB1 := hide (wantB_no hgt)
        go_wp2_with (first
          | (go_at_call 64; refine (support_any _ _ _ _ _ il (by omega) HR.out (by omega)).mono ?_; rintro e w' ⟨rfl, rfl⟩))
        go_round
        case rel => exact ⟨k + 1, by omega, by go_num, by rw [HB1.out]⟩
        case measure => simp only [intOf]; omega
    · obtain rfl : k = m := by omega
      go_wp2
      go_ret
      exact ⟨rfl, bel1 w _⟩

end Go.Proofs.YtgebplpbnaeckaaGreatDoor

/- WantS: WantedPart in the model. -/
namespace Go.Proofs.YtgebplpbnaeckaaGreatDoor
open Go.RowKit Go.Joins

theorem WV.set {w0 wx : World} {n : Int} {a l : Option Addr} {zs vs : List Int} {cap : Nat} (h : WV w0 n a zs cap l vs wx) (u v : Value) :
    Below w0.heap.size w0 ((wx.setCell ⟨w0.heap.size + 1, 0, none⟩ u).setCell ⟨w0.heap.size + 1, 1, none⟩ v) :=
  (h.2.2.2.2.setCell (p := ⟨w0.heap.size + 1, 0, none⟩) (by show w0.heap.size ≤ w0.heap.size + 1; omega) u).setCell (p := ⟨w0.heap.size + 1, 1, none⟩) (by show w0.heap.size ≤ w0.heap.size + 1; omega) v

set_option maxHeartbeats 4000000 in
theorem wanted_any (m : Nat) (a l : Option Addr) (cap capl : Nat) (zs vs : List Int) (w : World) (hi : Ints w a zs) (hj : Ints w l vs) (h5 : vs.length ≤ 5) (h4 : m ≤ 4) (hr : ∀ x ∈ vs, 0 ≤ x ∧ x ≤ 15) :
    Calls Tryz.prog 67 #[.agg #[.int .i64 m, .slice a zs.length cap], .slice l vs.length capl] w fun e w' => e = .returned (.agg #[.int .i64 (wantC vs m : Nat), .int .i64 (wantB vs m : Nat)]) ∧ Below w.heap.size w w' := by
  have S0 := WV.new w m a l zs vs cap hi hj
  have hblk0 := heap_alloc_new ((w.alloc (.cells #[.int .i64 m, .slice a zs.length cap] 37)).alloc (.cells #[.int .i64 0, .int .i64 0] 79)) (.cells #[.int .i64 0, .int .i64 0] 79)
  have hB0 := bel1 ((w.alloc (.cells #[.int .i64 m, .slice a zs.length cap] 37)).alloc (.cells #[.int .i64 0, .int .i64 0] 79)) (.cells #[.int .i64 0, .int .i64 0] 79)
  simp only [World.size_alloc] at hblk0
  obtain ⟨W0, hW0⟩ : ∃ W0 : World, W0 = (w.alloc (.cells #[.int .i64 m, .slice a zs.length cap] 37)).alloc (.cells #[.int .i64 0, .int .i64 0] 79) := ⟨_, rfl⟩
  have hz0 : W0.heap.size = w.heap.size + 1 + 1 := by rw [hW0]; simp
  rw [← hW0] at S0 hB0
  have HZ := hide hz0
  have HS := hide S0
  have HR := hide hr
  have HB0 : Hid (Below W0.heap.size W0 (((w.alloc (.cells #[.int .i64 m, .slice a zs.length cap] 37)).alloc (.cells #[.int .i64 0, .int .i64 0] 79)).alloc (.cells #[.int .i64 0, .int .i64 0] 79))) := by rw [← hW0]; exact hB0
  clear hi hj hr hW0 hz0 S0 hB0
  go_enter Tryz.func67, Tryz.ntmps67
  go_wp2_with fail
  go_loopw [6] (fun i wr => ∃ k : Nat, k ≤ m ∧ i = .int .i64 k ∧ wr.heap[w.heap.size + 1 + 1]? = some (.cells #[.int .i64 (wantC vs k : Nat), .int .i64 0] 79 (0, 0)) ∧ Below W0.heap.size W0 wr) (fun i _ => m - (intOf i).toNat)
  case atStart => exact ⟨0, Nat.zero_le _, rfl, hblk0, HB0.out⟩
  case round =>
    clear hblk0
    obtain ⟨k, hk, rfl, hblk, BR⟩ := hrel
    have SR := HS.out.below BR
    have ⟨⟨_, c0, c1⟩, iz, il, hres, _⟩ := SR
    have g0 := cell_of_block hblk 0
    have g1 := cell_of_block hblk 1
    have BH := hide BR
    have HBK := hide hblk
    clear SR BR
    by_cases hlt : k < m
    · have hs := supN_le vs k
      by_cases he : 2 * supN vs k = vs.length
      · have hE : ((2 * (supN vs k : Int)) != (vs.length : Int)) = false := by rw [bne_eq_false_iff_eq]; omega
        have HC1 := hide (wantC_no he)
        clear hblk hres
        go_wp2_with (go_at_call 64; refine (support_any _ _ _ _ _ il (by omega) HR.out (by omega)).mono ?_; rintro e w' ⟨rfl, rfl⟩)
        go_roundw
        case rel => exact ⟨k + 1, by omega, by go_num, by rw [HC1.out]; exact HBK.out, BH.out⟩
        case measure => simp only [intOf]; omega
      · have hE : ((2 * (supN vs k : Int)) != (vs.length : Int)) = true := by rw [bne_iff_ne]; omega
        have HC1 := hide (wantC_yes he)
        have hp := pw_nat k
        have hpb := pow_small k (by omega)
        have hcl := wantC_lt vs k
        have hc16 : wantC vs k ≤ 16 := Nat.le_trans (Nat.le_of_lt hcl) (Nat.pow_le_pow_right (n := 2) (by omega) (show k ≤ 4 from by omega))
        have hsum : IntKind.i64.wrap ((wantC vs k : Int) + 2 ^ k) = (wantC vs k : Int) + 2 ^ k := IntWalk.i64_in _ (by omega)
        have f0 := unfrozen_of_block hblk 0
        clear hblk hres hcl
        go_upto_region 6 with (go_at_call 64; refine (support_any _ _ _ _ _ il (by omega) HR.out (by omega)).mono ?_; rintro e w' ⟨rfl, rfl⟩)
        go_region_with ((go_at_call 45; refine (power_any _ _ (by omega) (by omega)).mono ?_; rintro e w' ⟨rfl, rfl⟩))
        all_goals go_wp2_with fail
        all_goals
          go_roundw
          case rel =>
            refine ⟨k + 1, by omega, by go_num, ?_, bdrew' (BH.out.setCell (p := ⟨w.heap.size + 1 + 1, 0, none⟩) (by show W0.heap.size ≤ w.heap.size + 1 + 1; rw [HZ.out]; exact Nat.le_refl _) _)⟩
            rw [HC1.out, Int.natCast_add, pow_cast]
            exact block_setCell (i := 0) HBK.out _
          case measure => simp [intOf]; omega
    · obtain rfl : k = m := by omega
      have f1 := unfrozen_of_block hblk 1
      have hgl := lt_of_block hblk
      have hrl := lt_of_block hres
      clear hblk
      go_wp2_with fail
      refine (majority_any _ _ _ _ _ _ _ _ il h5 h4 HR.out).mono ?_
      rintro e w3 ⟨rfl, hb3⟩
      have hblk3 := (hb3.block _ hgl).trans HBK.out
      have hres3 := (hb3.block _ hrl).trans hres
      have B3 := hide (bnext BH.out (hb3.mono (by exact Nat.le_refl _)))
      have p0 := cell_of_block hblk3 0
      have p1 := cell_of_block hblk3 1
      have q1 := unfrozen_of_block hblk3 1
      have f0 := unfrozen_of_block hres3 0
      have f2 := unfrozen_of_block hres3 1
      have r0 := cell_of_block hres3 0
      have r1 := cell_of_block hres3 1
      have HR3 := hide hres3
      clear g0 g1 c0 c1 f1 hblk3 hres3 hres
      go_wp2
      have hres4 := (Below.heap_setCell w3 ⟨w.heap.size + 1 + 1, 1, none⟩ (.int .i64 (wantB vs k : Nat)) (w.heap.size + 1) (by show w.heap.size + 1 ≠ w.heap.size + 1 + 1; omega)).trans HR3.out
      refine bodyPost_ret (ret_part rfl _ _ _ _ _ rfl (block_setCell (i := 1) (block_setCell (i := 0) hres4 _) _)) rfl ?_
      refine ⟨rfl, ?_⟩
      have hW := HS.out.2.2.2.2
      have hB := bnext hW B3.out
      exact ((hB.setCell (p := ⟨w.heap.size + 1 + 1, 1, none⟩) (by show w.heap.size ≤ w.heap.size + 1 + 1; omega) _).setCell (p := ⟨w.heap.size + 1, 0, none⟩) (by show w.heap.size ≤ w.heap.size + 1; omega) _).setCell (p := ⟨w.heap.size + 1, 1, none⟩) (by show w.heap.size ≤ w.heap.size + 1; omega) _

end Go.Proofs.YtgebplpbnaeckaaGreatDoor

/- OpenI: impl.IsOpen answers what IsOpen asks. -/
namespace Go.Proofs.YtgebplpbnaeckaaGreatDoor
open Go.RowKit Go.Joins

end Go.Proofs.YtgebplpbnaeckaaGreatDoor

/- Set: IsSettled in the model and in the program. -/
namespace Go.Proofs.YtgebplpbnaeckaaGreatDoor
open Go.RowKit Go.Joins

theorem want_and : ∀ (vs : List Int) (k : Nat), k ≤ 4 → wantB vs k &&& wantC vs k = wantB vs k
  | vs, 0, _ => by simp [wantB]
  | vs, k + 1, h => by
    have ih := want_and vs k (by omega)
    have hc := wantC_lt vs k
    have hb := wantB_lt vs k
    have h16 : 2 ^ k ≤ 2 ^ 4 := Nat.pow_le_pow_right (by omega) (by omega)
    have h1 : ∀ b : Fin 16, ∀ c : Fin 16, ∀ k : Fin 4, b.val < 2 ^ k.val → c.val < 2 ^ k.val → (b.val &&& c.val = b.val) → (b.val + 2 ^ k.val) &&& (c.val + 2 ^ k.val) = b.val + 2 ^ k.val := by decide +kernel
    have h2 : ∀ b : Fin 16, ∀ c : Fin 16, ∀ k : Fin 4, b.val < 2 ^ k.val → c.val < 2 ^ k.val → (b.val &&& c.val = b.val) → b.val &&& (c.val + 2 ^ k.val) = b.val := by decide +kernel
    have g1 := h1 ⟨wantB vs k, by omega⟩ ⟨wantC vs k, by omega⟩ ⟨k, by omega⟩ hb hc ih
    have g2 := h2 ⟨wantB vs k, by omega⟩ ⟨wantC vs k, by omega⟩ ⟨k, by omega⟩ hb hc ih
    by_cases he : 2 * supN vs k = vs.length
    · rw [wantC_no he, wantB_no (by omega)]; exact ih
    · rw [wantC_yes he]
      by_cases hgt : vs.length < 2 * supN vs k
      · rw [wantB_yes hgt]; exact g1
      · rw [wantB_no hgt]; exact g2

theorem want_16 (vs : List Int) (k : Nat) (h : k ≤ 4) : wantC vs k < 16 ∧ wantB vs k < 16 := by
  have hc := wantC_lt vs k
  have hb := wantB_lt vs k
  have h16 : 2 ^ k ≤ 2 ^ 4 := Nat.pow_le_pow_right (by omega) (by omega)
  omega
theorem want_part (m : Nat) (vs : List Int) (h : m ≤ 4) : IsPt (m : Int) (wantC vs m : Nat) (wantB vs m : Nat) := by
  have hc := wantC_lt vs m
  have hb := wantB_lt vs m
  have hp : pw (m : Int) = ((2 ^ m : Nat) : Int) := by unfold pw; rw [Int.toNat_natCast]
  refine ⟨⟨by omega, by omega⟩, ⟨by omega, by omega⟩, ?_⟩
  rw [Int.toNat_natCast, Int.toNat_natCast]
  exact want_and vs m h

/-- what IsSettled answers -/
def setB (n : Int) (zs vs : List Int) : Bool := vvB n zs vs && openB zs (wantC vs n.toNat : Nat) (wantB vs n.toNat : Nat)
theorem setB_no {n : Int} {zs vs : List Int} (h : vvB n zs vs = false) : setB n zs vs = false := by unfold setB; rw [h]; rfl
theorem setB_yes {n : Int} {zs vs : List Int} (h : vvB n zs vs = true) : setB n zs vs = openB zs (wantC vs n.toNat : Nat) (wantB vs n.toNat : Nat) := by unfold setB; rw [h]; rfl

theorem implVotes_is (n : Int) (a l : Option Addr) (cap capl : Nat) (zs vs : List Int) (w : World) (r : Bool) (hi : Ints w a zs) (hj : Ints w l vs) (hn : zs.length ≤ 1048576) (hm : vs.length ≤ 1048576) (hr : vvB n zs vs = r) :
    Calls Tryz.prog 107 #[.agg #[.int .i64 n, .slice a zs.length cap], .slice l vs.length capl] w fun e w' => e = .returned (.bool r) ∧ Below w.heap.size w w' :=
  (implValidVotes_any n a l cap capl zs vs w hi hj hn hm).mono fun _ _ ⟨he, hb⟩ => ⟨he.trans (ret_bool hr), hb⟩
theorem validSpace_is (n : Int) (a : Option Addr) (cap : Nat) (zs : List Int) (w : World) (r : Bool) (hi : Ints w a zs) (hn : zs.length ≤ 1048576) (hr : vsB n zs = r) :
    Calls Tryz.prog 27 #[.agg #[.int .i64 n, .slice a zs.length cap]] w fun e w' => e = .returned (.bool r) ∧ Below w.heap.size w w' :=
  (validSpace_any n a cap zs w hi hn).mono fun _ _ ⟨he, hb⟩ => ⟨he.trans (ret_bool hr), hb⟩
theorem validVotes_is (n : Int) (a l : Option Addr) (cap capl : Nat) (zs vs : List Int) (w : World) (r : Bool) (hi : Ints w a zs) (hj : Ints w l vs) (hn : zs.length ≤ 1048576) (hm : vs.length ≤ 1048576) (hr : votesB zs vs = r) :
    Calls Tryz.prog 19 #[.agg #[.int .i64 n, .slice a zs.length cap], .slice l vs.length capl] w fun e w' => e = .returned (.bool r) ∧ Below w.heap.size w w' :=
  (validVotes_any n a l cap capl zs vs w hi hj hn hm).mono fun _ _ ⟨he, hb⟩ => ⟨he.trans (ret_bool hr), hb⟩


end Go.Proofs.YtgebplpbnaeckaaGreatDoor
