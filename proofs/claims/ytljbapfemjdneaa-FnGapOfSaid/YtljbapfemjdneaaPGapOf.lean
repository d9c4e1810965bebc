/- The law FnGapOf answers true at every code: its walk. -/
import Derived.Test.YtljbapfemjdneaaRead
import Derived.Test.YtljbapfemjdneaaGap
namespace Go.Proofs.Ytljbapfemjdneaa
open Go.RowKit Go.Joins

theorem lpower_any (n : Int) (w : World) (h0 : 0 ≤ n) (h4 : n ≤ 4) : Calls Try.prog 19 #[.int .i64 n] w fun e w' => e = .returned (.int .i64 (pw n)) ∧ w = w' := by
  go_enter Try.func19, Try.ntmps19
  go_wp2
  go_loop [0, 3] (fun i o => ∃ k : Int, 0 ≤ k ∧ k ≤ n ∧ i = .int .i64 k ∧ o = .int .i64 (pw (n - k))) (fun i _ => (intOf i).toNat)
  case atStart => exact ⟨n, h0, Int.le_refl _, rfl, by rw [Int.sub_self]; rfl⟩
  case round =>
    obtain ⟨k, hk0, hkn, rfl, rfl⟩ := hrel
    have b1 := pw_pos (n - k)
    have b2 := pw_le (n - k) (by omega)
    by_cases hlt : 0 < k
    · go_wp2
      go_round
      case rel => exact ⟨k - 1, by omega, by omega, by go_num, by rw [show n - (k - 1) = (n - k) + 1 from by omega, pw_succ _ (by omega)]⟩
      case measure => simp [intOf]; omega
    · obtain rfl : k = 0 := by omega
      go_wp2
      go_ret
      exact ⟨rfl, rfl⟩

theorem lit5 (w : World) (a b c d e : Int) : Ints (w.alloc (.cells #[.int .i64 a, .int .i64 b, .int .i64 c, .int .i64 d, .int .i64 e] 3)) (some ⟨w.heap.size, 0, none⟩) [a, b, c, d, e] := fun _ =>
  ⟨w.heap.size, 0, rfl, by simp, fun k hk => by
    match k, hk with
    | 0, _ => simp [go_sem]
    | 1, _ => simp [go_sem]
    | 2, _ => simp [go_sem]
    | 3, _ => simp [go_sem]
    | 4, _ => simp [go_sem]⟩
theorem bgrownR {w0 w w' : World} {R : Nat} (h : Below w0.heap.size w0 w) (hg : w.grownBy w' (some R)) (hR : w0.heap.size ≤ R) : Below w0.heap.size w0 w' := h.grown hg h.size (fun k hk => by cases hk; exact hR)

/-- What DrawGapOf leaves: two numbers of -1 to 16. -/
def DrawGapPost (w : World) (e : Ending) (w' : World) : Prop :=
  ∃ x y : Int, e = .returned (.tuple #[.int .i64 x, .int .i64 y]) ∧ (-1 ≤ x ∧ x ≤ 16) ∧ (-1 ≤ y ∧ y ≤ 16) ∧ Below w.heap.size w w'
set_option maxHeartbeats 2000000 in
set_option maxRecDepth 100000 in
theorem drawGapOf_any (a : Option Addr) (cap : Nat) (zs : List Nat) (w : World) (hi : Byts w a zs) (hl : zs.length ≤ 1048576) (hc : zs.length ≤ cap) :
    Calls Try.prog 29 #[.slice a zs.length cap] w (DrawGapPost w) := by
  go_enter Try.func29, Try.ntmps29
  go_wp2_with fail
  refine (newReader_any _ _ _ _ hi hl hc).mono ?_
  rintro e w1 ⟨R, rfl, hR, rd, B⟩
  clear hi
  go_wp2_with fail
  refine (pick_any R 0 _ _ rd (by omega) ⟨by omega, by omega⟩).mono ?_
  rintro e w2 ⟨r1, rfl, p1, q1, _, g, rd2⟩
  have B2 := bgrownR B g hR
  clear rd B g
  go_wp2_with fail
  refine (pick_any R 1 _ _ rd2 (by omega) ⟨by omega, by omega⟩).mono ?_
  rintro e w3 ⟨r2, rfl, p2, q2, _, g, rd3⟩
  have B3 := bgrownR B2 g hR
  clear rd2 B2 g
  go_wp2_with fail
  refine (pick_any R 2 _ _ rd3 (by omega) ⟨by omega, by omega⟩).mono ?_
  rintro e w4 ⟨r3, rfl, p3, q3, _, g, rd4⟩
  have B4 := bgrownR B3 g hR
  have R4 := rd4.lt
  clear rd3 B3 g
  have hl5 := lit5 w4 r1 r2 r3 (-1) 16
  have rd5 := rd4.below (bel1 w4 (.cells #[.int .i64 r1, .int .i64 r2, .int .i64 r3, .int .i64 (-1), .int .i64 16] 3))
  have B5 := bnext B4 (bel1 w4 (.cells #[.int .i64 r1, .int .i64 r2, .int .i64 r3, .int .i64 (-1), .int .i64 16] 3))
  go_wp2_with fail
  have ho := one_any R 3 5 _ _ _ rd5 (by omega) hl5 (by simp) (by simp) (fun b o s e => by cases e; omega)
  refine ho.mono ?_
  rintro e w6 ⟨x, hx, rfl, g, rd6⟩
  have B6 := bgrownR B5 g hR
  clear rd4 rd5 B4 B5 g ho hl5
  go_wp2_with fail
  refine (pick_any R 4 _ _ rd6 (by omega) ⟨by omega, by omega⟩).mono ?_
  rintro e w7 ⟨s1, rfl, u1, v1, _, g, rd7⟩
  have B7 := bgrownR B6 g hR
  clear rd6 B6 g
  go_wp2_with fail
  refine (pick_any R 5 _ _ rd7 (by omega) ⟨by omega, by omega⟩).mono ?_
  rintro e w8 ⟨s2, rfl, u2, v2, _, g, rd8⟩
  have B8 := bgrownR B7 g hR
  clear rd7 B7 g
  go_wp2_with fail
  refine (pick_any R 6 _ _ rd8 (by omega) ⟨by omega, by omega⟩).mono ?_
  rintro e w9 ⟨s3, rfl, u3, v3, _, g, rd9⟩
  have B9 := bgrownR B8 g hR
  have R9 := rd9.lt
  clear rd8 B8 g
  have hl5 := lit5 w9 s1 s2 s3 (-1) 16
  have rd10 := rd9.below (bel1 w9 (.cells #[.int .i64 s1, .int .i64 s2, .int .i64 s3, .int .i64 (-1), .int .i64 16] 3))
  have B10 := bnext B9 (bel1 w9 (.cells #[.int .i64 s1, .int .i64 s2, .int .i64 s3, .int .i64 (-1), .int .i64 16] 3))
  go_wp2_with fail
  have ho := one_any R 7 5 _ _ _ rd10 (by omega) hl5 (by simp) (by simp) (fun b o s e => by cases e; omega)
  refine ho.mono ?_
  rintro e w11 ⟨y, hy, rfl, g, rd11⟩
  have B11 := bgrownR B10 g hR
  clear rd9 rd10 rd11 B9 B10 g ho hl5
  have hx' : -1 ≤ x ∧ x ≤ 16 := by
    simp only [List.mem_cons, List.not_mem_nil, or_false] at hx
    omega
  have hy' : -1 ≤ y ∧ y ≤ 16 := by
    simp only [List.mem_cons, List.not_mem_nil, or_false] at hy
    omega
  have HB := hide B11
  clear hx hy B11
  go_wp2
  go_ret2
  exact ⟨x, y, rfl, hx', hy', HB.out⟩

theorem gap_sym (x y : Int) : gapV y x = gapV x y := by
  unfold gapV
  rw [Nat.xor_comm]
  by_cases h : (0 ≤ x ∧ x ≤ 15) ∧ (0 ≤ y ∧ y ≤ 15)
  · rw [if_pos h, if_pos ⟨h.2, h.1⟩]
  · rw [if_neg h, if_neg (fun h' => h ⟨h'.2, h'.1⟩)]
theorem gap_fin : ∀ a : Fin 16, ∀ b : Fin 16, (wt (a.val ^^^ b.val) = 0 ↔ a = b) ∧ ∀ t : Fin 16, wt (a.val ^^^ b.val) ≤ wt (a.val ^^^ t.val) + wt (t.val ^^^ b.val) := by decide +kernel
theorem gap_in {x y : Int} (h : ¬ gapV x y < 0) : (0 ≤ x ∧ x ≤ 15) ∧ (0 ≤ y ∧ y ≤ 15) := by
  unfold gapV at h
  split at h
  · assumption
  · omega
theorem gap_val {x y : Int} (h : (0 ≤ x ∧ x ≤ 15) ∧ (0 ≤ y ∧ y ≤ 15)) : gapV x y = (wt (x.toNat ^^^ y.toNat) : Nat) := if_pos h
theorem gap_tri {x y : Int} (h : (0 ≤ x ∧ x ≤ 15) ∧ (0 ≤ y ∧ y ≤ 15)) (t : Nat) (ht : t < 16) : gapV x y ≤ gapV x t + gapV t y := by
  rw [gap_val h, gap_val (x := x) (y := t) ⟨h.1, by omega⟩, gap_val (x := t) (y := y) ⟨by omega, h.2⟩]
  have := (gap_fin ⟨x.toNat, by omega⟩ ⟨y.toNat, by omega⟩).2 ⟨t, ht⟩
  dsimp only at this
  rw [Int.toNat_natCast]
  omega
theorem gap_le (x y : Int) : gapV x y ≤ 4 ∧ -1 ≤ gapV x y := by
  unfold gapV
  have := wt_le (x.toNat ^^^ y.toNat)
  split <;> omega
theorem gap_eq {x y : Int} (h : (0 ≤ x ∧ x ≤ 15) ∧ (0 ≤ y ∧ y ≤ 15)) : (gapV x y == 0) = (x == y) := by
  rw [gap_val h, Bool.eq_iff_iff, beq_iff_eq, beq_iff_eq]
  have := (gap_fin ⟨x.toNat, by omega⟩ ⟨y.toNat, by omega⟩).1
  simp only [Fin.mk.injEq] at this
  constructor
  · intro h1
    have := this.1 (by omega)
    omega
  · intro h1
    have := this.2 (by omega)
    omega

set_option maxHeartbeats 2000000 in
set_option maxRecDepth 100000 in
theorem walk_FnGapOf (a : Option Addr) (zs : List Nat) (cap : Nat) (w : World) (hi : Byts w a zs) (hl : zs.length ≤ maxLen) (hc : zs.length ≤ cap) :
    Calls Try.prog 6 #[.slice a zs.length cap] w fun e w' => e = .returned (.bool true) ∧ Below w.heap.size w w' := by
  by_cases h : 1048576 < zs.length
  · unfold maxLen at hl
    go_enter Try.func6, Try.ntmps6
    go_wp2
    go_ret
    exact ⟨rfl, Below.refl _ _⟩
  · have hl' : zs.length ≤ 1048576 := by omega
    clear h hl
    have p4 : pw 4 = 16 := rfl
    go_enter Try.func6, Try.ntmps6
    go_wp2_with fail
    refine (drawGapOf_any _ _ _ _ hi hl' hc).mono ?_
    rintro e w1 ⟨x, y, rfl, hx, hy, hb⟩
    have HB := hide hb
    have hne : (gapV x y != gapV x y) = false := by simp
    have heq : (gapV x y == gapV x y) = true := by simp
    clear hb hi
    by_cases hneg : gapV x y < 0
    · go_wp2_with (first
        | (go_at_call 30; refine (implGapOf_any _ _ _).mono ?_; rintro e w' ⟨rfl, rfl⟩)
        | (go_at_call 31; refine (specGapOf_any _ _ _).mono ?_; rintro e w' ⟨rfl, rfl⟩))
      go_ret
      exact ⟨rfl, HB.out⟩
    · have HI := hide (gap_in hneg)
      have hs := gap_sym x y
      have hz := gap_eq HI.out
      go_wp2_with (first
        | (go_at_call 30; refine (implGapOf_any _ _ _).mono ?_; rintro e w' ⟨rfl, rfl⟩)
        | (go_at_call 31; refine (specGapOf_any _ _ _).mono ?_; rintro e w' ⟨rfl, rfl⟩))
      go_loop [6] (fun i => ∃ t : Nat, t ≤ 16 ∧ i = .int .i64 t) (fun i => 16 - (intOf i).toNat)
      case atStart => exact ⟨0, by omega, rfl⟩
      case round =>
        obtain ⟨t, ht, rfl⟩ := hrel
        by_cases hlt : t < 16
        · have h3 := gap_tri HI.out t hlt
          have b1 := gap_le x t
          have b2 := gap_le t y
          clear hs hz
          go_wp2_with (first
            | (go_at_call 19; refine (lpower_any _ _ (by omega) (by omega)).mono ?_; rintro e w' ⟨rfl, rfl⟩)
            | (go_at_call 30; refine (implGapOf_any _ _ _).mono ?_; rintro e w' ⟨rfl, rfl⟩))
          go_round
          case rel => exact ⟨t + 1, by omega, by go_num⟩
          case measure => simp only [intOf]; omega
        · obtain rfl : t = 16 := by omega
          have hbb : ((gapV x y == 0) == (x == y)) = true := by rw [hz]; simp
          clear hz
          go_wp2_with (first
            | (go_at_call 19; refine (lpower_any _ _ (by omega) (by omega)).mono ?_; rintro e w' ⟨rfl, rfl⟩)
            | (go_at_call 30; refine (implGapOf_any _ _ _).mono ?_; rintro e w' ⟨rfl, rfl⟩))
          go_ret
          exact ⟨rfl, HB.out⟩
end Go.Proofs.Ytljbapfemjdneaa
