/- What two sets of groups have in common, group by group, in the program. -/
import Derived.Test.YtklgganapphioaaTabG
namespace Go.Proofs.Ytklgganapphioaa
open Go.RowKit Go.Joins

/-- the groups that lie in a group of each, so far -/
def crJ (f h : Nat → Bool) (i j q : Nat) : Bool := (List.range j).any fun y => f i && (h y && (i &&& y == q))
def crI (f h : Nat → Bool) (i q : Nat) : Bool := (List.range i).any fun x => crJ f h x 8 q
def crX (f h : Nat → Bool) (i j q : Nat) : Bool := crI f h i q || crJ f h i j q
/-- the common groups of two sets -/
def crF (f h : Nat → Bool) (q : Nat) : Bool := crI f h 8 q
theorem crJ_succ (f h : Nat → Bool) (i j q : Nat) : crJ f h i (j + 1) q = (crJ f h i j q || (f i && (h j && (i &&& j == q)))) := by
  unfold crJ; rw [List.range_succ, List.any_append]; simp
theorem crX_zero (f h : Nat → Bool) (i : Nat) : crX f h i 0 = crI f h i := by
  funext q; unfold crX crJ; simp
theorem crX_end (f h : Nat → Bool) (i : Nat) : crI f h (i + 1) = crX f h i 8 := by
  funext q; unfold crX crI; rw [List.range_succ, List.any_append]; simp
theorem crX_no {f h : Nat → Bool} {i j : Nat} (e : (f i && h j) = false) : crX f h i (j + 1) = crX f h i j := by
  funext q
  unfold crX
  rw [crJ_succ, ← Bool.and_assoc, e]
  simp
theorem crX_yes {f h : Nat → Bool} {i j : Nat} (e1 : f i = true) (e2 : h j = true) : crX f h i (j + 1) = fun q => crX f h i j q || (i &&& j == q) := by
  funext q
  unfold crX
  rw [crJ_succ, e1, e2, Bool.or_assoc]
  simp
theorem b8_set (F : Nat → Bool) (k : Nat) (hk : k < 8) : #[Value.bool (F 0), Value.bool (F 1), Value.bool (F 2), Value.bool (F 3), Value.bool (F 4), Value.bool (F 5), Value.bool (F 6), Value.bool (F 7)].setIfInBounds k (.bool true) = #[Value.bool ((fun q => F q || (k == q)) 0), Value.bool ((fun q => F q || (k == q)) 1), Value.bool ((fun q => F q || (k == q)) 2), Value.bool ((fun q => F q || (k == q)) 3), Value.bool ((fun q => F q || (k == q)) 4), Value.bool ((fun q => F q || (k == q)) 5), Value.bool ((fun q => F q || (k == q)) 6), Value.bool ((fun q => F q || (k == q)) 7)] := by
  rcases (show k = 0 ∨ k = 1 ∨ k = 2 ∨ k = 3 ∨ k = 4 ∨ k = 5 ∨ k = 6 ∨ k = 7 from by omega) with rfl | rfl | rfl | rfl | rfl | rfl | rfl | rfl <;> simp
/-- a set of groups in a block of its own -/
def GB (w : World) (g : Nat) (F : Nat → Bool) : Prop := w.heap[g]? = some (.cells #[Value.bool (F 0), Value.bool (F 1), Value.bool (F 2), Value.bool (F 3), Value.bool (F 4), Value.bool (F 5), Value.bool (F 6), Value.bool (F 7)] 81 (0, 0))
theorem GB.below {w w' : World} {g : Nat} {F : Nat → Bool} (h : GB w g F) (hb : Below w.heap.size w w') : GB w' g F := blk_below h hb
theorem GB.put {w : World} {g k : Nat} {F : Nat → Bool} (h : GB w g F) (hk : k < 8) : GB (w.setCell ⟨g, k, none⟩ (.bool true)) g (fun q => F q || (k == q)) := by
  unfold GB
  rw [block_setCell h, b8_set F k hk]
theorem GB.at {w : World} {g k : Nat} {F : Nat → Bool} (h : GB w g F) (hk : k < 8) : w.cell? ⟨g, k, none⟩ = some (.bool (F k)) ∧ w.frozen? ⟨g, k, none⟩ = false := by
  refine ⟨(Tab.of (f := F) h).at k hk, free_blk h k⟩
set_option maxHeartbeats 4000000 in
set_option maxRecDepth 100000 in
theorem crossed_any (f h : Nat → Bool) (w : World) :
    Calls Try.prog 128 #[.agg #[Value.bool (f 0), Value.bool (f 1), Value.bool (f 2), Value.bool (f 3), Value.bool (f 4), Value.bool (f 5), Value.bool (f 6), Value.bool (f 7)], .agg #[Value.bool (h 0), Value.bool (h 1), Value.bool (h 2), Value.bool (h 3), Value.bool (h 4), Value.bool (h 5), Value.bool (h 6), Value.bool (h 7)]] w fun e w' => e = .returned (.agg #[Value.bool ((crF f h) 0), Value.bool ((crF f h) 1), Value.bool ((crF f h) 2), Value.bool ((crF f h) 3), Value.bool ((crF f h) 4), Value.bool ((crF f h) 5), Value.bool ((crF f h) 6), Value.bool ((crF f h) 7)]) ∧ Below w.heap.size w w' := by
  have h0 := new_blk w #[Value.bool (f 0), Value.bool (f 1), Value.bool (f 2), Value.bool (f 3), Value.bool (f 4), Value.bool (f 5), Value.bool (f 6), Value.bool (f 7)] 81
  have h1 := new_blk (w.alloc (.cells #[Value.bool (f 0), Value.bool (f 1), Value.bool (f 2), Value.bool (f 3), Value.bool (f 4), Value.bool (f 5), Value.bool (f 6), Value.bool (f 7)] 81)) #[Value.bool (h 0), Value.bool (h 1), Value.bool (h 2), Value.bool (h 3), Value.bool (h 4), Value.bool (h 5), Value.bool (h 6), Value.bool (h 7)] 81
  have h2 := new_blk ((w.alloc (.cells #[Value.bool (f 0), Value.bool (f 1), Value.bool (f 2), Value.bool (f 3), Value.bool (f 4), Value.bool (f 5), Value.bool (f 6), Value.bool (f 7)] 81)).alloc (.cells #[Value.bool (h 0), Value.bool (h 1), Value.bool (h 2), Value.bool (h 3), Value.bool (h 4), Value.bool (h 5), Value.bool (h 6), Value.bool (h 7)] 81)) #[.bool false, .bool false, .bool false, .bool false, .bool false, .bool false, .bool false, .bool false] 81
  have h3 := new_blk (((w.alloc (.cells #[Value.bool (f 0), Value.bool (f 1), Value.bool (f 2), Value.bool (f 3), Value.bool (f 4), Value.bool (f 5), Value.bool (f 6), Value.bool (f 7)] 81)).alloc (.cells #[Value.bool (h 0), Value.bool (h 1), Value.bool (h 2), Value.bool (h 3), Value.bool (h 4), Value.bool (h 5), Value.bool (h 6), Value.bool (h 7)] 81)).alloc (.cells #[.bool false, .bool false, .bool false, .bool false, .bool false, .bool false, .bool false, .bool false] 81)) #[.bool false, .bool false, .bool false, .bool false, .bool false, .bool false, .bool false, .bool false] 81
  simp only [World.size_alloc] at h1 h2 h3
  have b3 := bel1 (((w.alloc (.cells #[Value.bool (f 0), Value.bool (f 1), Value.bool (f 2), Value.bool (f 3), Value.bool (f 4), Value.bool (f 5), Value.bool (f 6), Value.bool (f 7)] 81)).alloc (.cells #[Value.bool (h 0), Value.bool (h 1), Value.bool (h 2), Value.bool (h 3), Value.bool (h 4), Value.bool (h 5), Value.bool (h 6), Value.bool (h 7)] 81)).alloc (.cells #[.bool false, .bool false, .bool false, .bool false, .bool false, .bool false, .bool false, .bool false] 81)) (.cells #[.bool false, .bool false, .bool false, .bool false, .bool false, .bool false, .bool false, .bool false] 81)
  have b2 := bnext (bel1 ((w.alloc (.cells #[Value.bool (f 0), Value.bool (f 1), Value.bool (f 2), Value.bool (f 3), Value.bool (f 4), Value.bool (f 5), Value.bool (f 6), Value.bool (f 7)] 81)).alloc (.cells #[Value.bool (h 0), Value.bool (h 1), Value.bool (h 2), Value.bool (h 3), Value.bool (h 4), Value.bool (h 5), Value.bool (h 6), Value.bool (h 7)] 81)) (.cells #[.bool false, .bool false, .bool false, .bool false, .bool false, .bool false, .bool false, .bool false] 81)) b3
  have b1 := bnext (bel1 (w.alloc (.cells #[Value.bool (f 0), Value.bool (f 1), Value.bool (f 2), Value.bool (f 3), Value.bool (f 4), Value.bool (f 5), Value.bool (f 6), Value.bool (f 7)] 81)) (.cells #[Value.bool (h 0), Value.bool (h 1), Value.bool (h 2), Value.bool (h 3), Value.bool (h 4), Value.bool (h 5), Value.bool (h 6), Value.bool (h 7)] 81)) b2
  have b0 := bnext (bel1 w (.cells #[Value.bool (f 0), Value.bool (f 1), Value.bool (f 2), Value.bool (f 3), Value.bool (f 4), Value.bool (f 5), Value.bool (f 6), Value.bool (f 7)] 81)) b1
  have g0 := blk_below h0 b1
  have g1 := blk_below h1 b2
  have g2 := blk_below h2 b3
  obtain ⟨_, c0, c1, c2, c3, c4, c5, c6, c7⟩ := Tab.of (f := f) g0
  have G1 : Hid (GB _ (w.heap.size + 1) h) := g1
  have G2 := hide g2
  have G3 : Hid (GB _ (w.heap.size + 1 + 1 + 1) (crI f h 0)) := h3
  have HB := hide b0
  clear h0 h1 h2 h3 b3 b2 b1 b0 g0 g1 g2
  go_enter Try.func128, Try.ntmps128
  go_wp2_with fail
  clear c0 c1 c2 c3 c4 c5 c6 c7
  go_loopw [11] (fun i wr => ∃ x : Nat, x ≤ 8 ∧ i = .int .i64 x ∧ GB wr (w.heap.size + 1) h ∧ wr.heap[w.heap.size + 1 + 1]? = some (.cells #[.bool false, .bool false, .bool false, .bool false, .bool false, .bool false, .bool false, .bool false] 81 (0, 0)) ∧ GB wr (w.heap.size + 1 + 1 + 1) (crI f h x) ∧ Below w.heap.size w wr) (fun i _ => 8 - (intOf i).toNat)
  case atStart => exact ⟨0, Nat.zero_le _, rfl, G1.out, G2.out, G3.out, HB.out⟩
  case round =>
    clear G1 G2 G3 HB
    obtain ⟨x, hx, rfl, g1, g2, g3, hb⟩ := hrel
    by_cases hxt : x < 8
    · have hi := idx_at f x hxt
      obtain ⟨_, c0, c1, c2, c3, c4, c5, c6, c7⟩ := Tab.of (f := h) g1
      obtain ⟨fx, hfx⟩ : ∃ fx, f x = fx := ⟨_, rfl⟩
      rw [hfx] at hi
      have HFX := hide hfx
      have G1 := hide g1
      have G2 := hide g2
      have G3 : Hid (GB wr (w.heap.size + 1 + 1 + 1) (crX f h x 0)) := by rw [crX_zero]; exact g3
      have HB := hide hb
      clear g1 g2 g3 hb hfx
      go_wp2_with fail
      clear c0 c1 c2 c3 c4 c5 c6 c7 hi
      go_loopw [16] (fun i wr => ∃ y : Nat, y ≤ 8 ∧ i = .int .i64 y ∧ GB wr (w.heap.size + 1) h ∧ wr.heap[w.heap.size + 1 + 1]? = some (.cells #[.bool false, .bool false, .bool false, .bool false, .bool false, .bool false, .bool false, .bool false] 81 (0, 0)) ∧ GB wr (w.heap.size + 1 + 1 + 1) (crX f h x y) ∧ Below w.heap.size w wr) (fun i _ => 8 - (intOf i).toNat)
      case atStart => exact ⟨0, Nat.zero_le _, rfl, G1.out, G2.out, G3.out, HB.out⟩
      case round =>
        clear G1 G2 G3 HB
        obtain ⟨y, hy, rfl, g1, g2, g3, hb⟩ := hrel
        have G1 := hide g1
        have G2 := hide g2
        have G3 := hide g3
        have HB := hide hb
        by_cases hyt : y < 8
        · have hi := idx_at h y hyt
          obtain ⟨hy', hhy⟩ : ∃ hy', h y = hy' := ⟨_, rfl⟩
          rw [hhy] at hi
          have HHY := hide hhy
          have hand := and_gen x y (by omega) (by omega)
          have hlt8 : x &&& y < 8 := Nat.lt_of_le_of_lt Nat.and_le_left hxt
          obtain ⟨q, hq⟩ : ∃ q, x &&& y = q := ⟨_, rfl⟩
          rw [hq] at hand hlt8
          obtain ⟨u0, u1⟩ := g3.at hlt8
          have HQ := hide hq
          clear g1 g2 g3 hb hhy hq
          cases fx with
          | false =>
            go_wp2_with fail
            go_roundw
            case rel => exact ⟨y + 1, by omega, by go_num, G1.out, G2.out, by rw [crX_no (by rw [HFX.out]; rfl)]; exact G3.out, HB.out⟩
            case measure => simp only [intOf]; omega
          | true =>
            cases hy' with
            | false =>
              go_wp2_with fail
              go_roundw
              case rel => exact ⟨y + 1, by omega, by go_num, G1.out, G2.out, by rw [crX_no (by rw [HHY.out]; simp)]; exact G3.out, HB.out⟩
              case measure => simp only [intOf]; omega
            | true =>
              go_wp2_with fail
              go_roundw
              case rel => exact ⟨y + 1, by omega, by go_num, (Below.heap_setCell _ ⟨w.heap.size + 1 + 1 + 1, q, none⟩ _ _ (show w.heap.size + 1 ≠ w.heap.size + 1 + 1 + 1 by omega)).trans G1.out, (Below.heap_setCell _ ⟨w.heap.size + 1 + 1 + 1, q, none⟩ _ _ (show w.heap.size + 1 + 1 ≠ w.heap.size + 1 + 1 + 1 by omega)).trans G2.out, by rw [crX_yes HFX.out HHY.out, HQ.out]; exact G3.out.put hlt8, HB.out.setCell (p := ⟨w.heap.size + 1 + 1 + 1, q, none⟩) (by show w.heap.size ≤ w.heap.size + 1 + 1 + 1; omega) _⟩
              case measure => simp only [intOf]; omega
        · obtain rfl : y = 8 := by omega
          clear g1 g2 g3 hb
          go_wp2_with fail
          go_roundw
          case rel => exact ⟨x + 1, by omega, by go_num, G1.out, G2.out, by rw [crX_end]; exact G3.out, HB.out⟩
          case measure => simp only [intOf]; omega
    · obtain rfl : x = 8 := by omega
      obtain ⟨_, c0, c1, c2, c3, c4, c5, c6, c7⟩ := Tab.of (f := crI f h 8) g3
      have r0 := cell_of_block g2 0
      have r1 := cell_of_block g2 1
      have r2 := cell_of_block g2 2
      have r3 := cell_of_block g2 3
      have r4 := cell_of_block g2 4
      have r5 := cell_of_block g2 5
      have r6 := cell_of_block g2 6
      have r7 := cell_of_block g2 7
      have fz := free_blk g2
      have HR := hide g2
      have HB := hide hb
      clear g1 g2 g3 hb
      simp at r0 r1 r2 r3 r4 r5 r6 r7
      go_wp2
      exact bodyPost_ret (v := .agg #[Value.bool ((crF f h) 0), Value.bool ((crF f h) 1), Value.bool ((crF f h) 2), Value.bool ((crF f h) 3), Value.bool ((crF f h) 4), Value.bool ((crF f h) 5), Value.bool ((crF f h) 6), Value.bool ((crF f h) 7)]) (ret_set (p := 4) rfl _ _ (w.heap.size + 1 + 1) _ _ _ _ _ _ _ _ _ rfl (set8_blk HR.out _ _ _ _ _ _ _ _)) rfl ⟨rfl, set8_below HB.out (by omega) _ _ _ _ _ _ _ _⟩
end Go.Proofs.Ytklgganapphioaa
