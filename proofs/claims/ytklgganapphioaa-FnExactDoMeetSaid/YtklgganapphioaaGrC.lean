/- The groups that agree on the answers of a part, in the program: commonGroups. -/
import Derived.Test.YtklgganapphioaaGrp
import Derived.Test.YtklgganapphioaaLdB
namespace Go.Proofs.Ytklgganapphioaa
open Go.RowKit Go.Joins

/-- the groups that win for the answer of a part to an issue -/
def wnF (v : Int) (ws : List Int) (m : Nat × Nat) (j : Nat) : Nat → Bool := if bitN m.2 j = 0 then upT v (oppF v (upT v (winF (ws.getD j 0)))) else upT v (winF (ws.getD j 0))
/-- what groups that win for the answers of a part to the first issues have in common -/
def cgK (v : Int) (ws : List Int) (m : Nat × Nat) : Nat → Nat → Bool
  | 0 => fun q => false || ((pw v - 1).toNat == q)
  | j + 1 => if bitN m.1 j = 0 then cgK v ws m j else crF (cgK v ws m j) (wnF v ws m j)
theorem cgK_no {v : Int} {ws : List Int} {m : Nat × Nat} {j : Nat} (h : bitN m.1 j = 0) : cgK v ws m (j + 1) = cgK v ws m j := by rw [cgK, if_pos h]
theorem cgK_yes {v : Int} {ws : List Int} {m : Nat × Nat} {j : Nat} (h : bitN m.1 j = 1) : cgK v ws m (j + 1) = crF (cgK v ws m j) (wnF v ws m j) := by rw [cgK, if_neg (by rw [h]; decide)]
theorem wnF_opp {v : Int} {ws : List Int} {m : Nat × Nat} {j : Nat} (h : bitN m.2 j = 0) : wnF v ws m j = upT v (oppF v (upT v (winF (ws.getD j 0)))) := by rw [wnF, if_pos h]
theorem wnF_own {v : Int} {ws : List Int} {m : Nat × Nat} {j : Nat} (h : bitN m.2 j = 1) : wnF v ws m j = upT v (winF (ws.getD j 0)) := by rw [wnF, if_neg (by rw [h]; decide)]
theorem setE (E : Nat) (hE : E < 8) : ([.bool false, .bool false, .bool false, .bool false, .bool false, .bool false, .bool false, .bool false].set E (.bool true) : List Value).toArray = #[Value.bool ((fun q => false || (E == q)) 0), Value.bool ((fun q => false || (E == q)) 1), Value.bool ((fun q => false || (E == q)) 2), Value.bool ((fun q => false || (E == q)) 3), Value.bool ((fun q => false || (E == q)) 4), Value.bool ((fun q => false || (E == q)) 5), Value.bool ((fun q => false || (E == q)) 6), Value.bool ((fun q => false || (E == q)) 7)] := by
  rcases (show E = 0 ∨ E = 1 ∨ E = 2 ∨ E = 3 ∨ E = 4 ∨ E = 5 ∨ E = 6 ∨ E = 7 from by omega) with rfl | rfl | rfl | rfl | rfl | rfl | rfl | rfl <;> simp
theorem GB.cells {w : World} {g : Nat} {F : Nat → Bool} (h : GB w g F) : Tab w g F := Tab.of (f := F) h
set_option maxHeartbeats 4000000 in
set_option maxRecDepth 100000 in
theorem commonGroups_any (v : Int) (b : Option Addr) (ws : List Int) (capb : Nat) (mc mb : Nat) (w : World) (hv : 1 ≤ v ∧ v ≤ 3) (hi : Ints w b ws) (hl : ws.length ≤ 4) (hr : ∀ x ∈ ws, 0 ≤ x ∧ x ≤ 255) (hm : mc < 16 ∧ mb < 16) :
    Calls Try.prog 91 #[.agg #[.int .i64 v, .slice b ws.length capb], .agg #[.int .i64 (mc : Int), .int .i64 (mb : Int)]] w fun e w' => e = .returned (.agg #[Value.bool ((cgK v ws (mc, mb) ws.length) 0), Value.bool ((cgK v ws (mc, mb) ws.length) 1), Value.bool ((cgK v ws (mc, mb) ws.length) 2), Value.bool ((cgK v ws (mc, mb) ws.length) 3), Value.bool ((cgK v ws (mc, mb) ws.length) 4), Value.bool ((cgK v ws (mc, mb) ws.length) 5), Value.bool ((cgK v ws (mc, mb) ws.length) 6), Value.bool ((cgK v ws (mc, mb) ws.length) 7)]) ∧ Below w.heap.size w w' := by
  have h0 := new_blk w #[.int .i64 v, .slice b ws.length capb] 46
  have h1 := new_blk (w.alloc (.cells #[.int .i64 v, .slice b ws.length capb] 46)) #[.int .i64 (mc : Int), .int .i64 (mb : Int)] 52
  have h2 := new_blk ((w.alloc (.cells #[.int .i64 v, .slice b ws.length capb] 46)).alloc (.cells #[.int .i64 (mc : Int), .int .i64 (mb : Int)] 52)) #[.bool false, .bool false, .bool false, .bool false, .bool false, .bool false, .bool false, .bool false] 81
  have h3 := new_blk (((w.alloc (.cells #[.int .i64 v, .slice b ws.length capb] 46)).alloc (.cells #[.int .i64 (mc : Int), .int .i64 (mb : Int)] 52)).alloc (.cells #[.bool false, .bool false, .bool false, .bool false, .bool false, .bool false, .bool false, .bool false] 81)) #[.bool false, .bool false, .bool false, .bool false, .bool false, .bool false, .bool false, .bool false] 81
  simp only [World.size_alloc] at h1 h2 h3
  have b3 := bel1 (((w.alloc (.cells #[.int .i64 v, .slice b ws.length capb] 46)).alloc (.cells #[.int .i64 (mc : Int), .int .i64 (mb : Int)] 52)).alloc (.cells #[.bool false, .bool false, .bool false, .bool false, .bool false, .bool false, .bool false, .bool false] 81)) (.cells #[.bool false, .bool false, .bool false, .bool false, .bool false, .bool false, .bool false, .bool false] 81)
  have b2 := bnext (bel1 ((w.alloc (.cells #[.int .i64 v, .slice b ws.length capb] 46)).alloc (.cells #[.int .i64 (mc : Int), .int .i64 (mb : Int)] 52)) (.cells #[.bool false, .bool false, .bool false, .bool false, .bool false, .bool false, .bool false, .bool false] 81)) b3
  have b1 := bnext (bel1 (w.alloc (.cells #[.int .i64 v, .slice b ws.length capb] 46)) (.cells #[.int .i64 (mc : Int), .int .i64 (mb : Int)] 52)) b2
  have b0 := bnext (bel1 w (.cells #[.int .i64 v, .slice b ws.length capb] 46)) b1
  have g0 := blk_below h0 b1
  have g1 := blk_below h1 b2
  have g2 := blk_below h2 b3
  have G3 : GB _ (w.heap.size + 1 + 1 + 1) (fun _ => false) := h3
  have i4 := hi.below b0
  have hW4 : (((((w.alloc (.cells #[.int .i64 v, .slice b ws.length capb] 46)).alloc (.cells #[.int .i64 (mc : Int), .int .i64 (mb : Int)] 52)).alloc (.cells #[.bool false, .bool false, .bool false, .bool false, .bool false, .bool false, .bool false, .bool false] 81)).alloc (.cells #[.bool false, .bool false, .bool false, .bool false, .bool false, .bool false, .bool false, .bool false] 81))).heap.size = w.heap.size + 1 + 1 + 1 + 1 := by simp
  have HV := hide (isVoters hv)
  have p1 := pw_pos v
  have p2 := pw_le3 v hv.2
  have hE : 0 ≤ pw v - 1 ∧ pw v - 1 < 8 := by omega
  obtain ⟨E, hEE⟩ : ∃ E : Nat, pw v - 1 = (E : Int) := ⟨(pw v - 1).toNat, by omega⟩
  have hE8 : E < 8 := by omega
  obtain ⟨u0, u1⟩ := G3.at hE8
  obtain ⟨c0, c1⟩ := And.intro (cell_of_block g0 0) (cell_of_block g0 1)
  clear h3 b3 b2 b1 b0 g0 g1 g2 G3
  go_enter Try.func91, Try.ntmps91
  go_wp2_with (go_at_call 125; refine (everybody_any _ _ HV.out).mono ?_; rintro e w' ⟨rfl, rfl⟩; rw [hEE])
  rw [setE E hE8]
  obtain ⟨W4, hW⟩ : ∃ W4 : World, W4 = ((((w.alloc (.cells #[.int .i64 v, .slice b ws.length capb] 46)).alloc (.cells #[.int .i64 (mc : Int), .int .i64 (mb : Int)] 52)).alloc (.cells #[.bool false, .bool false, .bool false, .bool false, .bool false, .bool false, .bool false, .bool false] 81)).alloc (.cells #[Value.bool ((fun q => false || (E == q)) 0), Value.bool ((fun q => false || (E == q)) 1), Value.bool ((fun q => false || (E == q)) 2), Value.bool ((fun q => false || (E == q)) 3), Value.bool ((fun q => false || (E == q)) 4), Value.bool ((fun q => false || (E == q)) 5), Value.bool ((fun q => false || (E == q)) 6), Value.bool ((fun q => false || (E == q)) 7)] 81)) := ⟨_, rfl⟩
  have y3 := bel1 (((w.alloc (.cells #[.int .i64 v, .slice b ws.length capb] 46)).alloc (.cells #[.int .i64 (mc : Int), .int .i64 (mb : Int)] 52)).alloc (.cells #[.bool false, .bool false, .bool false, .bool false, .bool false, .bool false, .bool false, .bool false] 81)) (.cells #[Value.bool ((fun q => false || (E == q)) 0), Value.bool ((fun q => false || (E == q)) 1), Value.bool ((fun q => false || (E == q)) 2), Value.bool ((fun q => false || (E == q)) 3), Value.bool ((fun q => false || (E == q)) 4), Value.bool ((fun q => false || (E == q)) 5), Value.bool ((fun q => false || (E == q)) 6), Value.bool ((fun q => false || (E == q)) 7)] 81)
  have y2 := bnext (bel1 ((w.alloc (.cells #[.int .i64 v, .slice b ws.length capb] 46)).alloc (.cells #[.int .i64 (mc : Int), .int .i64 (mb : Int)] 52)) (.cells #[.bool false, .bool false, .bool false, .bool false, .bool false, .bool false, .bool false, .bool false] 81)) y3
  have y1 := bnext (bel1 (w.alloc (.cells #[.int .i64 v, .slice b ws.length capb] 46)) (.cells #[.int .i64 (mc : Int), .int .i64 (mb : Int)] 52)) y2
  have b0 := bnext (bel1 w (.cells #[.int .i64 v, .slice b ws.length capb] 46)) y1
  have g0 := blk_below h0 y1
  have g1 := blk_below h1 y2
  have g2 := blk_below h2 y3
  have G3 : GB ((((w.alloc (.cells #[.int .i64 v, .slice b ws.length capb] 46)).alloc (.cells #[.int .i64 (mc : Int), .int .i64 (mb : Int)] 52)).alloc (.cells #[.bool false, .bool false, .bool false, .bool false, .bool false, .bool false, .bool false, .bool false] 81)).alloc (.cells #[Value.bool ((fun q => false || (E == q)) 0), Value.bool ((fun q => false || (E == q)) 1), Value.bool ((fun q => false || (E == q)) 2), Value.bool ((fun q => false || (E == q)) 3), Value.bool ((fun q => false || (E == q)) 4), Value.bool ((fun q => false || (E == q)) 5), Value.bool ((fun q => false || (E == q)) 6), Value.bool ((fun q => false || (E == q)) 7)] 81)) (w.heap.size + 1 + 1 + 1) (cgK v ws (mc, mb) 0) := by
    have h4 := new_blk (((w.alloc (.cells #[.int .i64 v, .slice b ws.length capb] 46)).alloc (.cells #[.int .i64 (mc : Int), .int .i64 (mb : Int)] 52)).alloc (.cells #[.bool false, .bool false, .bool false, .bool false, .bool false, .bool false, .bool false, .bool false] 81)) #[Value.bool ((fun q => false || (E == q)) 0), Value.bool ((fun q => false || (E == q)) 1), Value.bool ((fun q => false || (E == q)) 2), Value.bool ((fun q => false || (E == q)) 3), Value.bool ((fun q => false || (E == q)) 4), Value.bool ((fun q => false || (E == q)) 5), Value.bool ((fun q => false || (E == q)) 6), Value.bool ((fun q => false || (E == q)) 7)] 81
    simp only [World.size_alloc] at h4
    unfold GB cgK
    rw [hEE, Int.toNat_natCast]
    exact h4
  rw [← hW] at g0 g1 g2 G3 b0 ⊢
  have GS := hide G3
  have BS := hide (Below.refl (w.heap.size + 1 + 1 + 1) W4)
  have D0 := hide g0
  have D1 := hide g1
  have D2 := hide g2
  have B0 := hide b0
  have HI := hide hi
  have HR := hide hr
  have HVV := hide hv
  have hm1 := hm.1
  have hm2 := hm.2
  clear hW hW4 u0 u1 c0 c1 g0 g1 g2 G3 b0 i4 hi hr hEE hE8 hE hv h0 h1 h2 y3 y2 y1
  go_loopw [16] (fun i wr => ∃ j : Nat, j ≤ ws.length ∧ i = .int .i64 j ∧ GB wr (w.heap.size + 1 + 1 + 1) (cgK v ws (mc, mb) j) ∧ Below (w.heap.size + 1 + 1 + 1) W4 wr) (fun i _ => ws.length - (intOf i).toNat)
  case atStart => exact ⟨0, Nat.zero_le _, rfl, GS.out, BS.out⟩
  case round =>
    clear GS BS
    obtain ⟨j, hj, rfl, gt, hb⟩ := hrel
    have G5 := hide gt
    have HB := hide hb
    have d0 := (hb.block w.heap.size (by omega)).trans D0.out
    have d1 := (hb.block (w.heap.size + 1) (by omega)).trans D1.out
    have c0 := cell_of_block d0 0
    have c1 := cell_of_block d0 1
    have e0 := cell_of_block d1 0
    have e1 := cell_of_block d1 1
    have BW := hide (B0.out.trans (hb.mono (by omega)))
    have hsz := lt_blk gt
    clear d0 d1 hb gt
    by_cases hlt : j < ws.length
    · obtain ⟨bw, ow, rfl, _, hcell⟩ := (HI.out.below BW.out) (by omega)
      have x1 := hcell j hlt
      have hx := HR.out _ (List.getElem_mem hlt)
      rw [← getD_lt hlt] at hx
      obtain ⟨x, hxe⟩ : ∃ x, ws.getD j 0 = x := ⟨_, rfl⟩
      have FO := fun h => wnF_opp (v := v) (ws := ws) (m := (mc, mb)) (j := j) h
      have FW := fun h => wnF_own (v := v) (ws := ws) (m := (mc, mb)) (j := j) h
      rw [hxe] at x1 hx FO FW
      obtain ⟨ec, hec⟩ : ∃ ec, bitN mc j = ec := ⟨_, rfl⟩
      obtain ⟨eb, heb⟩ : ∃ eb, bitN mb j = eb := ⟨_, rfl⟩
      have l1 := bitN_le mc j
      have l2 := bitN_le mb j
      have s1 := shrL mc j (by omega)
      have s2 := shrL mb j (by omega)
      rw [hec] at l1 s1
      rw [heb] at l2 s2
      have HEC := hide hec
      have HEB := hide heb
      have HFO := hide FO
      have HFW := hide FW
      have HX := hide hx
      clear hcell hxe hec heb FO FW hx
      rcases (show ec = 0 ∨ ec = 1 from by omega) with rfl | rfl
      · go_wp2_with fail
        go_roundw
        case rel => exact ⟨j + 1, by omega, by go_num, by rw [cgK_no (show bitN (mc, mb).1 j = 0 from HEC.out)]; exact G5.out, HB.out⟩
        case measure => simp only [intOf]; omega
      · have HS := hide (cgK_yes (v := v) (ws := ws) (m := (mc, mb)) (j := j) HEC.out)
        go_wp2_with fail
        refine (winnersOf_any v x _ HVV.out HX.out).mono ?_
        rintro e w5 ⟨rfl, b5⟩
        have k8 := new_blk w5 #[Value.bool (upT v (winF x) 0), Value.bool (upT v (winF x) 1), Value.bool (upT v (winF x) 2), Value.bool (upT v (winF x) 3), Value.bool (upT v (winF x) 4), Value.bool (upT v (winF x) 5), Value.bool (upT v (winF x) 6), Value.bool (upT v (winF x) 7)] 81
        have bb := bnext b5 (bel1 w5 (.cells #[Value.bool (upT v (winF x) 0), Value.bool (upT v (winF x) 1), Value.bool (upT v (winF x) 2), Value.bool (upT v (winF x) 3), Value.bool (upT v (winF x) 4), Value.bool (upT v (winF x) 5), Value.bool (upT v (winF x) 6), Value.bool (upT v (winF x) 7)] 81))
        have g5 := (G5.out.below b5).below (bel1 w5 (.cells #[Value.bool (upT v (winF x) 0), Value.bool (upT v (winF x) 1), Value.bool (upT v (winF x) 2), Value.bool (upT v (winF x) 3), Value.bool (upT v (winF x) 4), Value.bool (upT v (winF x) 5), Value.bool (upT v (winF x) 6), Value.bool (upT v (winF x) 7)] 81))
        have q0 := (bb.cell (p := ⟨w.heap.size, 0, none⟩) (by show w.heap.size < wr.heap.size; omega)).trans c0
        have r0 := (bb.cell (p := ⟨w.heap.size + 1, 0, none⟩) (by show w.heap.size + 1 < wr.heap.size; omega)).trans e0
        have r1 := (bb.cell (p := ⟨w.heap.size + 1, 1, none⟩) (by show w.heap.size + 1 < wr.heap.size; omega)).trans e1
        have hs5 := b5.size
        have HB5 := hide (HB.out.trans (bb.mono (by omega)))
        have G6 := hide g5
        have K8 := hide k8
        clear c0 c1 e0 e1 bb b5 k8 x1 g5
        rcases (show eb = 0 ∨ eb = 1 from by omega) with rfl | rfl
        · have T8 := Tab.of (f := upT v (winF x)) K8.out
          obtain ⟨_, t80, t81, t82, t83, t84, t85, t86, t87⟩ := T8
          have HW0 := hide (HFO.out HEB.out)
          have hlt5 : w.heap.size + 1 + 1 + 1 < w5.heap.size := Nat.lt_of_lt_of_le hsz hs5
          have hn1 : ¬ (w.heap.size + 1 + 1 + 1 = w5.heap.size) := by omega
          have hn2 : ¬ (w5.heap.size = w.heap.size + 1 + 1 + 1) := by omega
          go_wp2_with fail
          clear t80 t81 t82 t83 t84 t85 t86 t87 q0 r0 r1
          refine (opposite_any v (upT v (winF x)) _ HVV.out).mono ?_
          rintro e w6 ⟨rfl, b6⟩
          have k6 := blk_below K8.out b6
          have g6 := G6.out.below b6
          obtain ⟨_, t80, t81, t82, t83, t84, t85, t86, t87⟩ := Tab.of (f := upT v (winF x)) k6
          obtain ⟨_, t50, t51, t52, t53, t54, t55, t56, t57⟩ := g6.cells
          have fz8 := free_blk k6
          have hw65 : w5.heap.size < w6.heap.size := lt_blk k6
          have HB6 := hide (HB5.out.trans (b6.mono (by simp; omega)))
          have G6' := hide g6
          clear b6 k6 g6 K8 G6
          go_wp2_with fail
          clear t80 t81 t82 t83 t84 t85 t86 t87 t50 t51 t52 t53 t54 t55 t56 t57
          refine (crossed_any (cgK v ws (mc, mb) j) (upT v (oppF v (upT v (winF x)))) _).mono ?_
          rintro e w7 ⟨rfl, b7⟩
          have s8 := fun x0 x1 x2 x3 x4 x5 x6 x7 => set8_below (Below.refl w5.heap.size w6) (g := w5.heap.size) (Nat.le_refl _) x0 x1 x2 x3 x4 x5 x6 x7
          have B8' := hide (s8 _ _ _ _ _ _ _ _ |>.trans (b7.mono (by simp; omega)))
          have g7 : GB w7 (w.heap.size + 1 + 1 + 1) (cgK v ws (mc, mb) j) := (B8'.out.block _ hlt5).trans G6'.out
          have HB7 := hide (HB6.out.trans (B8'.out.mono (by omega)))
          have p0 := cell_of_block g7 0
          have p1' := cell_of_block g7 1
          have p2' := cell_of_block g7 2
          have p3 := cell_of_block g7 3
          have p4 := cell_of_block g7 4
          have p5 := cell_of_block g7 5
          have p6 := cell_of_block g7 6
          have p7 := cell_of_block g7 7
          have fz := free_blk g7
          simp at p0 p1' p2' p3 p4 p5 p6 p7
          have G7 := hide g7
          clear b7 g7 G6' s8 B8' fz8
          go_wp2_with fail
          go_roundw
          case rel => exact ⟨j + 1, by omega, by go_num, by rw [HS.out, HW0.out]; exact set8_blk G7.out _ _ _ _ _ _ _ _, set8_below HB7.out (Nat.le_refl _) _ _ _ _ _ _ _ _⟩
          case measure => simp only [intOf]; omega
        · have T5 := G6.out.cells
          obtain ⟨_, t50, t51, t52, t53, t54, t55, t56, t57⟩ := T5
          have T8 := Tab.of (f := upT v (winF x)) K8.out
          obtain ⟨_, t80, t81, t82, t83, t84, t85, t86, t87⟩ := T8
          have HW1 := hide (HFW.out HEB.out)
          go_wp2_with fail
          clear t50 t51 t52 t53 t54 t55 t56 t57 t80 t81 t82 t83 t84 t85 t86 t87 q0 r0 r1
          refine (crossed_any (cgK v ws (mc, mb) j) (upT v (winF x)) _).mono ?_
          rintro e w7 ⟨rfl, b7⟩
          have g7 := G6.out.below b7
          have HB7 := hide (HB5.out.trans (b7.mono (by simp; omega)))
          have p0 := cell_of_block g7 0
          have p1' := cell_of_block g7 1
          have p2' := cell_of_block g7 2
          have p3 := cell_of_block g7 3
          have p4 := cell_of_block g7 4
          have p5 := cell_of_block g7 5
          have p6 := cell_of_block g7 6
          have p7 := cell_of_block g7 7
          have fz := free_blk g7
          simp at p0 p1' p2' p3 p4 p5 p6 p7
          have G7 := hide g7
          clear b7 g7 G6 K8
          go_wp2_with fail
          go_roundw
          case rel => exact ⟨j + 1, by omega, by go_num, by rw [HS.out, HW1.out]; exact set8_blk G7.out _ _ _ _ _ _ _ _, set8_below HB7.out (Nat.le_refl _) _ _ _ _ _ _ _ _⟩
          case measure => simp only [intOf]; omega
    · obtain rfl : j = ws.length := by omega
      have g2 := (HB.out.block (w.heap.size + 1 + 1) (by omega)).trans D2.out
      obtain ⟨_, t50, t51, t52, t53, t54, t55, t56, t57⟩ := G5.out.cells
      have r0 := cell_of_block g2 0
      have r1 := cell_of_block g2 1
      have r2 := cell_of_block g2 2
      have r3 := cell_of_block g2 3
      have r4 := cell_of_block g2 4
      have r5 := cell_of_block g2 5
      have r6 := cell_of_block g2 6
      have r7 := cell_of_block g2 7
      have fz := free_blk g2
      have HR2 := hide g2
      clear g2 c0 c1 e0 e1
      simp at r0 r1 r2 r3 r4 r5 r6 r7
      go_wp2
      exact bodyPost_ret (v := .agg #[Value.bool ((cgK v ws (mc, mb) ws.length) 0), Value.bool ((cgK v ws (mc, mb) ws.length) 1), Value.bool ((cgK v ws (mc, mb) ws.length) 2), Value.bool ((cgK v ws (mc, mb) ws.length) 3), Value.bool ((cgK v ws (mc, mb) ws.length) 4), Value.bool ((cgK v ws (mc, mb) ws.length) 5), Value.bool ((cgK v ws (mc, mb) ws.length) 6), Value.bool ((cgK v ws (mc, mb) ws.length) 7)]) (ret_set (p := 4) rfl _ _ (w.heap.size + 1 + 1) _ _ _ _ _ _ _ _ _ rfl (set8_blk HR2.out _ _ _ _ _ _ _ _)) rfl ⟨rfl, set8_below BW.out (by omega) _ _ _ _ _ _ _ _⟩
end Go.Proofs.Ytklgganapphioaa
