/- Groups that win for the answers of a part, and what they have in common: the model's walk. -/
import Derived.Test.YtklgganapphioaaLdB
import Derived.Test.YtklgganapphioaaRule
namespace Go.Proofs.Ytklgganapphioaa
open Go.RowKit Go.Joins

/-- whether a group wins for the answer of a part to an issue -/
def winB (v : Nat) (ws : List Int) (m : Nat × Nat) (j x : Nat) : Bool := if bitN m.2 j = 0 then bitN (ws.getD j 0).toNat (2 ^ v - 1 - x) == 0 else bitN (ws.getD j 0).toNat x == 1
/-- whether groups that win for all answers from an issue on have a voter in common with a group -/
def mtK (v : Nat) (ws : List Int) (m : Nat × Nat) : Nat → Nat → Nat → Bool
  | 0, _, c => decide (0 < c)
  | k + 1, j, c => if bitN m.1 j = 0 then mtK v ws m k (j + 1) c else (List.range (2 ^ v)).all fun x => !winB v ws m j x || mtK v ws m k (j + 1) (c &&& x)
theorem mtK_skip {v : Nat} {ws : List Int} {m : Nat × Nat} {k j c : Nat} (h : bitN m.1 j = 0) : mtK v ws m (k + 1) j c = mtK v ws m k (j + 1) c := by rw [mtK, if_pos h]
theorem mtK_no {v : Nat} {ws : List Int} {m : Nat × Nat} {k j c x : Nat} (h : bitN m.1 j = 1) (hx : x < 2 ^ v) (hw : winB v ws m j x = true) (hm : mtK v ws m k (j + 1) (c &&& x) = false) : mtK v ws m (k + 1) j c = false := by
  rw [mtK, if_neg (by rw [h]; decide), List.all_eq_false]
  exact ⟨x, List.mem_range.2 hx, by rw [hw, hm]; decide⟩
theorem mtK_yes {v : Nat} {ws : List Int} {m : Nat × Nat} {k j c : Nat} (h : bitN m.1 j = 1) (ha : ∀ x, x < 2 ^ v → (!winB v ws m j x || mtK v ws m k (j + 1) (c &&& x)) = true) : mtK v ws m (k + 1) j c = true := by
  rw [mtK, if_neg (by rw [h]; decide), List.all_eq_true]
  exact fun x hx => ha x (List.mem_range.1 hx)
/-- the three variables of a call -/
def MV (w : World) (N : Nat) (a : Option Addr) (zn cap v : Nat) (b : Option Addr) (ws : List Int) (capb : Nat) (m : Nat × Nat) (wx : World) : Prop :=
  (wx.cell? ⟨w.heap.size, 0, none⟩ = some (.int .i64 (N : Int)) ∧ wx.cell? ⟨w.heap.size, 1, none⟩ = some (.slice a zn cap)) ∧ (wx.cell? ⟨w.heap.size + 1, 0, none⟩ = some (.int .i64 (v : Int)) ∧ wx.cell? ⟨w.heap.size + 1, 1, none⟩ = some (.slice b N capb)) ∧
  (wx.cell? ⟨w.heap.size + 2, 0, none⟩ = some (.int .i64 (m.1 : Int)) ∧ wx.cell? ⟨w.heap.size + 2, 1, none⟩ = some (.int .i64 (m.2 : Int))) ∧ Ints wx b ws ∧ Below w.heap.size w wx
theorem MV.below {w : World} {N : Nat} {a : Option Addr} {zn cap v : Nat} {b : Option Addr} {ws : List Int} {capb : Nat} {m : Nat × Nat} {wx wy : World} (h : MV w N a zn cap v b ws capb m wx) (hb : Below wx.heap.size wx wy) : MV w N a zn cap v b ws capb m wy := by
  obtain ⟨⟨h1, h2⟩, ⟨h3, h4⟩, ⟨h5, h6⟩, h7, h8⟩ := h
  have k : ∀ (p : Addr) (u : Value), wx.cell? p = some u → wy.cell? p = some u := fun p u h => (hb.cell (p := p) (World.block_lt_of_cell? _ _ h)).trans h
  exact ⟨⟨k _ _ h1, k _ _ h2⟩, ⟨k _ _ h3, k _ _ h4⟩, ⟨k _ _ h5, k _ _ h6⟩, h7.below hb, bnext h8 hb⟩
theorem MV.new (w : World) (N : Nat) (a : Option Addr) (zn cap v : Nat) (b : Option Addr) (ws : List Int) (capb : Nat) (m : Nat × Nat) (hi : Ints w b ws) :
    MV w N a zn cap v b ws capb m (((w.alloc (.cells #[.int .i64 (N : Int), .slice a zn cap] 28)).alloc (.cells #[.int .i64 (v : Int), .slice b N capb] 46)).alloc (.cells #[.int .i64 (m.1 : Int), .int .i64 (m.2 : Int)] 52)) := by
  have h0 := heap_alloc_new w (.cells #[.int .i64 (N : Int), .slice a zn cap] 28)
  have h1 := heap_alloc_new (w.alloc (.cells #[.int .i64 (N : Int), .slice a zn cap] 28)) (.cells #[.int .i64 (v : Int), .slice b N capb] 46)
  have h2 := heap_alloc_new ((w.alloc (.cells #[.int .i64 (N : Int), .slice a zn cap] 28)).alloc (.cells #[.int .i64 (v : Int), .slice b N capb] 46)) (.cells #[.int .i64 (m.1 : Int), .int .i64 (m.2 : Int)] 52)
  have b1 := bel1 ((w.alloc (.cells #[.int .i64 (N : Int), .slice a zn cap] 28)).alloc (.cells #[.int .i64 (v : Int), .slice b N capb] 46)) (.cells #[.int .i64 (m.1 : Int), .int .i64 (m.2 : Int)] 52)
  have b2 := bel2 (w.alloc (.cells #[.int .i64 (N : Int), .slice a zn cap] 28)) (.cells #[.int .i64 (v : Int), .slice b N capb] 46) (.cells #[.int .i64 (m.1 : Int), .int .i64 (m.2 : Int)] 52)
  have b3 := bnext (bel1 w (.cells #[.int .i64 (N : Int), .slice a zn cap] 28)) b2
  have g0 := (b2.block w.heap.size (by simp)).trans h0
  simp only [World.size_alloc] at h1 h2
  have g1 := (b1.block (w.heap.size + 1) (by simp)).trans h1
  exact ⟨⟨cell_of_block g0 0, cell_of_block g0 1⟩, ⟨cell_of_block g1 0, cell_of_block g1 1⟩, ⟨cell_of_block h2 0, cell_of_block h2 1⟩, hi.below b3, b3⟩
theorem bit8_int (a j r : Nat) (y : Int) (w : World) (hy : y = (j : Int)) (ha : a < 65536) (hj : j ≤ 8) (h : bitN a j = r) : Calls Try.prog 80 #[.int .i64 a, .int .i64 y] w fun e w' => e = .returned (.int .i64 (r : Nat)) ∧ w = w' := by
  subst h hy
  exact bit8_any a j w ha hj

set_option maxHeartbeats 8000000 in
set_option maxRecDepth 100000 in
theorem meets_any (N zn cap v capb : Nat) (a b : Option Addr) (ws : List Int) (mc mb : Nat) (hv : 1 ≤ v ∧ v ≤ 3) (hN : N ≤ 4) (hl : ws.length = N) (hr : ∀ x ∈ ws, 0 ≤ x ∧ x ≤ 255) (hm : mc < 16 ∧ mb < 16) :
    ∀ (k j c : Nat) (y z : Int) (w : World), j + k = N → c < 8 → y = (j : Int) → z = (c : Int) → Ints w b ws →
    Calls Try.prog 87 #[.agg #[.int .i64 (N : Int), .slice a zn cap], .agg #[.int .i64 (v : Int), .slice b N capb], .agg #[.int .i64 (mc : Int), .int .i64 (mb : Int)], .int .i64 y, .int .i64 z] w fun e w' => e = .returned (.bool (mtK v ws (mc, mb) k j c)) ∧ Below w.heap.size w w'
  | 0, j, c, y, z, w, hj, hc, hy, hz, hi => by
    obtain rfl : j = N := by omega
    subst hy hz
    obtain ⟨⟨c0, c1⟩, ⟨d0, d1⟩, ⟨e0, e1⟩, _, hB⟩ := MV.new w j a zn cap v b ws capb (mc, mb) hi
    simp only at e0 e1
    have heq : ((j : Int) == (j : Int)) = true := by simp
    have HB := hide hB
    have hg : decide ((0 : Int) < (c : Int)) = decide (0 < c) := by simp
    have HG := hide hg
    clear hB hi hg
    go_enter Try.func87, Try.ntmps87
    go_wp2_with fail
    go_ret
    exact ⟨ret_bool (by rw [mtK]), HB.out⟩
  | k + 1, j, c, y, z, w, hj, hc, hy, hz, hi => by
    subst hy hz
    have ih := fun (c' : Nat) (y z : Int) (w : World) => meets_any N zn cap v capb a b ws mc mb hv hN hl hr hm k (j + 1) c' y z w (by omega)
    have IH := hide ih
    have HM := MV.new w N a zn cap v b ws capb (mc, mb) hi
    have HMV := hide HM
    obtain ⟨⟨c0, c1⟩, ⟨d0, d1⟩, ⟨e0, e1⟩, _, _⟩ := HM
    simp only at e0 e1
    have hne : ((j : Int) == (N : Int)) = false := by simp; omega
    have HR := hide hr
    have HL := hide hl
    obtain ⟨bc, hbc⟩ : ∃ bc, bitN mc j = bc := ⟨_, rfl⟩
    have lbc := bitN_le mc j
    rw [hbc] at lbc
    have HBC := hide hbc
    have hm1 := hm.1
    have hm2 := hm.2
    clear hi hr hl hbc ih
    rcases (show bc = 0 ∨ bc = 1 from by omega) with rfl | rfl
    · have HS := hide (mtK_skip (v := v) (ws := ws) (m := (mc, mb)) (k := k) (j := j) (c := c) HBC.out)
      go_enter Try.func87, Try.ntmps87
      go_wp2_with (go_at_call 80; refine (bit8_was mc j 0 _ (by omega) (by omega) HBC.out).mono ?_; rintro e w' ⟨rfl, rfl⟩)
      refine (IH.out c _ _ _ hc (by first | rfl | omega) rfl HMV.out.2.2.2.1).mono ?_
      rintro e w2 ⟨rfl, b2⟩
      go_wp2_with fail
      go_ret
      exact ⟨ret_bool HS.out.symm, (HMV.out.below b2).2.2.2.2⟩
    · obtain ⟨Q, hQ⟩ : ∃ Q, 2 ^ v = Q := ⟨_, rfl⟩
      have hQ8 : Q ≤ 8 := by
        rw [← hQ]
        have : 2 ^ v ≤ 2 ^ 3 := Nat.pow_le_pow_right (by omega) hv.2
        omega
      have hQ1 : 1 ≤ Q := by rw [← hQ]; exact Nat.two_pow_pos v
      have hjl : j < ws.length := by rw [HL.out]; omega
      obtain ⟨wj, hwj⟩ : ∃ wj : Nat, ws.getD j 0 = (wj : Int) := ⟨(ws.getD j 0).toNat, by
        have := HR.out _ (List.getElem_mem hjl)
        rw [getD_lt hjl]
        omega⟩
      have hw8 : wj < 256 := by
        have := HR.out _ (List.getElem_mem hjl)
        rw [← getD_lt hjl, hwj] at this
        omega
      have HW : Hid (∀ x, winB v ws (mc, mb) j x = if bitN mb j = 0 then bitN wj (Q - 1 - x) == 0 else bitN wj x == 1) := fun x => by
        unfold winB
        rw [hwj, hQ, Int.toNat_natCast]
      have NO : Hid (∀ x, x < Q → winB v ws (mc, mb) j x = true → mtK v ws (mc, mb) k (j + 1) (c &&& x) = false → mtK v ws (mc, mb) (k + 1) j c = false) := fun x hx hw hm => mtK_no HBC.out (by rw [hQ]; exact hx) hw hm
      have YES : Hid ((∀ x, x < Q → (!winB v ws (mc, mb) j x || mtK v ws (mc, mb) k (j + 1) (c &&& x)) = true) → mtK v ws (mc, mb) (k + 1) j c = true) := fun h => mtK_yes HBC.out fun x hx => h x (by rw [← hQ]; exact hx)
      have HQ := hide hQ
      have HWJ := hide hwj
      have hv8 : v ≤ 8 := by omega
      clear hQ hwj
      obtain ⟨bb, hbb⟩ : ∃ bb, bitN mb j = bb := ⟨_, rfl⟩
      have lbb := bitN_le mb j
      rw [hbb] at lbb
      have HBB := hide hbb
      clear hbb
      go_enter Try.func87, Try.ntmps87
      go_wp2_with (first
        | (go_at_call 80; refine (bit8_was mc j 1 _ (by omega) (by omega) HBC.out).mono ?_; rintro e w' ⟨rfl, rfl⟩)
        | (go_at_call 88; refine (power8_was v Q _ hv8 HQ.out).mono ?_; rintro e w' ⟨rfl, rfl⟩))
      clear c0 c1 d0 d1 e0 e1
      go_loopw [12] (fun i wr => ∃ g : Nat, g ≤ Q ∧ i = .int .i64 g ∧ Hid (∀ x, x < g → (!winB v ws (mc, mb) j x || mtK v ws (mc, mb) k (j + 1) (c &&& x)) = true) ∧ MV w N a zn cap v b ws capb (mc, mb) wr) (fun i _ => Q - (intOf i).toNat)
      case atStart => exact ⟨0, Nat.zero_le _, rfl, fun x hx => by omega, HMV.out⟩
      case round =>
        clear HMV
        obtain ⟨g, hg, rfl, hall, HM⟩ := hrel
        have HMV := hide HM
        obtain ⟨⟨c0, c1⟩, ⟨d0, d1⟩, ⟨e0, e1⟩, ib, _⟩ := HM
        simp only at e0 e1
        by_cases hgt : g < Q
        · have hle : decide ((g : Int) ≤ (Q : Int) - 1) = true := by simp; omega
          obtain ⟨bw, ow, rfl, _, hcell⟩ := ib (by omega)
          have x1 := hcell j hjl
          rw [HWJ.out] at x1
          have hand := andL c g (by omega) (by omega)
          have hcg : c &&& g < 8 := Nat.lt_of_le_of_lt Nat.and_le_left hc
          have hw := HW.out g
          rw [HBB.out] at hw
          have NO' : Hid (winB v ws (mc, mb) j g = true → mtK v ws (mc, mb) k (j + 1) (c &&& g) = false → mtK v ws (mc, mb) (k + 1) j c = false) := NO.out g hgt
          have NXT : Hid ((!winB v ws (mc, mb) j g || mtK v ws (mc, mb) k (j + 1) (c &&& g)) = true → ∀ x, x < g + 1 → (!winB v ws (mc, mb) j x || mtK v ws (mc, mb) k (j + 1) (c &&& x)) = true) := fun h x hx => by
            rcases Nat.lt_or_ge x g with h1 | h1
            · exact hall.out x h1
            · obtain rfl : x = g := by omega
              exact h
          obtain ⟨eg, heg⟩ : ∃ eg, bitN wj g = eg := ⟨_, rfl⟩
          obtain ⟨eo, heo⟩ : ∃ eo, bitN wj (Q - 1 - g) = eo := ⟨_, rfl⟩
          have leg := bitN_le wj g
          have leo := bitN_le wj (Q - 1 - g)
          rw [heg] at leg hw
          rw [heo] at leo hw
          have HEG := hide heg
          have HEO := hide heo
          obtain ⟨cg, hcgv⟩ : ∃ cg, c &&& g = cg := ⟨_, rfl⟩
          rw [hcgv] at hand hcg NO' NXT
          obtain ⟨mr, hmr⟩ : ∃ mr, mtK v ws (mc, mb) k (j + 1) cg = mr := ⟨_, rfl⟩
          rw [hmr] at NO' NXT
          have HMR := hide hmr
          have HAND := hide hand
          clear hcell ib hall heg heo hcgv hmr hand
          rcases (show bb = 0 ∨ bb = 1 from by omega) with rfl | rfl
          · rcases (show eo = 0 ∨ eo = 1 from by omega) with rfl | rfl
            · have HWIN := hide (show winB v ws (mc, mb) j g = true from by rw [hw]; simp)
              clear hw
              go_wp2_with (first
              | (go_at_call 80; (first
                  | with_reducible refine (bit8_int mb j 0 _ _ (by omega) (by omega) (by omega) HBB.out).mono ?_
                  | with_reducible refine (bit8_int wj g eg _ _ (by omega) (by omega) (by omega) HEG.out).mono ?_
                  | with_reducible refine (bit8_int wj (Q - 1 - g) 0 _ _ (by omega) (by omega) (by omega) HEO.out).mono ?_); rintro e w' ⟨rfl, rfl⟩))
              rw [HAND.out]
              refine (IH.out cg _ _ _ hcg (by first | rfl | omega) rfl HMV.out.2.2.2.1).mono ?_
              rintro e w2 ⟨rfl, b2⟩
              rw [HMR.out]
              have HM2 := hide (HMV.out.below b2)
              clear b2 c0 c1 d0 d1 e0 e1 x1 HMV
              cases mr with
              | false =>
                go_wp2_with fail
                go_ret
                exact ⟨ret_bool (NO'.out HWIN.out (by first | trivial | rfl)).symm, HM2.out.2.2.2.2⟩
              | true =>
                go_wp2_with fail
                go_roundw
                case rel => exact ⟨g + 1, by omega, by go_num, NXT.out (by rw [HWIN.out]; simp), HM2.out⟩
                case measure => simp only [intOf]; omega
            · have HWIN := hide (show winB v ws (mc, mb) j g = false from by rw [hw]; simp)
              clear hw
              go_wp2_with (first
              | (go_at_call 80; (first
                  | with_reducible refine (bit8_int mb j 0 _ _ (by omega) (by omega) (by omega) HBB.out).mono ?_
                  | with_reducible refine (bit8_int wj g eg _ _ (by omega) (by omega) (by omega) HEG.out).mono ?_
                  | with_reducible refine (bit8_int wj (Q - 1 - g) 1 _ _ (by omega) (by omega) (by omega) HEO.out).mono ?_); rintro e w' ⟨rfl, rfl⟩))
              go_roundw
              case rel => exact ⟨g + 1, by omega, by go_num, NXT.out (by rw [HWIN.out]; simp), HMV.out⟩
              case measure => simp only [intOf]; omega
          · rcases (show eg = 0 ∨ eg = 1 from by omega) with rfl | rfl
            · have HWIN := hide (show winB v ws (mc, mb) j g = false from by rw [hw]; simp)
              clear hw
              go_wp2_with (first
              | (go_at_call 80; (first
                  | with_reducible refine (bit8_int mb j 1 _ _ (by omega) (by omega) (by omega) HBB.out).mono ?_
                  | with_reducible refine (bit8_int wj g 0 _ _ (by omega) (by omega) (by omega) HEG.out).mono ?_
                  | with_reducible refine (bit8_int wj (Q - 1 - g) eo _ _ (by omega) (by omega) (by omega) HEO.out).mono ?_); rintro e w' ⟨rfl, rfl⟩))
              go_roundw
              case rel => exact ⟨g + 1, by omega, by go_num, NXT.out (by rw [HWIN.out]; simp), HMV.out⟩
              case measure => simp only [intOf]; omega
            · have HWIN := hide (show winB v ws (mc, mb) j g = true from by rw [hw]; simp)
              clear hw
              go_wp2_with (first
              | (go_at_call 80; (first
                  | with_reducible refine (bit8_int mb j 1 _ _ (by omega) (by omega) (by omega) HBB.out).mono ?_
                  | with_reducible refine (bit8_int wj g 1 _ _ (by omega) (by omega) (by omega) HEG.out).mono ?_
                  | with_reducible refine (bit8_int wj (Q - 1 - g) eo _ _ (by omega) (by omega) (by omega) HEO.out).mono ?_); rintro e w' ⟨rfl, rfl⟩))
              rw [HAND.out]
              refine (IH.out cg _ _ _ hcg (by first | rfl | omega) rfl HMV.out.2.2.2.1).mono ?_
              rintro e w2 ⟨rfl, b2⟩
              rw [HMR.out]
              have HM2 := hide (HMV.out.below b2)
              clear b2 c0 c1 d0 d1 e0 e1 x1 HMV
              cases mr with
              | false =>
                go_wp2_with fail
                go_ret
                exact ⟨ret_bool (NO'.out HWIN.out (by first | trivial | rfl)).symm, HM2.out.2.2.2.2⟩
              | true =>
                go_wp2_with fail
                go_roundw
                case rel => exact ⟨g + 1, by omega, by go_num, NXT.out (by rw [HWIN.out]; simp), HM2.out⟩
                case measure => simp only [intOf]; omega
        · obtain rfl : g = Q := by omega
          have hle : decide ((g : Int) ≤ (g : Int) - 1) = false := by simp; omega
          go_wp2_with fail
          go_ret
          exact ⟨ret_bool (YES.out hall.out).symm, HMV.out.2.2.2.2⟩
end Go.Proofs.Ytklgganapphioaa
