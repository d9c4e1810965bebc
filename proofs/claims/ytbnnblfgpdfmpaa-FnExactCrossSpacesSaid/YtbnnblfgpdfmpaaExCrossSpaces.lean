/- The law FnExactCrossSpaces answers true at every argument: its walk. -/
import Derived.Test.YtbnnblfgpdfmpaaCrossT
import Derived.Test.YtbnnblfgpdfmpaaSpLaw
import Derived.Test.YtbnnblfgpdfmpaaRead
import Derived.Deep.RegionHeld3
import Derived.Deep.RegionWith
import Derived.Deep.DeepCutAuto
namespace Go.Proofs.Ytbnnblfgpdfmpaa
open Go.RowKit Go.Joins

/-- two spaces in variables, beside others -/
def TW (w : World) (na : Int) (a : Option Addr) (xs : List Int) (ca : Nat) (nb : Int) (b : Option Addr) (ys : List Int) (cb : Nat) (wx : World) : Prop :=
  Box wx w.heap.size na a xs.length ca ∧ Box wx (w.heap.size + 1) nb b ys.length cb ∧ (Ints w a xs ∧ Ints w b ys) ∧ Below w.heap.size w wx
section
variable {w wx wy : World} {na nb : Int} {a b : Option Addr} {xs ys : List Int} {ca cb : Nat}
theorem TW.below (h : TW w na a xs ca nb b ys cb wx) (hb : Below wx.heap.size wx wy) : TW w na a xs ca nb b ys cb wy := ⟨h.1.below hb, h.2.1.below hb, h.2.2.1, bnext h.2.2.2 hb⟩
theorem tw_cells (h : TW w na a xs ca nb b ys cb wx) : wx.cell? ⟨w.heap.size, 0, none⟩ = some (.int .i64 na) ∧ wx.cell? ⟨w.heap.size, 1, none⟩ = some (.slice a xs.length ca) ∧ wx.cell? ⟨w.heap.size + 1, 0, none⟩ = some (.int .i64 nb) ∧ wx.cell? ⟨w.heap.size + 1, 1, none⟩ = some (.slice b ys.length cb) :=
  ⟨h.1.2.1, h.1.2.2, h.2.1.2.1, h.2.1.2.2⟩
theorem tw_ia (h : TW w na a xs ca nb b ys cb wx) : Ints wx a xs := h.2.2.1.1.below h.2.2.2
theorem tw_ib (h : TW w na a xs ca nb b ys cb wx) : Ints wx b ys := h.2.2.1.2.below h.2.2.2
theorem TW.kept {k : Option Nat} (h : TW w na a xs ca nb b ys cb wx) (hg : wx.grownBy wy k) (hk : ∀ g, k = some g → w.heap.size + 2 ≤ g) : TW w na a xs ca nb b ys cb wy :=
  ⟨h.1.kept hg (fun g e => by have := hk g e; omega), h.2.1.kept hg (fun g e => by have := hk g e; omega), h.2.2.1, bgrown h.2.2.2 hg h.2.2.2.size (fun g e => by have := hk g e; omega)⟩
theorem TW.set2 {g : Nat} (h : TW w na a xs ca nb b ys cb wx) (hg : w.heap.size + 2 ≤ g) (u v : Value) : TW w na a xs ca nb b ys cb ((wx.setCell ⟨g, 0, none⟩ u).setCell ⟨g, 1, none⟩ v) :=
  (h.kept (gset wx g 0 u) (fun k e => by cases e; exact hg)).kept (gset _ g 1 v) (fun k e => by cases e; exact hg)
theorem TW.new (w : World) (na nb : Int) (a b : Option Addr) (xs ys : List Int) (ca cb : Nat) (hx : Ints w a xs) (hy : Ints w b ys) :
    TW w na a xs ca nb b ys cb ((w.alloc (.cells #[.int .i64 na, .slice a xs.length ca] 24)).alloc (.cells #[.int .i64 nb, .slice b ys.length cb] 24)) := by
  have b1 := Box.new w na a xs.length ca 24
  have b2 := Box.new (w.alloc (.cells #[.int .i64 na, .slice a xs.length ca] 24)) nb b ys.length cb 24
  simp only [World.size_alloc] at b2
  exact ⟨b1.below (bel1 _ _), b2, ⟨hx, hy⟩, bel2 _ _ _⟩
end
theorem box_set {w : World} {g : Nat} {n : Int} {a : Option Addr} {len cap : Nat} (h : w.heap[g]? = some (.cells #[.int .i64 0, .slice none 0 0] 26 (0, 0))) (u v : Value) (hu : u = .int .i64 n := by rfl) (hv : v = .slice a len cap := by rfl) :
    Box ((w.setCell ⟨g, 0, none⟩ u).setCell ⟨g, 1, none⟩ v) g n a len cap := by
  subst hu hv
  have h2 := block_setCell (i := 1) (block_setCell (i := 0) h (.int .i64 n)) (.slice a len cap)
  exact ⟨lt_of_block h2, cell_of_block h2 0, cell_of_block h2 1⟩
theorem ints_set1 {w : World} {g i : Nat} {a : Option Addr} {zs : List Int} (h : Ints w a zs) (u : Value) (hne : ∀ b o s, a = some ⟨b, o, s⟩ → b ≠ g) : Ints (w.setCell ⟨g, i, none⟩ u) a zs := fun hz => by
  obtain ⟨b, off, e, hlt, hc⟩ := h hz
  have hg := gset w g i u
  exact ⟨b, off, e, Nat.lt_of_lt_of_le hlt hg.size, fun k hk => hg.cell (hc k hk) (fun e' => hne b off none e (by simpa using e'))⟩
theorem ints_set2 {w : World} {g : Nat} {a : Option Addr} {zs : List Int} (h : Ints w a zs) (u v : Value) (hne : ∀ b o s, a = some ⟨b, o, s⟩ → b ≠ g) : Ints ((w.setCell ⟨g, 0, none⟩ u).setCell ⟨g, 1, none⟩ v) a zs := ints_set1 (ints_set1 h u hne) v hne
theorem crossS_was (na nb : Int) (a b : Option Addr) (ca cb : Nat) (xs ys : List Int) (N : Int) (L : List Int) (B : Bool) (w : World) (hx : Ints w a xs) (hy : Ints w b ys) (hn : xs.length ≤ 1048576) (hm : ys.length ≤ 1048576) (h1 : crsN na xs nb ys = N) (h2 : crsL na xs nb ys = L) (h3 : crsB na xs nb ys = B) :
    Calls Try.prog 33 #[.agg #[.int .i64 na, .slice a xs.length ca], .agg #[.int .i64 nb, .slice b ys.length cb]] w (GivesX N L B w) := by
  subst h1 h2 h3
  exact specCross_any na nb a b ca cb xs ys w hx hy hn hm
theorem crossP_was (na nb : Int) (a b : Option Addr) (ca cb : Nat) (xs ys : List Int) (N : Int) (L : List Int) (B : Bool) (w : World) (hx : Ints w a xs) (hy : Ints w b ys) (hn : xs.length ≤ 1048576) (hm : ys.length ≤ 1048576) (h1 : crsN na xs nb ys = N) (h2 : crsL na xs nb ys = L) (h3 : crsB na xs nb ys = B) :
    Calls Try.prog 34 #[.agg #[.int .i64 na, .slice a xs.length ca], .agg #[.int .i64 nb, .slice b ys.length cb]] w (GivesX N L B w) := by
  subst h1 h2 h3
  exact implCross_any na nb a b ca cb xs ys w hx hy hn hm
set_option maxHeartbeats 8000000 in
set_option maxRecDepth 100000 in
theorem walk_FnExactCrossSpaces (na : Int) (a : Option Addr) (xs : List Int) (ca : Nat) (nb : Int) (b : Option Addr) (ys : List Int) (cb : Nat) (w : World) (_wn : (Lit.int .i64 na).wf = true) (hx : Ints w a xs) (hl : xs.length ≤ maxLen) (_wm : (Lit.int .i64 nb).wf = true) (hy : Ints w b ys) (hk : ys.length ≤ maxLen) :
    Calls Try.prog 9 #[.agg #[.int .i64 na, .slice a xs.length ca], .agg #[.int .i64 nb, .slice b ys.length cb]] w fun e w' => e = .returned (.bool true) ∧ Below w.heap.size w w' := by
  by_cases h : 1048576 < xs.length
  · have hlt : left 1048576 xs.length < 0 := by unfold left; rw [if_pos (by omega)]; omega
    have T0 := TW.new w na nb a b xs ys ca cb hx hy
    obtain ⟨c0, c1, d0, d1⟩ := tw_cells T0
    go_enter Try.func9, Try.ntmps9
    go_wp2_with fail
    refine (szSpace_any _ _ _ _ _ _ hl (by omega) (by omega)).mono ?_
    rintro e w1 ⟨rfl, hb1⟩
    have B1 := (T0.below hb1).2.2.2
    go_wp2
    go_ret
    exact ⟨rfl, B1⟩
  · have hn : xs.length ≤ 1048576 := by omega
    have hlt : 0 ≤ left 1048576 xs.length := by unfold left; rw [if_neg (by omega)]; omega
    have hlt' : left 1048576 xs.length ≤ 1048576 := by unfold left; rw [if_neg (by omega)]; omega
    obtain ⟨l1, hl1⟩ : ∃ l1, l1 = left 1048576 xs.length := ⟨_, rfl⟩
    rw [← hl1] at hlt hlt'
    have HL1 := hide hl1
    have T0 := TW.new w na nb a b xs ys ca cb hx hy
    clear h hl hx hy hl1
    by_cases h2 : l1 < ys.length
    · have hneg : left l1 ys.length < 0 := by unfold left; rw [if_pos h2]; omega
      obtain ⟨c0, c1, d0, d1⟩ := tw_cells T0
      go_enter Try.func9, Try.ntmps9
      go_wp2_with fail
      refine (szSpace_any _ _ _ _ _ _ (by unfold maxLen; omega) (by omega) (by omega)).mono ?_
      rintro e w1 ⟨rfl, hb1⟩
      rw [← HL1.out]
      have T1 := T0.below hb1
      clear c0 c1 d0 d1 T0 hb1
      obtain ⟨c0, c1, d0, d1⟩ := tw_cells T1
      go_wp2_with fail
      refine (szSpace_any _ _ _ _ _ _ hk (by omega) (by omega)).mono ?_
      rintro e w2 ⟨rfl, hb2⟩
      have B1 := (T1.below hb2).2.2.2
      go_wp2
      go_ret
      exact ⟨rfl, B1⟩
    have hm : ys.length ≤ 1048576 := by omega
    have hpos : 0 ≤ left l1 ys.length := by unfold left; rw [if_neg h2]; omega
    obtain ⟨l2, hl2⟩ : ∃ l2, l2 = left l1 ys.length := ⟨_, rfl⟩
    rw [← hl2] at hpos
    have HL2 := hide hl2
    obtain ⟨N, hN⟩ : ∃ N, crsN na xs nb ys = N := ⟨_, rfl⟩
    obtain ⟨L, hL⟩ : ∃ L, crsL na xs nb ys = L := ⟨_, rfl⟩
    obtain ⟨B, hB⟩ : ∃ B, crsB na xs nb ys = B := ⟨_, rfl⟩
    have hLl : L.length ≤ 1048576 := by have := crL_len na xs nb ys; rw [hL] at this; omega
    have HN := hide hN
    have HL := hide hL
    have HBB := hide hB
    have hbb : (B != B) = false := by simp
    clear h2 hN hL hB hl2
    obtain ⟨c0, c1, d0, d1⟩ := tw_cells T0
    go_enter Try.func9, Try.ntmps9
    go_wp2_with fail
    refine (szSpace_any _ _ _ _ _ _ (by unfold maxLen; omega) (by omega) (by omega)).mono ?_
    rintro e w1 ⟨rfl, hb1⟩
    rw [← HL1.out]
    have T1 := T0.below hb1
    clear c0 c1 d0 d1 T0 hb1
    obtain ⟨c0, c1, d0, d1⟩ := tw_cells T1
    go_wp2_with fail
    refine (szSpace_any _ _ _ _ _ _ hk (by omega) (by omega)).mono ?_
    rintro e W2 ⟨rfl, hb2⟩
    rw [← HL2.out]
    have T2 := hide (T1.below hb2)
    clear c0 c1 d0 d1 T1 hb2
    obtain ⟨c0, c1, d0, d1⟩ := tw_cells T2.out
    have hW2 : w.heap.size + 2 ≤ W2.heap.size := T2.out.2.1.1
    go_upto_region 8 with fail
    go_cut [6, 7] (fun s6 s7 wx => ∃ g aw cw, s6 = .pointer (some ⟨g, 0, none⟩) ∧ s7 = .bool B ∧ Box wx g N aw L.length cw ∧ Ints wx aw L ∧ Below W2.heap.size W2 wx)
    case first =>
        have tv0 := hide (T2.out.below (bdrew' (Below.refl _ _)))
        have hb0 : Hid (Below W2.heap.size W2 W2.drew) := bdrew' (Below.refl _ _)
        refine wp_region_held_drew (S := (fun w' => w'.cell? ⟨w.heap.size, 0, none⟩ = some (.int .i64 na) ∧ w'.cell? ⟨w.heap.size, 1, none⟩ = some (.slice a xs.length ca) ∧ w'.cell? ⟨w.heap.size + 1, 0, none⟩ = some (.int .i64 nb) ∧ w'.cell? ⟨w.heap.size + 1, 1, none⟩ = some (.slice b ys.length cb))) (by kernel_rfl) ?_ (fun hHeld => ?_)
        · exact (tw_cells tv0.out)
        refine wpAnyH_take (i := 0) (v := ?vvt1) rfl (by kernel_rfl) (by kernel_rfl) (by kernel_rfl) (fun _ _ _ h => h) (Or.inl ⟨by rfl, ?hyt1⟩) (by assumption) ?restt1
        case hyt1 => (intro w hSw; (try dsimp only at hSw); go_simp; (try with_reducible rfl))
        case restt1 =>
          (try simp only [Act.put, List.setIfInBounds_toArray, List.set_cons_zero, List.set_cons_succ, List.getElem_toArray, List.getElem_cons_zero])
          refine wpAnyH_take (i := 2) (v := ?vvt2) rfl (by kernel_rfl) (by kernel_rfl) (by kernel_rfl) (fun _ _ _ h => h) (Or.inl ⟨by rfl, ?hyt2⟩) (by assumption) ?restt2
          case hyt2 => (intro w hSw; (try dsimp only at hSw); go_simp; (try with_reducible rfl))
          case restt2 =>
            (try simp only [Act.put, List.setIfInBounds_toArray, List.set_cons_zero, List.set_cons_succ, List.getElem_toArray, List.getElem_cons_zero, List.getElem_cons_succ])
            refine wpAnyH_ready (rs := [1, 8]) (by kernel_rfl) (by simp) ?_
            refine (AllReadyH.cons rfl (fun K hK => ?_) (AllReadyH.cons rfl (fun K hK => ?_) AllReadyH.nil))
            · go_simp
              (go_at_call 13; refine (toSpace_any _ _ _ _ _ (tw_ia tv0.out) hn).mono ?_)
              rintro e w1 ⟨s1, rfl, own1, b1⟩
              have i11 := hide own1.ints
              have tv1 := hide (tv0.out.below b1)
              have hb1 := hide (bnext hb0.out b1)
              go_wp2_with fail
              refine hK.out _ _ ?_ (fun hHeld => ?_)
              · exact (tw_cells tv1.out)
              clear hK K
              (try simp only [Act.put, List.setIfInBounds_toArray, List.set_cons_zero, List.set_cons_succ, List.getElem_toArray, List.getElem_cons_zero, List.getElem_cons_succ])
              refine wpAnyH_ready (rs := [3, 8]) (by kernel_rfl) (by simp) ?_
              refine (AllReadyH.cons rfl (fun K hK => ?_) (AllReadyH.cons rfl (fun K hK => ?_) AllReadyH.nil))
              · go_simp
                (go_at_call 13; refine (toSpace_any _ _ _ _ _ (tw_ib tv1.out) hm).mono ?_)
                rintro e w2 ⟨s2, rfl, own2, b2⟩
                have i12 := hide (i11.out.below b2)
                have i22 := hide own2.ints
                have tv2 := hide (tv1.out.below b2)
                have hb2 := hide (bnext hb1.out b2)
                go_wp2_with fail
                refine hK.out _ _ ?_ (fun hHeld => ?_)
                · exact (tw_cells tv2.out)
                clear hK K
                (try simp only [Act.put, List.setIfInBounds_toArray, List.set_cons_zero, List.set_cons_succ, List.getElem_toArray, List.getElem_cons_zero, List.getElem_cons_succ])
                refine wpAnyH_ready (rs := [4, 8]) (by kernel_rfl) (by simp) ?_
                refine (AllReadyH.cons rfl (fun K hK => ?_) (AllReadyH.cons rfl (fun K hK => ?_) AllReadyH.nil))
                · go_simp
                  (go_at_call 33; refine (crossS_was _ _ _ _ _ _ _ _ N L B _ i12.out i22.out hn hm HN.out HL.out HBB.out).mono ?_)
                  rintro e w3 ⟨vw, rfl, ow3, b3⟩
                  obtain ⟨aw, cw, rfl, _, _⟩ := ow3.form
                  have iw3 := hide ow3.ints
                  have tv3 := hide (tv2.out.below b3)
                  have hb3 := hide (bnext hb2.out b3)
                  go_wp2_with fail
                  refine hK.out _ _ ?_ (fun hHeld => ?_)
                  · exact (tw_cells tv3.out)
                  clear hK K
                  (try simp only [Act.put, List.setIfInBounds_toArray, List.set_cons_zero, List.set_cons_succ, List.getElem_toArray, List.getElem_cons_zero, List.getElem_cons_succ])
                  refine wpAnyH_take (i := 5) (v := ?vvt3) rfl (by kernel_rfl) (by kernel_rfl) (by kernel_rfl) (fun _ _ _ h => h) (Or.inl ⟨by rfl, ?hyt3⟩) (by assumption) ?restt3
                  case hyt3 => (intro w hSw; (try dsimp only at hSw); go_simp; (try with_reducible rfl))
                  case restt3 =>
                    (try simp only [Act.put, List.setIfInBounds_toArray, List.set_cons_zero, List.set_cons_succ, List.getElem_toArray, List.getElem_cons_zero, List.getElem_cons_succ])
                    refine wpAnyH_take (i := 6) (v := ?vvt4) rfl (by kernel_rfl) (by kernel_rfl) (by kernel_rfl) (fun _ _ _ h => h) (Or.inl ⟨by rfl, ?hyt4⟩) (by assumption) ?restt4
                    case hyt4 => (intro w hSw; (try dsimp only at hSw); go_simp; (try with_reducible rfl))
                    case restt4 =>
                      (try simp only [Act.put, List.setIfInBounds_toArray, List.set_cons_zero, List.set_cons_succ, List.getElem_toArray, List.getElem_cons_zero, List.getElem_cons_succ])
                      refine wpAnyH_take (i := 7) (v := ?vvt5) rfl (by kernel_rfl) (by kernel_rfl) (by kernel_rfl) (fun _ _ _ h => h) (Or.inl ⟨by rfl, ?hyt5⟩) (by assumption) ?restt5
                      case hyt5 => (intro w hSw; (try dsimp only at hSw); go_simp; (try with_reducible rfl))
                      case restt5 =>
                        (try simp only [Act.put, List.setIfInBounds_toArray, List.set_cons_zero, List.set_cons_succ, List.getElem_toArray, List.getElem_cons_zero, List.getElem_cons_succ])
                        refine wpAnyH_ready (rs := [8]) (by kernel_rfl) (by simp) ?_
                        refine (AllReadyH.cons rfl (fun K hK => ?_) AllReadyH.nil)
                        go_simp
                        have tv4 := hide (tv3.out.below (bel1 w3 (.cells #[.int .i64 0, .slice none 0 0] 26)))
                        have hb4 := hide (bnext hb3.out (bel1 w3 (.cells #[.int .i64 0, .slice none 0 0] 26)))
                        have hg4 : Hid ((w3.alloc (.cells #[.int .i64 0, .slice none 0 0] 26)).heap[w3.heap.size]? = some (.cells #[.int .i64 0, .slice none 0 0] 26 (0, 0))) := heap_alloc_new w3 _
                        have iw4 := hide (iw3.out.below (bel1 w3 (.cells #[.int .i64 0, .slice none 0 0] 26)))
                        have ne4 : ∀ bb o s, aw = some ⟨bb, o, s⟩ → bb ≠ w3.heap.size := fun bb o s e => by have h1 := own_lt ow3 bb (by rw [e]; rfl); omega
                        refine hK.out _ _ ?_ (fun hHeld => ?_)
                        · exact (tw_cells tv4.out)
                        clear hK K
                        (try simp only [Act.put, List.setIfInBounds_toArray, List.set_cons_zero, List.set_cons_succ, List.getElem_toArray, List.getElem_cons_zero, List.getElem_cons_succ])
                        have hg5 := hg4.out
                        have f0 := unfrozen_of_block hg5 0
                        have f1 := unfrozen_of_block hg5 1
                        have r0 := cell_of_block hg5 0
                        have r1 := cell_of_block hg5 1
                        have hsb5 := hide (tv3.out.below (bel1 w3 (.cells #[.int .i64 N, .slice aw L.length cw] 26)))
                        have BX5 := hide (Box.new w3 N aw L.length cw 26)
                        have IX5 := hide (iw3.out.below (bel1 w3 (.cells #[.int .i64 N, .slice aw L.length cw] 26)))
                        have BB5 := hide (bnext hb3.out (bel1 w3 (.cells #[.int .i64 N, .slice aw L.length cw] 26)))
                        refine wpAnyH_ready (rs := [9]) (by kernel_rfl) (by simp) ?_
                        refine (AllReadyH.cons rfl (fun K hK => ?_) AllReadyH.nil)
                        go_simp
                        refine hK.out _ _ ?_ (fun hHeld => ?_)
                        · exact (tw_cells hsb5.out)
                        clear hK K
                        (try simp only [Act.put, List.setIfInBounds_toArray, List.set_cons_zero, List.set_cons_succ, List.getElem_toArray, List.getElem_cons_zero, List.getElem_cons_succ])
                        refine wpAnyH_take (i := 10) (v := ?vvt6) rfl (by kernel_rfl) (by kernel_rfl) (by kernel_rfl) (fun _ _ _ h => h) (Or.inl ⟨by rfl, ?hyt6⟩) (by assumption) ?restt6
                        case hyt6 => (intro w hSw; (try dsimp only at hSw); go_simp; (try with_reducible rfl))
                        case restt6 =>
                          (try simp only [Act.put, List.setIfInBounds_toArray, List.set_cons_zero, List.set_cons_succ, List.getElem_toArray, List.getElem_cons_zero, List.getElem_cons_succ])
                          refine wpAnyH_done (by kernel_rfl) ?_ _
                          go_wp2_with fail
                          go_meet
                          exact ⟨_, aw, cw, rfl, rfl, BX5.out, IX5.out, BB5.out⟩
                · go_simp
                  have tv6 := hide (tv2.out.below (bel1 w2 (.cells #[.int .i64 0, .slice none 0 0] 26)))
                  have hb6 := hide (bnext hb2.out (bel1 w2 (.cells #[.int .i64 0, .slice none 0 0] 26)))
                  have hg6 : Hid ((w2.alloc (.cells #[.int .i64 0, .slice none 0 0] 26)).heap[w2.heap.size]? = some (.cells #[.int .i64 0, .slice none 0 0] 26 (0, 0))) := heap_alloc_new w2 _
                  have i16 := hide (i12.out.below (bel1 w2 (.cells #[.int .i64 0, .slice none 0 0] 26)))
                  have i26 := hide (i22.out.below (bel1 w2 (.cells #[.int .i64 0, .slice none 0 0] 26)))
                  refine hK.out _ _ ?_ (fun hHeld => ?_)
                  · exact (tw_cells tv6.out)
                  clear hK K
                  (try simp only [Act.put, List.setIfInBounds_toArray, List.set_cons_zero, List.set_cons_succ, List.getElem_toArray, List.getElem_cons_zero, List.getElem_cons_succ])
                  refine wpAnyH_ready (rs := [4]) (by kernel_rfl) (by simp) ?_
                  refine (AllReadyH.cons rfl (fun K hK => ?_) AllReadyH.nil)
                  go_simp
                  (go_at_call 33; refine (crossS_was _ _ _ _ _ _ _ _ N L B _ i16.out i26.out hn hm HN.out HL.out HBB.out).mono ?_)
                  rintro e w7 ⟨vw, rfl, ow7, b7⟩
                  obtain ⟨aw, cw, rfl, _, _⟩ := ow7.form
                  have iw7 := hide ow7.ints
                  have tv7 := hide (tv6.out.below b7)
                  have hb7 := hide (bnext hb6.out b7)
                  have hg7 := hide ((b7.block _ (lt_of_block hg6.out)).trans hg6.out)
                  have ne7 : ∀ bb o s, aw = some ⟨bb, o, s⟩ → bb ≠ w2.heap.size := fun bb o s e => by have h1 := own_ge ow7 bb (by rw [e]; rfl); have h2 := lt_of_block hg6.out; omega
                  go_wp2_with fail
                  refine hK.out _ _ ?_ (fun hHeld => ?_)
                  · exact (tw_cells tv7.out)
                  clear hK K
                  (try simp only [Act.put, List.setIfInBounds_toArray, List.set_cons_zero, List.set_cons_succ, List.getElem_toArray, List.getElem_cons_zero, List.getElem_cons_succ])
                  refine wpAnyH_take (i := 5) (v := ?vvt7) rfl (by kernel_rfl) (by kernel_rfl) (by kernel_rfl) (fun _ _ _ h => h) (Or.inl ⟨by rfl, ?hyt7⟩) (by assumption) ?restt7
                  case hyt7 => (intro w hSw; (try dsimp only at hSw); go_simp; (try with_reducible rfl))
                  case restt7 =>
                    (try simp only [Act.put, List.setIfInBounds_toArray, List.set_cons_zero, List.set_cons_succ, List.getElem_toArray, List.getElem_cons_zero, List.getElem_cons_succ])
                    refine wpAnyH_take (i := 6) (v := ?vvt8) rfl (by kernel_rfl) (by kernel_rfl) (by kernel_rfl) (fun _ _ _ h => h) (Or.inl ⟨by rfl, ?hyt8⟩) (by assumption) ?restt8
                    case hyt8 => (intro w hSw; (try dsimp only at hSw); go_simp; (try with_reducible rfl))
                    case restt8 =>
                      (try simp only [Act.put, List.setIfInBounds_toArray, List.set_cons_zero, List.set_cons_succ, List.getElem_toArray, List.getElem_cons_zero, List.getElem_cons_succ])
                      refine wpAnyH_take (i := 7) (v := ?vvt9) rfl (by kernel_rfl) (by kernel_rfl) (by kernel_rfl) (fun _ _ _ h => h) (Or.inl ⟨by rfl, ?hyt9⟩) (by assumption) ?restt9
                      case hyt9 => (intro w hSw; (try dsimp only at hSw); go_simp; (try with_reducible rfl))
                      case restt9 =>
                        (try simp only [Act.put, List.setIfInBounds_toArray, List.set_cons_zero, List.set_cons_succ, List.getElem_toArray, List.getElem_cons_zero, List.getElem_cons_succ])
                        have hg8 := hg7.out
                        have f0 := unfrozen_of_block hg8 0
                        have f1 := unfrozen_of_block hg8 1
                        have r0 := cell_of_block hg8 0
                        have r1 := cell_of_block hg8 1
                        have hge8 : W2.heap.size ≤ w2.heap.size := hb2.out.size
                        have hsb8 := hide (tv7.out.set2 (g := w2.heap.size) (by omega) (.int .i64 N) (.slice aw L.length cw))
                        have BX8 := hide (box_set hg7.out (.int .i64 N) (.slice aw L.length cw))
                        have IX8 := hide (ints_set2 iw7.out (.int .i64 N) (.slice aw L.length cw) ne7)
                        have BB8 := hide ((hb7.out.setCell (p := ⟨w2.heap.size, 0, none⟩) hge8 (.int .i64 N)).setCell (p := ⟨w2.heap.size, 1, none⟩) hge8 (.slice aw L.length cw))
                        refine wpAnyH_ready (rs := [9]) (by kernel_rfl) (by simp) ?_
                        refine (AllReadyH.cons rfl (fun K hK => ?_) AllReadyH.nil)
                        go_simp
                        refine hK.out _ _ ?_ (fun hHeld => ?_)
                        · exact (tw_cells hsb8.out)
                        clear hK K
                        (try simp only [Act.put, List.setIfInBounds_toArray, List.set_cons_zero, List.set_cons_succ, List.getElem_toArray, List.getElem_cons_zero, List.getElem_cons_succ])
                        refine wpAnyH_take (i := 10) (v := ?vvt10) rfl (by kernel_rfl) (by kernel_rfl) (by kernel_rfl) (fun _ _ _ h => h) (Or.inl ⟨by rfl, ?hyt10⟩) (by assumption) ?restt10
                        case hyt10 => (intro w hSw; (try dsimp only at hSw); go_simp; (try with_reducible rfl))
                        case restt10 =>
                          (try simp only [Act.put, List.setIfInBounds_toArray, List.set_cons_zero, List.set_cons_succ, List.getElem_toArray, List.getElem_cons_zero, List.getElem_cons_succ])
                          refine wpAnyH_done (by kernel_rfl) ?_ _
                          go_wp2_with fail
                          go_meet
                          exact ⟨_, aw, cw, rfl, rfl, BX8.out, IX8.out, BB8.out⟩
              · go_simp
                have tv9 := hide (tv1.out.below (bel1 w1 (.cells #[.int .i64 0, .slice none 0 0] 26)))
                have hb9 := hide (bnext hb1.out (bel1 w1 (.cells #[.int .i64 0, .slice none 0 0] 26)))
                have hg9 : Hid ((w1.alloc (.cells #[.int .i64 0, .slice none 0 0] 26)).heap[w1.heap.size]? = some (.cells #[.int .i64 0, .slice none 0 0] 26 (0, 0))) := heap_alloc_new w1 _
                have i19 := hide (i11.out.below (bel1 w1 (.cells #[.int .i64 0, .slice none 0 0] 26)))
                refine hK.out _ _ ?_ (fun hHeld => ?_)
                · exact (tw_cells tv9.out)
                clear hK K
                (try simp only [Act.put, List.setIfInBounds_toArray, List.set_cons_zero, List.set_cons_succ, List.getElem_toArray, List.getElem_cons_zero, List.getElem_cons_succ])
                refine wpAnyH_ready (rs := [3]) (by kernel_rfl) (by simp) ?_
                refine (AllReadyH.cons rfl (fun K hK => ?_) AllReadyH.nil)
                go_simp
                (go_at_call 13; refine (toSpace_any _ _ _ _ _ (tw_ib tv9.out) hm).mono ?_)
                rintro e w10 ⟨s10, rfl, own10, b10⟩
                have i110 := hide (i19.out.below b10)
                have i210 := hide own10.ints
                have tv10 := hide (tv9.out.below b10)
                have hb10 := hide (bnext hb9.out b10)
                have hg10 := hide ((b10.block _ (lt_of_block hg9.out)).trans hg9.out)
                go_wp2_with fail
                refine hK.out _ _ ?_ (fun hHeld => ?_)
                · exact (tw_cells tv10.out)
                clear hK K
                (try simp only [Act.put, List.setIfInBounds_toArray, List.set_cons_zero, List.set_cons_succ, List.getElem_toArray, List.getElem_cons_zero, List.getElem_cons_succ])
                refine wpAnyH_ready (rs := [4]) (by kernel_rfl) (by simp) ?_
                refine (AllReadyH.cons rfl (fun K hK => ?_) AllReadyH.nil)
                go_simp
                (go_at_call 33; refine (crossS_was _ _ _ _ _ _ _ _ N L B _ i110.out i210.out hn hm HN.out HL.out HBB.out).mono ?_)
                rintro e w11 ⟨vw, rfl, ow11, b11⟩
                obtain ⟨aw, cw, rfl, _, _⟩ := ow11.form
                have iw11 := hide ow11.ints
                have tv11 := hide (tv10.out.below b11)
                have hb11 := hide (bnext hb10.out b11)
                have hg11 := hide ((b11.block _ (lt_of_block hg10.out)).trans hg10.out)
                have ne11 : ∀ bb o s, aw = some ⟨bb, o, s⟩ → bb ≠ w1.heap.size := fun bb o s e => by have h1 := own_ge ow11 bb (by rw [e]; rfl); have h2 := lt_of_block hg10.out; omega
                go_wp2_with fail
                refine hK.out _ _ ?_ (fun hHeld => ?_)
                · exact (tw_cells tv11.out)
                clear hK K
                (try simp only [Act.put, List.setIfInBounds_toArray, List.set_cons_zero, List.set_cons_succ, List.getElem_toArray, List.getElem_cons_zero, List.getElem_cons_succ])
                refine wpAnyH_take (i := 5) (v := ?vvt11) rfl (by kernel_rfl) (by kernel_rfl) (by kernel_rfl) (fun _ _ _ h => h) (Or.inl ⟨by rfl, ?hyt11⟩) (by assumption) ?restt11
                case hyt11 => (intro w hSw; (try dsimp only at hSw); go_simp; (try with_reducible rfl))
                case restt11 =>
                  (try simp only [Act.put, List.setIfInBounds_toArray, List.set_cons_zero, List.set_cons_succ, List.getElem_toArray, List.getElem_cons_zero, List.getElem_cons_succ])
                  refine wpAnyH_take (i := 6) (v := ?vvt12) rfl (by kernel_rfl) (by kernel_rfl) (by kernel_rfl) (fun _ _ _ h => h) (Or.inl ⟨by rfl, ?hyt12⟩) (by assumption) ?restt12
                  case hyt12 => (intro w hSw; (try dsimp only at hSw); go_simp; (try with_reducible rfl))
                  case restt12 =>
                    (try simp only [Act.put, List.setIfInBounds_toArray, List.set_cons_zero, List.set_cons_succ, List.getElem_toArray, List.getElem_cons_zero, List.getElem_cons_succ])
                    refine wpAnyH_take (i := 7) (v := ?vvt13) rfl (by kernel_rfl) (by kernel_rfl) (by kernel_rfl) (fun _ _ _ h => h) (Or.inl ⟨by rfl, ?hyt13⟩) (by assumption) ?restt13
                    case hyt13 => (intro w hSw; (try dsimp only at hSw); go_simp; (try with_reducible rfl))
                    case restt13 =>
                      (try simp only [Act.put, List.setIfInBounds_toArray, List.set_cons_zero, List.set_cons_succ, List.getElem_toArray, List.getElem_cons_zero, List.getElem_cons_succ])
                      have hg12 := hg11.out
                      have f0 := unfrozen_of_block hg12 0
                      have f1 := unfrozen_of_block hg12 1
                      have r0 := cell_of_block hg12 0
                      have r1 := cell_of_block hg12 1
                      have hge12 : W2.heap.size ≤ w1.heap.size := hb1.out.size
                      have hsb12 := hide (tv11.out.set2 (g := w1.heap.size) (by omega) (.int .i64 N) (.slice aw L.length cw))
                      have BX12 := hide (box_set hg11.out (.int .i64 N) (.slice aw L.length cw))
                      have IX12 := hide (ints_set2 iw11.out (.int .i64 N) (.slice aw L.length cw) ne11)
                      have BB12 := hide ((hb11.out.setCell (p := ⟨w1.heap.size, 0, none⟩) hge12 (.int .i64 N)).setCell (p := ⟨w1.heap.size, 1, none⟩) hge12 (.slice aw L.length cw))
                      refine wpAnyH_ready (rs := [9]) (by kernel_rfl) (by simp) ?_
                      refine (AllReadyH.cons rfl (fun K hK => ?_) AllReadyH.nil)
                      go_simp
                      refine hK.out _ _ ?_ (fun hHeld => ?_)
                      · exact (tw_cells hsb12.out)
                      clear hK K
                      (try simp only [Act.put, List.setIfInBounds_toArray, List.set_cons_zero, List.set_cons_succ, List.getElem_toArray, List.getElem_cons_zero, List.getElem_cons_succ])
                      refine wpAnyH_take (i := 10) (v := ?vvt14) rfl (by kernel_rfl) (by kernel_rfl) (by kernel_rfl) (fun _ _ _ h => h) (Or.inl ⟨by rfl, ?hyt14⟩) (by assumption) ?restt14
                      case hyt14 => (intro w hSw; (try dsimp only at hSw); go_simp; (try with_reducible rfl))
                      case restt14 =>
                        (try simp only [Act.put, List.setIfInBounds_toArray, List.set_cons_zero, List.set_cons_succ, List.getElem_toArray, List.getElem_cons_zero, List.getElem_cons_succ])
                        refine wpAnyH_done (by kernel_rfl) ?_ _
                        go_wp2_with fail
                        go_meet
                        exact ⟨_, aw, cw, rfl, rfl, BX12.out, IX12.out, BB12.out⟩
            · go_simp
              have tv13 := hide (T2.out.below (bdrew' (bel1 W2 (.cells #[.int .i64 0, .slice none 0 0] 26))))
              have hb13 := hide (bdrew' (bel1 W2 (.cells #[.int .i64 0, .slice none 0 0] 26)))
              have hg13 : Hid ((W2.alloc (.cells #[.int .i64 0, .slice none 0 0] 26)).drew.heap[W2.heap.size]? = some (.cells #[.int .i64 0, .slice none 0 0] 26 (0, 0))) := heap_alloc_new W2 _
              refine hK.out _ _ ?_ (fun hHeld => ?_)
              · exact (tw_cells tv13.out)
              clear hK K
              (try simp only [Act.put, List.setIfInBounds_toArray, List.set_cons_zero, List.set_cons_succ, List.getElem_toArray, List.getElem_cons_zero, List.getElem_cons_succ])
              refine wpAnyH_ready (rs := [1]) (by kernel_rfl) (by simp) ?_
              refine (AllReadyH.cons rfl (fun K hK => ?_) AllReadyH.nil)
              go_simp
              (go_at_call 13; refine (toSpace_any _ _ _ _ _ (tw_ia tv13.out) hn).mono ?_)
              rintro e w14 ⟨s14, rfl, own14, b14⟩
              have i114 := hide own14.ints
              have tv14 := hide (tv13.out.below b14)
              have hb14 := hide (bnext hb13.out b14)
              have hg14 := hide ((b14.block _ (lt_of_block hg13.out)).trans hg13.out)
              go_wp2_with fail
              refine hK.out _ _ ?_ (fun hHeld => ?_)
              · exact (tw_cells tv14.out)
              clear hK K
              (try simp only [Act.put, List.setIfInBounds_toArray, List.set_cons_zero, List.set_cons_succ, List.getElem_toArray, List.getElem_cons_zero, List.getElem_cons_succ])
              refine wpAnyH_ready (rs := [3]) (by kernel_rfl) (by simp) ?_
              refine (AllReadyH.cons rfl (fun K hK => ?_) AllReadyH.nil)
              go_simp
              (go_at_call 13; refine (toSpace_any _ _ _ _ _ (tw_ib tv14.out) hm).mono ?_)
              rintro e w15 ⟨s15, rfl, own15, b15⟩
              have i115 := hide (i114.out.below b15)
              have i215 := hide own15.ints
              have tv15 := hide (tv14.out.below b15)
              have hb15 := hide (bnext hb14.out b15)
              have hg15 := hide ((b15.block _ (lt_of_block hg14.out)).trans hg14.out)
              go_wp2_with fail
              refine hK.out _ _ ?_ (fun hHeld => ?_)
              · exact (tw_cells tv15.out)
              clear hK K
              (try simp only [Act.put, List.setIfInBounds_toArray, List.set_cons_zero, List.set_cons_succ, List.getElem_toArray, List.getElem_cons_zero, List.getElem_cons_succ])
              refine wpAnyH_ready (rs := [4]) (by kernel_rfl) (by simp) ?_
              refine (AllReadyH.cons rfl (fun K hK => ?_) AllReadyH.nil)
              go_simp
              (go_at_call 33; refine (crossS_was _ _ _ _ _ _ _ _ N L B _ i115.out i215.out hn hm HN.out HL.out HBB.out).mono ?_)
              rintro e w16 ⟨vw, rfl, ow16, b16⟩
              obtain ⟨aw, cw, rfl, _, _⟩ := ow16.form
              have iw16 := hide ow16.ints
              have tv16 := hide (tv15.out.below b16)
              have hb16 := hide (bnext hb15.out b16)
              have hg16 := hide ((b16.block _ (lt_of_block hg15.out)).trans hg15.out)
              have ne16 : ∀ bb o s, aw = some ⟨bb, o, s⟩ → bb ≠ W2.heap.size := fun bb o s e => by have h1 := own_ge ow16 bb (by rw [e]; rfl); have h2 := lt_of_block hg15.out; omega
              go_wp2_with fail
              refine hK.out _ _ ?_ (fun hHeld => ?_)
              · exact (tw_cells tv16.out)
              clear hK K
              (try simp only [Act.put, List.setIfInBounds_toArray, List.set_cons_zero, List.set_cons_succ, List.getElem_toArray, List.getElem_cons_zero, List.getElem_cons_succ])
              refine wpAnyH_take (i := 5) (v := ?vvt15) rfl (by kernel_rfl) (by kernel_rfl) (by kernel_rfl) (fun _ _ _ h => h) (Or.inl ⟨by rfl, ?hyt15⟩) (by assumption) ?restt15
              case hyt15 => (intro w hSw; (try dsimp only at hSw); go_simp; (try with_reducible rfl))
              case restt15 =>
                (try simp only [Act.put, List.setIfInBounds_toArray, List.set_cons_zero, List.set_cons_succ, List.getElem_toArray, List.getElem_cons_zero, List.getElem_cons_succ])
                refine wpAnyH_take (i := 6) (v := ?vvt16) rfl (by kernel_rfl) (by kernel_rfl) (by kernel_rfl) (fun _ _ _ h => h) (Or.inl ⟨by rfl, ?hyt16⟩) (by assumption) ?restt16
                case hyt16 => (intro w hSw; (try dsimp only at hSw); go_simp; (try with_reducible rfl))
                case restt16 =>
                  (try simp only [Act.put, List.setIfInBounds_toArray, List.set_cons_zero, List.set_cons_succ, List.getElem_toArray, List.getElem_cons_zero, List.getElem_cons_succ])
                  refine wpAnyH_take (i := 7) (v := ?vvt17) rfl (by kernel_rfl) (by kernel_rfl) (by kernel_rfl) (fun _ _ _ h => h) (Or.inl ⟨by rfl, ?hyt17⟩) (by assumption) ?restt17
                  case hyt17 => (intro w hSw; (try dsimp only at hSw); go_simp; (try with_reducible rfl))
                  case restt17 =>
                    (try simp only [Act.put, List.setIfInBounds_toArray, List.set_cons_zero, List.set_cons_succ, List.getElem_toArray, List.getElem_cons_zero, List.getElem_cons_succ])
                    have hg17 := hg16.out
                    have f0 := unfrozen_of_block hg17 0
                    have f1 := unfrozen_of_block hg17 1
                    have r0 := cell_of_block hg17 0
                    have r1 := cell_of_block hg17 1
                    have hge17 : W2.heap.size ≤ W2.heap.size := Nat.le_refl _
                    have hsb17 := hide (tv16.out.set2 (g := W2.heap.size) (by omega) (.int .i64 N) (.slice aw L.length cw))
                    have BX17 := hide (box_set hg16.out (.int .i64 N) (.slice aw L.length cw))
                    have IX17 := hide (ints_set2 iw16.out (.int .i64 N) (.slice aw L.length cw) ne16)
                    have BB17 := hide ((hb16.out.setCell (p := ⟨W2.heap.size, 0, none⟩) hge17 (.int .i64 N)).setCell (p := ⟨W2.heap.size, 1, none⟩) hge17 (.slice aw L.length cw))
                    refine wpAnyH_ready (rs := [9]) (by kernel_rfl) (by simp) ?_
                    refine (AllReadyH.cons rfl (fun K hK => ?_) AllReadyH.nil)
                    go_simp
                    refine hK.out _ _ ?_ (fun hHeld => ?_)
                    · exact (tw_cells hsb17.out)
                    clear hK K
                    (try simp only [Act.put, List.setIfInBounds_toArray, List.set_cons_zero, List.set_cons_succ, List.getElem_toArray, List.getElem_cons_zero, List.getElem_cons_succ])
                    refine wpAnyH_take (i := 10) (v := ?vvt18) rfl (by kernel_rfl) (by kernel_rfl) (by kernel_rfl) (fun _ _ _ h => h) (Or.inl ⟨by rfl, ?hyt18⟩) (by assumption) ?restt18
                    case hyt18 => (intro w hSw; (try dsimp only at hSw); go_simp; (try with_reducible rfl))
                    case restt18 =>
                      (try simp only [Act.put, List.setIfInBounds_toArray, List.set_cons_zero, List.set_cons_succ, List.getElem_toArray, List.getElem_cons_zero, List.getElem_cons_succ])
                      refine wpAnyH_done (by kernel_rfl) ?_ _
                      go_wp2_with fail
                      go_meet
                      exact ⟨_, aw, cw, rfl, rfl, BX17.out, IX17.out, BB17.out⟩
    case rest =>
      obtain ⟨g, aw, cw, rfl, rfl, bw, iw, hbc⟩ := hcut
      obtain ⟨V, hV⟩ : ∃ V : World, V = wc := ⟨_, rfl⟩
      subst hV
      have T4 := hide (T2.out.below hbc)
      have hbVW : Hid (w.heap.size + 2 ≤ V.heap.size) := Nat.le_trans hW2 hbc.size
      clear c0 c1 d0 d1 hbc T2
      obtain ⟨c0, c1, d0, d1⟩ := tw_cells T4.out
      go_wp2_with fail
      refine (toSpace_any _ _ _ _ _ (tw_ia T4.out) hn).mono ?_
      rintro e w5 ⟨s5, rfl, own5, hb5⟩
      have bb5 := bel1 w5 (.cells #[.int .i64 na, .slice (some ⟨s5, 0, none⟩) xs.length xs.length] 26)
      have bx5 := Box.new w5 na (some ⟨s5, 0, none⟩) xs.length xs.length 26
      have ox5 := own5.below bb5
      have B5 := bnext hb5 bb5
      have hs5 : s5 < w5.heap.size := own_lt own5 s5 rfl
      have hg5 : V.heap.size ≤ s5 := own_ge own5 s5 rfl
      have hz5 := lt_of_block (heap_alloc_new w5 (.cells #[.int .i64 na, .slice (some ⟨s5, 0, none⟩) xs.length xs.length] 26))
      clear own5 hb5 bb5 c0 c1 d0 d1
      go_upto_region 10 with fail
      obtain ⟨W5, hW5⟩ : ∃ W : World, W = w5.alloc (.cells #[.int .i64 na, .slice (some ⟨s5, 0, none⟩) xs.length xs.length] 26) := ⟨_, rfl⟩
      obtain ⟨g5, hgg5⟩ : ∃ g5, g5 = w5.heap.size := ⟨_, rfl⟩
      rw [← hW5, ← hgg5] at bx5
      rw [← hW5, ← hgg5] at hz5
      rw [← hW5] at ox5 B5
      rw [← hgg5] at hs5
      rw [← hW5, ← hgg5]
      clear hW5 hgg5
      have T5 := hide (T4.out.below B5)
      obtain ⟨c0, c1, d0, d1⟩ := tw_cells T5.out
      go_wp2_with fail
      refine (toSpace_any _ _ _ _ _ (tw_ib T5.out) hm).mono ?_
      rintro e w6 ⟨s6, rfl, own6, hb6⟩
      have bb6 := bel1 w6 (.cells #[.int .i64 nb, .slice (some ⟨s6, 0, none⟩) ys.length ys.length] 26)
      have by6 := Box.new w6 nb (some ⟨s6, 0, none⟩) ys.length ys.length 26
      have oy6 := own6.below bb6
      have hb56 := bnext hb6 bb6
      have hs6 : s6 < w6.heap.size := own_lt own6 s6 rfl
      have hg6 : W5.heap.size ≤ s6 := own_ge own6 s6 rfl
      have hz6 := lt_of_block (heap_alloc_new w6 (.cells #[.int .i64 nb, .slice (some ⟨s6, 0, none⟩) ys.length ys.length] 26))
      clear own6 hb6 bb6 c0 c1 d0 d1
      go_upto_region 11 with fail
      obtain ⟨W6, hW6⟩ : ∃ W : World, W = w6.alloc (.cells #[.int .i64 nb, .slice (some ⟨s6, 0, none⟩) ys.length ys.length] 26) := ⟨_, rfl⟩
      obtain ⟨g6, hgg6⟩ : ∃ g6, g6 = w6.heap.size := ⟨_, rfl⟩
      rw [← hW6, ← hgg6] at by6
      rw [← hW6, ← hgg6] at hz6
      rw [← hW6] at oy6 hb56
      rw [← hgg6] at hs6
      rw [← hW6, ← hgg6]
      clear hW6 hgg6
      have B6 := bnext B5 hb56
      have ox6 := ox5.below hb56
      have bx6 := bx5.below hb56
      clear B5 ox5 bx5 T5 hb56
      obtain ⟨_, x0, x1⟩ := bx6.pair
      obtain ⟨_, y0, y1⟩ := by6.pair
      go_wp2_with fail
      refine (crossP_was _ _ _ _ _ _ _ _ N L B _ ox6.ints oy6.ints hn hm HN.out HL.out HBB.out).mono ?_
      rintro e w7 ⟨vg, rfl, og', hb7'⟩
      obtain ⟨ag, cg, rfl, _, _⟩ := og'.form
      have bb7 := bel1 w7 (.cells #[.int .i64 N, .slice ag L.length cg] 26)
      have gb := Box.new w7 N ag L.length cg 26
      have og := og'.below bb7
      have hgl : ∀ k, (Value.slice ag L.length cg).ownBlock = some k → W6.heap.size ≤ k ∧ k < w7.heap.size := fun k hk => ⟨own_ge og' k hk, own_lt og' k hk⟩
      have hb7 := bnext hb7' bb7
      have hs76 := hb7'.size
      clear x0 x1 y0 y1 og' hb7' bb7
      go_upto_region 12 with fail
      obtain ⟨W7, hW7⟩ : ∃ W : World, W = w7.alloc (.cells #[.int .i64 N, .slice ag L.length cg] 26) := ⟨_, rfl⟩
      obtain ⟨g7, hgg7⟩ : ∃ g7, g7 = w7.heap.size := ⟨_, rfl⟩
      rw [← hW7, ← hgg7] at gb
      rw [← hW7] at og hb7
      rw [← hgg7] at hgl hs76
      rw [← hW7, ← hgg7]
      clear hW7 hgg7
      have B7 := bnext B6 hb7
      have ox7 := ox6.below hb7
      have bx7 := bx6.below hb7
      have oy7 := oy6.below hb7
      have by7 := by6.below hb7
      have bw7 := bw.below B7
      clear B6 ox6 bx6 oy6 by6 hb7
      obtain ⟨_, p0, p1⟩ := gb.pair
      obtain ⟨_, q0, q1⟩ := bw7.pair
      go_wp2_with fail
      refine (eqSpace_yes _ _ _ _ _ _ _ og.ints (iw.below B7) hLl).mono ?_
      rintro e w8 ⟨rfl, hb8⟩
      have B8 := bnext B7 hb8
      have og8 := og.below hb8
      have gb8 := gb.below hb8
      have ox8 := ox7.below hb8
      have bx8 := bx7.below hb8
      have oy8 := oy7.below hb8
      have by8 := by7.below hb8
      have T8 := hide (T4.out.below B8)
      clear og gb ox7 bx7 oy7 by7 B7 hb8 bw7 p0 p1 q0 q1
      obtain ⟨c0, c1, d0, d1⟩ := tw_cells T8.out
      obtain ⟨_, x0, x1⟩ := bx8.pair
      have ia8 := hide (tw_ia (T8.out.below (bdrew' (Below.refl _ _))))
      go_upto_region 14 with fail
      go_cut [58] (fun s wx => s = .bool false ∧ Below w8.heap.size w8 wx)
      case first =>
        go_region_with ((first
          | (go_at_call 13; refine (toSpace_any _ _ _ _ _ ia8.out hn).mono ?_; rintro e w9 ⟨s9, rfl, own9, hb9⟩; have hb9' := bdrew hb9; have ⟨_, y0, y1⟩ := (bx8.below hb9').pair)
          | (go_at_call 15; refine (eqSpace_yes _ _ _ _ _ _ _ (ox8.below hb9').ints own9.ints hn).mono ?_; rintro e w10 ⟨rfl, hb10⟩)))
        all_goals
          go_wp2_with fail
          go_meet
          exact ⟨rfl, bnext hb9' hb10⟩
      case rest =>
        obtain ⟨rfl, hb9⟩ := hcut
        obtain ⟨w9, hw9⟩ : ∃ w9 : World, w9 = wc := ⟨_, rfl⟩
        subst hw9
        have B9 := bnext B8 hb9
        have og9 := og8.below hb9
        have gb9 := gb8.below hb9
        have ox9 := ox8.below hb9
        have bx9 := bx8.below hb9
        have oy9 := oy8.below hb9
        have by9 := by8.below hb9
        have T9 := hide (T4.out.below B9)
        clear og8 gb8 ox8 bx8 oy8 by8 B8 T8 c0 c1 d0 d1 x0 x1 hb9 ia8
        obtain ⟨c0, c1, d0, d1⟩ := tw_cells T9.out
        obtain ⟨_, x0, x1⟩ := by9.pair
        have ib9 := hide (tw_ib (T9.out.below (bdrew' (Below.refl _ _))))
        go_upto_region 16 with fail
        go_cut [63] (fun s wx => s = .bool false ∧ Below w9.heap.size w9 wx)
        case first =>
          go_region_with ((first
            | (go_at_call 13; refine (toSpace_any _ _ _ _ _ ib9.out hm).mono ?_; rintro e w10 ⟨s10, rfl, own10, hb10⟩; have hb10' := bdrew hb10; have ⟨_, y0, y1⟩ := (by9.below hb10').pair)
            | (go_at_call 15; refine (eqSpace_yes _ _ _ _ _ _ _ (oy9.below hb10').ints own10.ints hm).mono ?_; rintro e w11 ⟨rfl, hb11⟩)))
          all_goals
            go_wp2_with fail
            go_meet
            exact ⟨rfl, bnext hb10' hb11⟩
        case rest =>
          obtain ⟨rfl, hb10⟩ := hcut
          obtain ⟨w12, hw12⟩ : ∃ w12 : World, w12 = wc := ⟨_, rfl⟩
          subst hw12
          have B12 := bnext B9 hb10
          have og12 := og9.below hb10
          have gb12 := gb9.below hb10
          have ox12 := ox9.below hb10
          have bx12 := bx9.below hb10
          have oy12 := oy9.below hb10
          have by12 := by9.below hb10
          clear og9 gb9 ox9 bx9 oy9 by9 B9 T9 c0 c1 d0 d1 x0 x1 hb10 ib9
          obtain ⟨_, x0, x1⟩ := bx12.pair
          go_wp2_with fail
          refine (markSpace_any _ _ _ _ _ _ _ ox12 hn (by omega) (by omega)).mono ?_
          rintro e w13 ⟨rfl, hg13⟩
          have og13 := own_kept og12 hg13 (fun k hk e => by cases hk; have := (hgl s5 e).1; omega)
          have gb13 := gb12.kept hg13 (fun k hk => by cases hk; show s5 ≠ g7; omega)
          have oy13 := own_kept oy12 hg13 (fun k hk e => by cases hk; cases e; omega)
          have by13 := by12.kept hg13 (fun k hk => by cases hk; show s5 ≠ g6; omega)
          have B13 : Below V.heap.size V w13 := bgrown B12 hg13 B12.size (fun k hk => by cases hk; exact hg5)
          clear hg13 B12 og12 gb12 ox12 bx12 oy12 by12 x0 x1
          obtain ⟨_, y0, y1⟩ := by13.pair
          go_wp2_with fail
          refine (markSpace_any _ _ _ _ _ _ _ oy13 hm (by omega) (by omega)).mono ?_
          rintro e w14 ⟨rfl, hg14⟩
          have og14 := own_kept og13 hg14 (fun k hk e => by cases hk; have := (hgl s6 e).1; omega)
          have gb14 := gb13.kept hg14 (fun k hk => by cases hk; show s6 ≠ g7; omega)
          have B14 : Below V.heap.size V w14 := bgrown B13 hg14 B13.size (fun k hk => by cases hk; show V.heap.size ≤ s6; omega)
          have bw14 := bw.below B14
          clear hg14 B13 og13 gb13 oy13 by13 y0 y1
          obtain ⟨_, p0, p1⟩ := gb14.pair
          obtain ⟨_, q0, q1⟩ := bw14.pair
          go_wp2_with fail
          refine (eqSpace_yes _ _ _ _ _ _ _ og14.ints (iw.below B14) hLl).mono ?_
          rintro e w15 ⟨rfl, hb15⟩
          have B15 := bnext B14 hb15
          have og15 := og14.below hb15
          have gb15 := gb14.below hb15
          clear B14 og14 gb14 hb15 p0 p1 q0 q1 bw14
          obtain ⟨_, p0, p1⟩ := gb15.pair
          go_wp2_with fail
          refine (markSpaceO_any _ _ _ _ _ _ _ og15 hLl (by omega) (by omega)).mono ?_
          rintro e w16 ⟨rfl, og16, hg16⟩
          have gb16 := gb15.kept hg16 (fun k hk => by have := (hgl k hk).2; omega)
          have B16 : Below V.heap.size V w16 := bgrown B15 hg16 B15.size (fun k hk => by have := (hgl k hk).1; omega)
          clear B15 og15 hg16 gb15 p0 p1
          obtain ⟨_, p0, p1⟩ := gb16.pair
          go_wp2_with fail
          refine (heldSpace_yes _ _ _ _ _ _ og16.ints hLl (by omega) (by omega)).mono ?_
          rintro e W17 ⟨rfl, hb17⟩
          have B17 := bnext B16 hb17
          have og17 := og16.below hb17
          have gb17 := gb16.below hb17
          clear B16 og16 hb17 gb16 p0 p1
          have T17 := hide (T4.out.below B17)
          have hW17 : w.heap.size + 2 ≤ W17.heap.size := by have := B17.size; have := hbVW.out; omega
          obtain ⟨c0, c1, d0, d1⟩ := tw_cells T17.out
          go_upto_region 31 with fail
          go_cut [15, 16] (fun s15 s16 wx => ∃ g aw cw, s15 = .pointer (some ⟨g, 0, none⟩) ∧ s16 = .bool B ∧ Box wx g N aw L.length cw ∧ Ints wx aw L ∧ Below W17.heap.size W17 wx)
          case first =>
            have tv0 := hide (T17.out.below (bdrew' (Below.refl _ _)))
            have hb0 : Hid (Below W17.heap.size W17 W17.drew) := bdrew' (Below.refl _ _)
            refine wp_region_held_drew (S := (fun w' => w'.cell? ⟨w.heap.size, 0, none⟩ = some (.int .i64 na) ∧ w'.cell? ⟨w.heap.size, 1, none⟩ = some (.slice a xs.length ca) ∧ w'.cell? ⟨w.heap.size + 1, 0, none⟩ = some (.int .i64 nb) ∧ w'.cell? ⟨w.heap.size + 1, 1, none⟩ = some (.slice b ys.length cb))) (by kernel_rfl) ?_ (fun hHeld => ?_)
            · exact (tw_cells tv0.out)
            refine wpAnyH_take (i := 0) (v := ?vvt19) rfl (by kernel_rfl) (by kernel_rfl) (by kernel_rfl) (fun _ _ _ h => h) (Or.inl ⟨by rfl, ?hyt19⟩) (by assumption) ?restt19
            case hyt19 => (intro w hSw; (try dsimp only at hSw); go_simp; (try with_reducible rfl))
            case restt19 =>
              (try simp only [Act.put, List.setIfInBounds_toArray, List.set_cons_zero, List.set_cons_succ, List.getElem_toArray, List.getElem_cons_zero])
              refine wpAnyH_take (i := 2) (v := ?vvt20) rfl (by kernel_rfl) (by kernel_rfl) (by kernel_rfl) (fun _ _ _ h => h) (Or.inl ⟨by rfl, ?hyt20⟩) (by assumption) ?restt20
              case hyt20 => (intro w hSw; (try dsimp only at hSw); go_simp; (try with_reducible rfl))
              case restt20 =>
                (try simp only [Act.put, List.setIfInBounds_toArray, List.set_cons_zero, List.set_cons_succ, List.getElem_toArray, List.getElem_cons_zero, List.getElem_cons_succ])
                refine wpAnyH_ready (rs := [1, 8]) (by kernel_rfl) (by simp) ?_
                refine (AllReadyH.cons rfl (fun K hK => ?_) (AllReadyH.cons rfl (fun K hK => ?_) AllReadyH.nil))
                · go_simp
                  (go_at_call 13; refine (toSpace_any _ _ _ _ _ (tw_ia tv0.out) hn).mono ?_)
                  rintro e w1 ⟨s1, rfl, own1, b1⟩
                  have i11 := hide own1.ints
                  have tv1 := hide (tv0.out.below b1)
                  have hb1 := hide (bnext hb0.out b1)
                  go_wp2_with fail
                  refine hK.out _ _ ?_ (fun hHeld => ?_)
                  · exact (tw_cells tv1.out)
                  clear hK K
                  (try simp only [Act.put, List.setIfInBounds_toArray, List.set_cons_zero, List.set_cons_succ, List.getElem_toArray, List.getElem_cons_zero, List.getElem_cons_succ])
                  refine wpAnyH_ready (rs := [3, 8]) (by kernel_rfl) (by simp) ?_
                  refine (AllReadyH.cons rfl (fun K hK => ?_) (AllReadyH.cons rfl (fun K hK => ?_) AllReadyH.nil))
                  · go_simp
                    (go_at_call 13; refine (toSpace_any _ _ _ _ _ (tw_ib tv1.out) hm).mono ?_)
                    rintro e w2 ⟨s2, rfl, own2, b2⟩
                    have i12 := hide (i11.out.below b2)
                    have i22 := hide own2.ints
                    have tv2 := hide (tv1.out.below b2)
                    have hb2 := hide (bnext hb1.out b2)
                    go_wp2_with fail
                    refine hK.out _ _ ?_ (fun hHeld => ?_)
                    · exact (tw_cells tv2.out)
                    clear hK K
                    (try simp only [Act.put, List.setIfInBounds_toArray, List.set_cons_zero, List.set_cons_succ, List.getElem_toArray, List.getElem_cons_zero, List.getElem_cons_succ])
                    refine wpAnyH_ready (rs := [4, 8]) (by kernel_rfl) (by simp) ?_
                    refine (AllReadyH.cons rfl (fun K hK => ?_) (AllReadyH.cons rfl (fun K hK => ?_) AllReadyH.nil))
                    · go_simp
                      (go_at_call 34; refine (crossP_was _ _ _ _ _ _ _ _ N L B _ i12.out i22.out hn hm HN.out HL.out HBB.out).mono ?_)
                      rintro e w3 ⟨vw, rfl, ow3, b3⟩
                      obtain ⟨aw, cw, rfl, _, _⟩ := ow3.form
                      have iw3 := hide ow3.ints
                      have tv3 := hide (tv2.out.below b3)
                      have hb3 := hide (bnext hb2.out b3)
                      go_wp2_with fail
                      refine hK.out _ _ ?_ (fun hHeld => ?_)
                      · exact (tw_cells tv3.out)
                      clear hK K
                      (try simp only [Act.put, List.setIfInBounds_toArray, List.set_cons_zero, List.set_cons_succ, List.getElem_toArray, List.getElem_cons_zero, List.getElem_cons_succ])
                      refine wpAnyH_take (i := 5) (v := ?vvt21) rfl (by kernel_rfl) (by kernel_rfl) (by kernel_rfl) (fun _ _ _ h => h) (Or.inl ⟨by rfl, ?hyt21⟩) (by assumption) ?restt21
                      case hyt21 => (intro w hSw; (try dsimp only at hSw); go_simp; (try with_reducible rfl))
                      case restt21 =>
                        (try simp only [Act.put, List.setIfInBounds_toArray, List.set_cons_zero, List.set_cons_succ, List.getElem_toArray, List.getElem_cons_zero, List.getElem_cons_succ])
                        refine wpAnyH_take (i := 6) (v := ?vvt22) rfl (by kernel_rfl) (by kernel_rfl) (by kernel_rfl) (fun _ _ _ h => h) (Or.inl ⟨by rfl, ?hyt22⟩) (by assumption) ?restt22
                        case hyt22 => (intro w hSw; (try dsimp only at hSw); go_simp; (try with_reducible rfl))
                        case restt22 =>
                          (try simp only [Act.put, List.setIfInBounds_toArray, List.set_cons_zero, List.set_cons_succ, List.getElem_toArray, List.getElem_cons_zero, List.getElem_cons_succ])
                          refine wpAnyH_take (i := 7) (v := ?vvt23) rfl (by kernel_rfl) (by kernel_rfl) (by kernel_rfl) (fun _ _ _ h => h) (Or.inl ⟨by rfl, ?hyt23⟩) (by assumption) ?restt23
                          case hyt23 => (intro w hSw; (try dsimp only at hSw); go_simp; (try with_reducible rfl))
                          case restt23 =>
                            (try simp only [Act.put, List.setIfInBounds_toArray, List.set_cons_zero, List.set_cons_succ, List.getElem_toArray, List.getElem_cons_zero, List.getElem_cons_succ])
                            refine wpAnyH_ready (rs := [8]) (by kernel_rfl) (by simp) ?_
                            refine (AllReadyH.cons rfl (fun K hK => ?_) AllReadyH.nil)
                            go_simp
                            have tv4 := hide (tv3.out.below (bel1 w3 (.cells #[.int .i64 0, .slice none 0 0] 26)))
                            have hb4 := hide (bnext hb3.out (bel1 w3 (.cells #[.int .i64 0, .slice none 0 0] 26)))
                            have hg4 : Hid ((w3.alloc (.cells #[.int .i64 0, .slice none 0 0] 26)).heap[w3.heap.size]? = some (.cells #[.int .i64 0, .slice none 0 0] 26 (0, 0))) := heap_alloc_new w3 _
                            have iw4 := hide (iw3.out.below (bel1 w3 (.cells #[.int .i64 0, .slice none 0 0] 26)))
                            have ne4 : ∀ bb o s, aw = some ⟨bb, o, s⟩ → bb ≠ w3.heap.size := fun bb o s e => by have h1 := own_lt ow3 bb (by rw [e]; rfl); omega
                            refine hK.out _ _ ?_ (fun hHeld => ?_)
                            · exact (tw_cells tv4.out)
                            clear hK K
                            (try simp only [Act.put, List.setIfInBounds_toArray, List.set_cons_zero, List.set_cons_succ, List.getElem_toArray, List.getElem_cons_zero, List.getElem_cons_succ])
                            have hg5 := hg4.out
                            have f0 := unfrozen_of_block hg5 0
                            have f1 := unfrozen_of_block hg5 1
                            have r0 := cell_of_block hg5 0
                            have r1 := cell_of_block hg5 1
                            have hsb5 := hide (tv3.out.below (bel1 w3 (.cells #[.int .i64 N, .slice aw L.length cw] 26)))
                            have BX5 := hide (Box.new w3 N aw L.length cw 26)
                            have IX5 := hide (iw3.out.below (bel1 w3 (.cells #[.int .i64 N, .slice aw L.length cw] 26)))
                            have BB5 := hide (bnext hb3.out (bel1 w3 (.cells #[.int .i64 N, .slice aw L.length cw] 26)))
                            refine wpAnyH_ready (rs := [9]) (by kernel_rfl) (by simp) ?_
                            refine (AllReadyH.cons rfl (fun K hK => ?_) AllReadyH.nil)
                            go_simp
                            refine hK.out _ _ ?_ (fun hHeld => ?_)
                            · exact (tw_cells hsb5.out)
                            clear hK K
                            (try simp only [Act.put, List.setIfInBounds_toArray, List.set_cons_zero, List.set_cons_succ, List.getElem_toArray, List.getElem_cons_zero, List.getElem_cons_succ])
                            refine wpAnyH_take (i := 10) (v := ?vvt24) rfl (by kernel_rfl) (by kernel_rfl) (by kernel_rfl) (fun _ _ _ h => h) (Or.inl ⟨by rfl, ?hyt24⟩) (by assumption) ?restt24
                            case hyt24 => (intro w hSw; (try dsimp only at hSw); go_simp; (try with_reducible rfl))
                            case restt24 =>
                              (try simp only [Act.put, List.setIfInBounds_toArray, List.set_cons_zero, List.set_cons_succ, List.getElem_toArray, List.getElem_cons_zero, List.getElem_cons_succ])
                              refine wpAnyH_done (by kernel_rfl) ?_ _
                              go_wp2_with fail
                              go_meet
                              exact ⟨_, aw, cw, rfl, rfl, BX5.out, IX5.out, BB5.out⟩
                    · go_simp
                      have tv6 := hide (tv2.out.below (bel1 w2 (.cells #[.int .i64 0, .slice none 0 0] 26)))
                      have hb6 := hide (bnext hb2.out (bel1 w2 (.cells #[.int .i64 0, .slice none 0 0] 26)))
                      have hg6 : Hid ((w2.alloc (.cells #[.int .i64 0, .slice none 0 0] 26)).heap[w2.heap.size]? = some (.cells #[.int .i64 0, .slice none 0 0] 26 (0, 0))) := heap_alloc_new w2 _
                      have i16 := hide (i12.out.below (bel1 w2 (.cells #[.int .i64 0, .slice none 0 0] 26)))
                      have i26 := hide (i22.out.below (bel1 w2 (.cells #[.int .i64 0, .slice none 0 0] 26)))
                      refine hK.out _ _ ?_ (fun hHeld => ?_)
                      · exact (tw_cells tv6.out)
                      clear hK K
                      (try simp only [Act.put, List.setIfInBounds_toArray, List.set_cons_zero, List.set_cons_succ, List.getElem_toArray, List.getElem_cons_zero, List.getElem_cons_succ])
                      refine wpAnyH_ready (rs := [4]) (by kernel_rfl) (by simp) ?_
                      refine (AllReadyH.cons rfl (fun K hK => ?_) AllReadyH.nil)
                      go_simp
                      (go_at_call 34; refine (crossP_was _ _ _ _ _ _ _ _ N L B _ i16.out i26.out hn hm HN.out HL.out HBB.out).mono ?_)
                      rintro e w7 ⟨vw, rfl, ow7, b7⟩
                      obtain ⟨aw, cw, rfl, _, _⟩ := ow7.form
                      have iw7 := hide ow7.ints
                      have tv7 := hide (tv6.out.below b7)
                      have hb7 := hide (bnext hb6.out b7)
                      have hg7 := hide ((b7.block _ (lt_of_block hg6.out)).trans hg6.out)
                      have ne7 : ∀ bb o s, aw = some ⟨bb, o, s⟩ → bb ≠ w2.heap.size := fun bb o s e => by have h1 := own_ge ow7 bb (by rw [e]; rfl); have h2 := lt_of_block hg6.out; omega
                      go_wp2_with fail
                      refine hK.out _ _ ?_ (fun hHeld => ?_)
                      · exact (tw_cells tv7.out)
                      clear hK K
                      (try simp only [Act.put, List.setIfInBounds_toArray, List.set_cons_zero, List.set_cons_succ, List.getElem_toArray, List.getElem_cons_zero, List.getElem_cons_succ])
                      refine wpAnyH_take (i := 5) (v := ?vvt25) rfl (by kernel_rfl) (by kernel_rfl) (by kernel_rfl) (fun _ _ _ h => h) (Or.inl ⟨by rfl, ?hyt25⟩) (by assumption) ?restt25
                      case hyt25 => (intro w hSw; (try dsimp only at hSw); go_simp; (try with_reducible rfl))
                      case restt25 =>
                        (try simp only [Act.put, List.setIfInBounds_toArray, List.set_cons_zero, List.set_cons_succ, List.getElem_toArray, List.getElem_cons_zero, List.getElem_cons_succ])
                        refine wpAnyH_take (i := 6) (v := ?vvt26) rfl (by kernel_rfl) (by kernel_rfl) (by kernel_rfl) (fun _ _ _ h => h) (Or.inl ⟨by rfl, ?hyt26⟩) (by assumption) ?restt26
                        case hyt26 => (intro w hSw; (try dsimp only at hSw); go_simp; (try with_reducible rfl))
                        case restt26 =>
                          (try simp only [Act.put, List.setIfInBounds_toArray, List.set_cons_zero, List.set_cons_succ, List.getElem_toArray, List.getElem_cons_zero, List.getElem_cons_succ])
                          refine wpAnyH_take (i := 7) (v := ?vvt27) rfl (by kernel_rfl) (by kernel_rfl) (by kernel_rfl) (fun _ _ _ h => h) (Or.inl ⟨by rfl, ?hyt27⟩) (by assumption) ?restt27
                          case hyt27 => (intro w hSw; (try dsimp only at hSw); go_simp; (try with_reducible rfl))
                          case restt27 =>
                            (try simp only [Act.put, List.setIfInBounds_toArray, List.set_cons_zero, List.set_cons_succ, List.getElem_toArray, List.getElem_cons_zero, List.getElem_cons_succ])
                            have hg8 := hg7.out
                            have f0 := unfrozen_of_block hg8 0
                            have f1 := unfrozen_of_block hg8 1
                            have r0 := cell_of_block hg8 0
                            have r1 := cell_of_block hg8 1
                            have hge8 : W17.heap.size ≤ w2.heap.size := hb2.out.size
                            have hsb8 := hide (tv7.out.set2 (g := w2.heap.size) (by omega) (.int .i64 N) (.slice aw L.length cw))
                            have BX8 := hide (box_set hg7.out (.int .i64 N) (.slice aw L.length cw))
                            have IX8 := hide (ints_set2 iw7.out (.int .i64 N) (.slice aw L.length cw) ne7)
                            have BB8 := hide ((hb7.out.setCell (p := ⟨w2.heap.size, 0, none⟩) hge8 (.int .i64 N)).setCell (p := ⟨w2.heap.size, 1, none⟩) hge8 (.slice aw L.length cw))
                            refine wpAnyH_ready (rs := [9]) (by kernel_rfl) (by simp) ?_
                            refine (AllReadyH.cons rfl (fun K hK => ?_) AllReadyH.nil)
                            go_simp
                            refine hK.out _ _ ?_ (fun hHeld => ?_)
                            · exact (tw_cells hsb8.out)
                            clear hK K
                            (try simp only [Act.put, List.setIfInBounds_toArray, List.set_cons_zero, List.set_cons_succ, List.getElem_toArray, List.getElem_cons_zero, List.getElem_cons_succ])
                            refine wpAnyH_take (i := 10) (v := ?vvt28) rfl (by kernel_rfl) (by kernel_rfl) (by kernel_rfl) (fun _ _ _ h => h) (Or.inl ⟨by rfl, ?hyt28⟩) (by assumption) ?restt28
                            case hyt28 => (intro w hSw; (try dsimp only at hSw); go_simp; (try with_reducible rfl))
                            case restt28 =>
                              (try simp only [Act.put, List.setIfInBounds_toArray, List.set_cons_zero, List.set_cons_succ, List.getElem_toArray, List.getElem_cons_zero, List.getElem_cons_succ])
                              refine wpAnyH_done (by kernel_rfl) ?_ _
                              go_wp2_with fail
                              go_meet
                              exact ⟨_, aw, cw, rfl, rfl, BX8.out, IX8.out, BB8.out⟩
                  · go_simp
                    have tv9 := hide (tv1.out.below (bel1 w1 (.cells #[.int .i64 0, .slice none 0 0] 26)))
                    have hb9 := hide (bnext hb1.out (bel1 w1 (.cells #[.int .i64 0, .slice none 0 0] 26)))
                    have hg9 : Hid ((w1.alloc (.cells #[.int .i64 0, .slice none 0 0] 26)).heap[w1.heap.size]? = some (.cells #[.int .i64 0, .slice none 0 0] 26 (0, 0))) := heap_alloc_new w1 _
                    have i19 := hide (i11.out.below (bel1 w1 (.cells #[.int .i64 0, .slice none 0 0] 26)))
                    refine hK.out _ _ ?_ (fun hHeld => ?_)
                    · exact (tw_cells tv9.out)
                    clear hK K
                    (try simp only [Act.put, List.setIfInBounds_toArray, List.set_cons_zero, List.set_cons_succ, List.getElem_toArray, List.getElem_cons_zero, List.getElem_cons_succ])
                    refine wpAnyH_ready (rs := [3]) (by kernel_rfl) (by simp) ?_
                    refine (AllReadyH.cons rfl (fun K hK => ?_) AllReadyH.nil)
                    go_simp
                    (go_at_call 13; refine (toSpace_any _ _ _ _ _ (tw_ib tv9.out) hm).mono ?_)
                    rintro e w10 ⟨s10, rfl, own10, b10⟩
                    have i110 := hide (i19.out.below b10)
                    have i210 := hide own10.ints
                    have tv10 := hide (tv9.out.below b10)
                    have hb10 := hide (bnext hb9.out b10)
                    have hg10 := hide ((b10.block _ (lt_of_block hg9.out)).trans hg9.out)
                    go_wp2_with fail
                    refine hK.out _ _ ?_ (fun hHeld => ?_)
                    · exact (tw_cells tv10.out)
                    clear hK K
                    (try simp only [Act.put, List.setIfInBounds_toArray, List.set_cons_zero, List.set_cons_succ, List.getElem_toArray, List.getElem_cons_zero, List.getElem_cons_succ])
                    refine wpAnyH_ready (rs := [4]) (by kernel_rfl) (by simp) ?_
                    refine (AllReadyH.cons rfl (fun K hK => ?_) AllReadyH.nil)
                    go_simp
                    (go_at_call 34; refine (crossP_was _ _ _ _ _ _ _ _ N L B _ i110.out i210.out hn hm HN.out HL.out HBB.out).mono ?_)
                    rintro e w11 ⟨vw, rfl, ow11, b11⟩
                    obtain ⟨aw, cw, rfl, _, _⟩ := ow11.form
                    have iw11 := hide ow11.ints
                    have tv11 := hide (tv10.out.below b11)
                    have hb11 := hide (bnext hb10.out b11)
                    have hg11 := hide ((b11.block _ (lt_of_block hg10.out)).trans hg10.out)
                    have ne11 : ∀ bb o s, aw = some ⟨bb, o, s⟩ → bb ≠ w1.heap.size := fun bb o s e => by have h1 := own_ge ow11 bb (by rw [e]; rfl); have h2 := lt_of_block hg10.out; omega
                    go_wp2_with fail
                    refine hK.out _ _ ?_ (fun hHeld => ?_)
                    · exact (tw_cells tv11.out)
                    clear hK K
                    (try simp only [Act.put, List.setIfInBounds_toArray, List.set_cons_zero, List.set_cons_succ, List.getElem_toArray, List.getElem_cons_zero, List.getElem_cons_succ])
                    refine wpAnyH_take (i := 5) (v := ?vvt29) rfl (by kernel_rfl) (by kernel_rfl) (by kernel_rfl) (fun _ _ _ h => h) (Or.inl ⟨by rfl, ?hyt29⟩) (by assumption) ?restt29
                    case hyt29 => (intro w hSw; (try dsimp only at hSw); go_simp; (try with_reducible rfl))
                    case restt29 =>
                      (try simp only [Act.put, List.setIfInBounds_toArray, List.set_cons_zero, List.set_cons_succ, List.getElem_toArray, List.getElem_cons_zero, List.getElem_cons_succ])
                      refine wpAnyH_take (i := 6) (v := ?vvt30) rfl (by kernel_rfl) (by kernel_rfl) (by kernel_rfl) (fun _ _ _ h => h) (Or.inl ⟨by rfl, ?hyt30⟩) (by assumption) ?restt30
                      case hyt30 => (intro w hSw; (try dsimp only at hSw); go_simp; (try with_reducible rfl))
                      case restt30 =>
                        (try simp only [Act.put, List.setIfInBounds_toArray, List.set_cons_zero, List.set_cons_succ, List.getElem_toArray, List.getElem_cons_zero, List.getElem_cons_succ])
                        refine wpAnyH_take (i := 7) (v := ?vvt31) rfl (by kernel_rfl) (by kernel_rfl) (by kernel_rfl) (fun _ _ _ h => h) (Or.inl ⟨by rfl, ?hyt31⟩) (by assumption) ?restt31
                        case hyt31 => (intro w hSw; (try dsimp only at hSw); go_simp; (try with_reducible rfl))
                        case restt31 =>
                          (try simp only [Act.put, List.setIfInBounds_toArray, List.set_cons_zero, List.set_cons_succ, List.getElem_toArray, List.getElem_cons_zero, List.getElem_cons_succ])
                          have hg12 := hg11.out
                          have f0 := unfrozen_of_block hg12 0
                          have f1 := unfrozen_of_block hg12 1
                          have r0 := cell_of_block hg12 0
                          have r1 := cell_of_block hg12 1
                          have hge12 : W17.heap.size ≤ w1.heap.size := hb1.out.size
                          have hsb12 := hide (tv11.out.set2 (g := w1.heap.size) (by omega) (.int .i64 N) (.slice aw L.length cw))
                          have BX12 := hide (box_set hg11.out (.int .i64 N) (.slice aw L.length cw))
                          have IX12 := hide (ints_set2 iw11.out (.int .i64 N) (.slice aw L.length cw) ne11)
                          have BB12 := hide ((hb11.out.setCell (p := ⟨w1.heap.size, 0, none⟩) hge12 (.int .i64 N)).setCell (p := ⟨w1.heap.size, 1, none⟩) hge12 (.slice aw L.length cw))
                          refine wpAnyH_ready (rs := [9]) (by kernel_rfl) (by simp) ?_
                          refine (AllReadyH.cons rfl (fun K hK => ?_) AllReadyH.nil)
                          go_simp
                          refine hK.out _ _ ?_ (fun hHeld => ?_)
                          · exact (tw_cells hsb12.out)
                          clear hK K
                          (try simp only [Act.put, List.setIfInBounds_toArray, List.set_cons_zero, List.set_cons_succ, List.getElem_toArray, List.getElem_cons_zero, List.getElem_cons_succ])
                          refine wpAnyH_take (i := 10) (v := ?vvt32) rfl (by kernel_rfl) (by kernel_rfl) (by kernel_rfl) (fun _ _ _ h => h) (Or.inl ⟨by rfl, ?hyt32⟩) (by assumption) ?restt32
                          case hyt32 => (intro w hSw; (try dsimp only at hSw); go_simp; (try with_reducible rfl))
                          case restt32 =>
                            (try simp only [Act.put, List.setIfInBounds_toArray, List.set_cons_zero, List.set_cons_succ, List.getElem_toArray, List.getElem_cons_zero, List.getElem_cons_succ])
                            refine wpAnyH_done (by kernel_rfl) ?_ _
                            go_wp2_with fail
                            go_meet
                            exact ⟨_, aw, cw, rfl, rfl, BX12.out, IX12.out, BB12.out⟩
                · go_simp
                  have tv13 := hide (T17.out.below (bdrew' (bel1 W17 (.cells #[.int .i64 0, .slice none 0 0] 26))))
                  have hb13 := hide (bdrew' (bel1 W17 (.cells #[.int .i64 0, .slice none 0 0] 26)))
                  have hg13 : Hid ((W17.alloc (.cells #[.int .i64 0, .slice none 0 0] 26)).drew.heap[W17.heap.size]? = some (.cells #[.int .i64 0, .slice none 0 0] 26 (0, 0))) := heap_alloc_new W17 _
                  refine hK.out _ _ ?_ (fun hHeld => ?_)
                  · exact (tw_cells tv13.out)
                  clear hK K
                  (try simp only [Act.put, List.setIfInBounds_toArray, List.set_cons_zero, List.set_cons_succ, List.getElem_toArray, List.getElem_cons_zero, List.getElem_cons_succ])
                  refine wpAnyH_ready (rs := [1]) (by kernel_rfl) (by simp) ?_
                  refine (AllReadyH.cons rfl (fun K hK => ?_) AllReadyH.nil)
                  go_simp
                  (go_at_call 13; refine (toSpace_any _ _ _ _ _ (tw_ia tv13.out) hn).mono ?_)
                  rintro e w14 ⟨s14, rfl, own14, b14⟩
                  have i114 := hide own14.ints
                  have tv14 := hide (tv13.out.below b14)
                  have hb14 := hide (bnext hb13.out b14)
                  have hg14 := hide ((b14.block _ (lt_of_block hg13.out)).trans hg13.out)
                  go_wp2_with fail
                  refine hK.out _ _ ?_ (fun hHeld => ?_)
                  · exact (tw_cells tv14.out)
                  clear hK K
                  (try simp only [Act.put, List.setIfInBounds_toArray, List.set_cons_zero, List.set_cons_succ, List.getElem_toArray, List.getElem_cons_zero, List.getElem_cons_succ])
                  refine wpAnyH_ready (rs := [3]) (by kernel_rfl) (by simp) ?_
                  refine (AllReadyH.cons rfl (fun K hK => ?_) AllReadyH.nil)
                  go_simp
                  (go_at_call 13; refine (toSpace_any _ _ _ _ _ (tw_ib tv14.out) hm).mono ?_)
                  rintro e w15 ⟨s15, rfl, own15, b15⟩
                  have i115 := hide (i114.out.below b15)
                  have i215 := hide own15.ints
                  have tv15 := hide (tv14.out.below b15)
                  have hb15 := hide (bnext hb14.out b15)
                  have hg15 := hide ((b15.block _ (lt_of_block hg14.out)).trans hg14.out)
                  go_wp2_with fail
                  refine hK.out _ _ ?_ (fun hHeld => ?_)
                  · exact (tw_cells tv15.out)
                  clear hK K
                  (try simp only [Act.put, List.setIfInBounds_toArray, List.set_cons_zero, List.set_cons_succ, List.getElem_toArray, List.getElem_cons_zero, List.getElem_cons_succ])
                  refine wpAnyH_ready (rs := [4]) (by kernel_rfl) (by simp) ?_
                  refine (AllReadyH.cons rfl (fun K hK => ?_) AllReadyH.nil)
                  go_simp
                  (go_at_call 34; refine (crossP_was _ _ _ _ _ _ _ _ N L B _ i115.out i215.out hn hm HN.out HL.out HBB.out).mono ?_)
                  rintro e w16 ⟨vw, rfl, ow16, b16⟩
                  obtain ⟨aw, cw, rfl, _, _⟩ := ow16.form
                  have iw16 := hide ow16.ints
                  have tv16 := hide (tv15.out.below b16)
                  have hb16 := hide (bnext hb15.out b16)
                  have hg16 := hide ((b16.block _ (lt_of_block hg15.out)).trans hg15.out)
                  have ne16 : ∀ bb o s, aw = some ⟨bb, o, s⟩ → bb ≠ W17.heap.size := fun bb o s e => by have h1 := own_ge ow16 bb (by rw [e]; rfl); have h2 := lt_of_block hg15.out; omega
                  go_wp2_with fail
                  refine hK.out _ _ ?_ (fun hHeld => ?_)
                  · exact (tw_cells tv16.out)
                  clear hK K
                  (try simp only [Act.put, List.setIfInBounds_toArray, List.set_cons_zero, List.set_cons_succ, List.getElem_toArray, List.getElem_cons_zero, List.getElem_cons_succ])
                  refine wpAnyH_take (i := 5) (v := ?vvt33) rfl (by kernel_rfl) (by kernel_rfl) (by kernel_rfl) (fun _ _ _ h => h) (Or.inl ⟨by rfl, ?hyt33⟩) (by assumption) ?restt33
                  case hyt33 => (intro w hSw; (try dsimp only at hSw); go_simp; (try with_reducible rfl))
                  case restt33 =>
                    (try simp only [Act.put, List.setIfInBounds_toArray, List.set_cons_zero, List.set_cons_succ, List.getElem_toArray, List.getElem_cons_zero, List.getElem_cons_succ])
                    refine wpAnyH_take (i := 6) (v := ?vvt34) rfl (by kernel_rfl) (by kernel_rfl) (by kernel_rfl) (fun _ _ _ h => h) (Or.inl ⟨by rfl, ?hyt34⟩) (by assumption) ?restt34
                    case hyt34 => (intro w hSw; (try dsimp only at hSw); go_simp; (try with_reducible rfl))
                    case restt34 =>
                      (try simp only [Act.put, List.setIfInBounds_toArray, List.set_cons_zero, List.set_cons_succ, List.getElem_toArray, List.getElem_cons_zero, List.getElem_cons_succ])
                      refine wpAnyH_take (i := 7) (v := ?vvt35) rfl (by kernel_rfl) (by kernel_rfl) (by kernel_rfl) (fun _ _ _ h => h) (Or.inl ⟨by rfl, ?hyt35⟩) (by assumption) ?restt35
                      case hyt35 => (intro w hSw; (try dsimp only at hSw); go_simp; (try with_reducible rfl))
                      case restt35 =>
                        (try simp only [Act.put, List.setIfInBounds_toArray, List.set_cons_zero, List.set_cons_succ, List.getElem_toArray, List.getElem_cons_zero, List.getElem_cons_succ])
                        have hg17 := hg16.out
                        have f0 := unfrozen_of_block hg17 0
                        have f1 := unfrozen_of_block hg17 1
                        have r0 := cell_of_block hg17 0
                        have r1 := cell_of_block hg17 1
                        have hge17 : W17.heap.size ≤ W17.heap.size := Nat.le_refl _
                        have hsb17 := hide (tv16.out.set2 (g := W17.heap.size) (by omega) (.int .i64 N) (.slice aw L.length cw))
                        have BX17 := hide (box_set hg16.out (.int .i64 N) (.slice aw L.length cw))
                        have IX17 := hide (ints_set2 iw16.out (.int .i64 N) (.slice aw L.length cw) ne16)
                        have BB17 := hide ((hb16.out.setCell (p := ⟨W17.heap.size, 0, none⟩) hge17 (.int .i64 N)).setCell (p := ⟨W17.heap.size, 1, none⟩) hge17 (.slice aw L.length cw))
                        refine wpAnyH_ready (rs := [9]) (by kernel_rfl) (by simp) ?_
                        refine (AllReadyH.cons rfl (fun K hK => ?_) AllReadyH.nil)
                        go_simp
                        refine hK.out _ _ ?_ (fun hHeld => ?_)
                        · exact (tw_cells hsb17.out)
                        clear hK K
                        (try simp only [Act.put, List.setIfInBounds_toArray, List.set_cons_zero, List.set_cons_succ, List.getElem_toArray, List.getElem_cons_zero, List.getElem_cons_succ])
                        refine wpAnyH_take (i := 10) (v := ?vvt36) rfl (by kernel_rfl) (by kernel_rfl) (by kernel_rfl) (fun _ _ _ h => h) (Or.inl ⟨by rfl, ?hyt36⟩) (by assumption) ?restt36
                        case hyt36 => (intro w hSw; (try dsimp only at hSw); go_simp; (try with_reducible rfl))
                        case restt36 =>
                          (try simp only [Act.put, List.setIfInBounds_toArray, List.set_cons_zero, List.set_cons_succ, List.getElem_toArray, List.getElem_cons_zero, List.getElem_cons_succ])
                          refine wpAnyH_done (by kernel_rfl) ?_ _
                          go_wp2_with fail
                          go_meet
                          exact ⟨_, aw, cw, rfl, rfl, BX17.out, IX17.out, BB17.out⟩
          case rest =>
            obtain ⟨g8, ah, ch, rfl, rfl, bh, ih, hb20⟩ := hcut
            have B20 := bnext B17 hb20
            have og20 := og17.below hb20
            have gb20 := gb17.below hb20
            have bw20 := bw.below B20
            clear B17 og17 gb17 T17 hb20 c0 c1 d0 d1
            obtain ⟨_, p0, p1⟩ := bh.pair
            obtain ⟨_, q0, q1⟩ := bw20.pair
            go_wp2_with fail
            refine (eqSpace_yes _ _ _ _ _ _ _ ih (iw.below B20) hLl).mono ?_
            rintro e w21 ⟨rfl, hb21⟩
            have B21 := bnext B20 hb21
            have og21 := og20.below hb21
            have gb21 := gb20.below hb21
            clear B20 og20 gb20 hb21 ih p0 p1 q0 q1 bw20 bh
            obtain ⟨_, p0, p1⟩ := gb21.pair
            go_wp2_with fail
            refine (heldSpace_yes _ _ _ _ _ _ og21.ints hLl (by omega) (by omega)).mono ?_
            rintro e w22 ⟨rfl, hb22⟩
            go_wp2
            go_ret
            exact ⟨rfl, (T4.out.below (bnext B21 hb22)).2.2.2⟩
end Go.Proofs.Ytbnnblfgpdfmpaa
