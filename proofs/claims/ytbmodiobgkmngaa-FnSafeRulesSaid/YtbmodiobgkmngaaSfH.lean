/- The heads of a space: headsOf of the program. -/
import Derived.Test.YtbmodiobgkmngaaSfN
import Derived.Test.YtbmodiobgkmngaaSpc
import Derived.Deep.RegionWith
namespace Go.Proofs.Ytbmodiobgkmngaa
open Go.RowKit Go.Joins Go.Sort

theorem low_bits : ∀ j : Fin 4, ∀ x : Fin 16, bits .and .i64 ((x.val : Nat) : Int) (((2 ^ (j.val + 1) : Nat) : Int) - 1) = ((x.val % 2 ^ (j.val + 1) : Nat) : Int) := by decide +kernel
theorem headsClosure_any (x : Int) (j g : Nat) (w : World) (hj : j < 4) (hx : 0 ≤ x ∧ x ≤ 15) (hc : w.cell? ⟨g, 0, none⟩ = some (.int .i64 (j : Int))) :
    Calls Try.prog 52 #[.int .i64 x, .pointer (some ⟨g, 0, none⟩)] w fun e w' => e = .returned (.int .i64 (lowI j x)) ∧ Below w.heap.size w w' := by
  obtain ⟨y, rfl⟩ := Int.eq_ofNat_of_zero_le hx.1
  have p8 : 2 ^ (j + 1) ≤ 2 ^ 4 := Nat.pow_le_pow_right (by omega) (by omega)
  have p1 := Nat.two_pow_pos (j + 1)
  have hsh : wrap64 (wrap64 ((2 : Int) ^ (j + 1)) - 1) = ((2 ^ (j + 1) : Nat) : Int) - 1 := by
    have e : ((2 : Int) ^ (j + 1)) = ((2 ^ (j + 1) : Nat) : Int) := by simp
    rw [e, show wrap64 ((2 ^ (j + 1) : Nat) : Int) = ((2 ^ (j + 1) : Nat) : Int) from IntWalk.wrap64_in _ (by omega), IntWalk.wrap64_in _ (by omega)]
  have HD : Hid (bits .and .i64 (y : Int) (wrap64 (wrap64 ((2 : Int) ^ (j + 1)) - 1)) = lowI j (y : Int)) := by
    unfold Hid lowI
    rw [hsh, Int.toNat_natCast]
    exact low_bits ⟨j, hj⟩ ⟨y, by omega⟩
  have hy : y < 16 := by omega
  clear hsh hx p8 p1
  go_enter Try.func52, Try.ntmps52
  go_wp2
  go_ret
  exact ⟨ret_int HD.out, Below.refl _ _⟩
set_option maxHeartbeats 4000000 in
set_option maxRecDepth 100000 in
theorem spaceOfH_any (f : Int → Int) (m : Int) (a : Option Addr) (cap gf : Nat) (zs : List Int) (w : World) (hi : Ints w a zs) (hn : zs.length ≤ 1048576) (h0 : 0 < zs.length)
    (hf : ∀ (x : Int) (w' : World), x ∈ zs → Below w.heap.size w w' → Calls Try.prog 52 #[.int .i64 x, .pointer (some ⟨gf, 0, none⟩)] w' fun e w'' => e = .returned (.int .i64 (f x)) ∧ Below w'.heap.size w' w'') :
    Calls Try.prog 51 #[.int .i64 m, .slice a zs.length cap, .func (.func 52) #[] #[.pointer (some ⟨gf, 0, none⟩)]] w (GivesS m (unq (zs.map f)) w) := by
  obtain ⟨i0, hi0, hz0, hz1, hz2⟩ := info_parts info_int
  have hres := heap_alloc_new w (.cells #[.int .i64 0, .slice none 0 0] 25)
  have HRES := hide hres
  have B0 := hide (bel1 w (.cells #[.int .i64 0, .slice none 0 0] 25))
  have HI := hide hi
  have HF := hide hf
  have HH0 := hide h0
  clear hres hi hf
  go_enter Try.func51, Try.ntmps51
  go_wp2_with (at_make; refine wpList_make_full _ rfl _ _ 23 rfl (w.heap.size + 1) 3 i0 (.int .i64 0) 1 Try.underlying23 hi0 hz0 hz1 _ _ _ _ zs.length rfl rfl (by first | omega | (simp; omega)) (by first | omega | (simp; omega)) ?b2 ?b3 (by simp) ?_)
  case b2 => rw [hz2]; omega
  case b3 => unfold maxLen; omega
  intro w0 hown0 hgrow0
  rw [madeInts] at hown0
  have hblk0 := own_blkZ hown0
  have BW := hide (B0.out.grown hgrow0 (by simp) (fun k h => by cases h))
  have HR0 := hide ((hgrow0.block w.heap.size (by simp) (by simp)).trans HRES.out)
  have HB0 := hide (show w0.heap[w.heap.size + 1]? = some (.cells ((mrow f zs 0).map (Value.int .i64)).toArray 3 (0, 0)) by rw [mrow_zero]; exact hblk0)
  clear hown0 hgrow0 hblk0
  go_wp2_with fail
  go_loopw [15] (fun i wr => ∃ k : Nat, k ≤ zs.length ∧ i = .int .i64 k ∧ wr.heap[w.heap.size + 1]? = some (.cells ((mrow f zs k).map (Value.int .i64)).toArray 3 (0, 0)) ∧ wr.heap[w.heap.size]? = some (.cells #[.int .i64 0, .slice none 0 0] 25 (0, 0)) ∧ Below w.heap.size w wr) (fun i _ => zs.length - (intOf i).toNat)
  case atStart => exact ⟨0, Nat.zero_le _, rfl, HB0.out, HR0.out, BW.out⟩
  case round =>
    clear HB0 HR0 BW
    obtain ⟨k, hk, rfl, hblk, hr, hb⟩ := hrel
    have HBL := hide hblk
    have HR := hide hr
    have HB := hide hb
    have hsz := lt_of_block hblk
    clear hblk hr
    by_cases hlt : k < zs.length
    · obtain ⟨sb, so, rfl, hbl, hcc⟩ := (HI.out.below hb) (by omega)
      have hck := hcc k hlt
      rw [getD_lt hlt] at hck
      obtain ⟨x, hx⟩ : ∃ x, zs[k] = x := ⟨_, rfl⟩
      rw [hx] at hck
      have HX := hide hx
      have HXM := hide (show x ∈ zs by rw [← hx]; exact List.getElem_mem hlt)
      clear hcc hbl hx hb
      go_wp2_with fail
      refine (HF.out x _ HXM.out HB.out).mono ?_
      rintro e w5 ⟨rfl, b5⟩
      have hblk5 := (b5.block _ hsz).trans HBL.out
      have hr5 := (b5.block _ (by omega)).trans HR.out
      have hmk : k < (mrow f zs k).length := by rw [mrow_len f zs hk]; exact hlt
      have q0 := cell_of_block hblk5 k
      rw [mrow_cell f zs hmk] at q0
      have q1 := unfrozen_of_block hblk5 k
      have HBL5 := hide hblk5
      have HR5 := hide hr5
      have HB5 := hide (bnext HB.out b5)
      clear hblk5 hr5 b5
      go_wp2
      go_roundw
      case rel =>
        refine ⟨k + 1, by omega, by go_num, ?_, (Below.heap_setCell _ _ _ _ (by show w.heap.size ≠ w.heap.size + 1; omega)).trans HR5.out, HB5.out.setCell (p := ⟨w.heap.size + 1, k, none⟩) (by show w.heap.size ≤ w.heap.size + 1; omega) _⟩
        rw [block_setCell HBL5.out, ← HX.out, mrow_put f zs hlt]
      case measure => simp only [intOf]; omega
    · obtain rfl : k = zs.length := by omega
      have hblk := HBL.out
      rw [mrow_all] at hblk
      have HBK := hide hblk
      clear hblk hb
      have hlm : (zs.map f).length ≤ 1048576 := by rw [List.length_map]; exact hn
      go_wp2_with fail
      have hsort := sortZ_any (w.heap.size + 1) zs.length (zs.map f) wr HBK.out hlm
      rw [List.length_map] at hsort
      refine hsort.mono ?_
      rintro e w5 ⟨rfl, h5, g5⟩
      have hr5 := hide ((g5.block _ (lt_of_block HR.out) (by simp)).trans HR.out)
      have HB5 := hide (bgrown HB.out g5 HB.out.size (fun j hj => by cases hj; omega))
      have H5 := hide h5
      clear h5 g5 hsort HBK HBL
      go_wp2_with fail
      have hcomp := compZ_any (w.heap.size + 1) (srt (zs.map f)) w5 (w.heap.size + 1) (Nat.le_refl _) H5.out (by rw [srt_len]; exact hlm)
      rw [srt_len, List.length_map] at hcomp
      refine hcomp.mono ?_
      rintro e w6 ⟨rfl, o6, g6⟩
      have hr6 := (g6.block _ (lt_of_block hr5.out) (by simp)).trans hr5.out
      have f0 := unfrozen_of_block hr6 0
      have f1 := unfrozen_of_block hr6 1
      have p0 := cell_of_block hr6 0
      have p1 := cell_of_block hr6 1
      have HR6 := hide hr6
      have HB6 := hide (bgrown HB5.out g6 HB5.out.size (fun j hj => by cases hj; omega))
      have HO6 := hide o6
      clear hr6 g6 o6 hcomp
      go_wp2
      refine bodyPost_ret (ret_space rfl _ _ _ _ _ rfl (block_setCell (i := 1) (block_setCell (i := 0) HR6.out _) _)) rfl ?_
      exact ⟨_, rfl, ((HO6.out.setBelow (p := ⟨w.heap.size, 0, none⟩) (by show w.heap.size < w.heap.size + 1; omega) _).setBelow (p := ⟨w.heap.size, 1, none⟩) (by show w.heap.size < w.heap.size + 1; omega) _).le (by omega), (HB6.out.setCell (p := ⟨w.heap.size, 0, none⟩) (Nat.le_refl _) _).setCell (p := ⟨w.heap.size, 1, none⟩) (Nat.le_refl _) _⟩
theorem info_space : (Try.prog.info? 25).map (fun i => (i.zero, i.size, i.bytes)) = some (some (.agg #[.int .i64 0, .slice none 0 0]), 2, 32) := by kernel_rfl
theorem gset1 (w : World) (R i : Nat) (v : Value) : w.grownBy (w.setCell ⟨R, i, none⟩ v) (some R) :=
  ⟨rfl, rfl, rfl, by simp, fun k _ hne => Below.heap_setCell _ _ _ _ (fun e => hne (by rw [e]))⟩
theorem sf_len16 {n : Int} {zs : List Int} (h : Valid n zs) : zs.length ≤ 16 := by
  have hr := valid_range h
  have key : ∀ k, k < zs.length → (k : Int) ≤ zs.getD k 0 := by
    intro k
    induction k with
    | zero => intro hk; exact (h.2.2 0 hk).1.1
    | succ k ih => intro hk; have h1 := ih (by omega); have h2 := (h.2.2 (k + 1) hk).2 (by omega); simp only [Nat.add_sub_cancel] at h2; omega
  rcases Nat.lt_or_ge 16 zs.length with hl | hl
  · have h1 := key 16 hl
    have h2 := hr _ (List.getElem_mem hl)
    rw [getD_lt hl] at h1
    omega
  · exact hl
/-- the first k heads in a block -/
def HdI (w : World) (G : Nat) (zs : List Int) (N k : Nat) : Prop :=
  ∃ cs : Array Value, w.heap[G]? = some (.cells cs 25 (0, 0)) ∧ cs.size = N * 2 ∧ ∀ i, i < k → cs[i * 2]? = some (.int .i64 ((i : Int) + 1)) ∧ ∃ v, cs[i * 2 + 1]? = some v ∧ Owns w (G + 1) v (hdL zs i)
theorem HdI.below {w w' : World} {G N k : Nat} {zs : List Int} (h : HdI w G zs N k) (hb : Below w.heap.size w w') : HdI w' G zs N k := by
  obtain ⟨cs, h1, h2, h3⟩ := h
  refine ⟨cs, (hb.block _ (lt_of_block h1)).trans h1, h2, fun i hi => ?_⟩
  obtain ⟨e1, v, e2, e3⟩ := h3 i hi
  exact ⟨e1, v, e2, e3.below hb⟩
theorem HdI.put {w w' : World} {G N k : Nat} {zs : List Int} (h : HdI w G zs N k) (hk : k < N) (hb : Below w.heap.size w w') {v : Value} (ho : Owns w' (G + 1) v (hdL zs k)) :
    HdI ((w'.setCell ⟨G, k * 2, none⟩ (.int .i64 ((k : Int) + 1))).setCell ⟨G, k * 2 + 1, none⟩ v) G zs N (k + 1) := by
  obtain ⟨cs, h1, h2, h3⟩ := h
  have h1' := (hb.block _ (lt_of_block h1)).trans h1
  refine ⟨_, block_setCell (i := k * 2 + 1) (block_setCell (i := k * 2) h1' (.int .i64 ((k : Int) + 1))) v, by simp [h2], fun i hi => ?_⟩
  have hkeep : ∀ {v : Value} {L : List Int}, Owns w' (G + 1) v L → ∀ u, Owns ((w'.setCell ⟨G, k * 2, none⟩ (.int .i64 ((k : Int) + 1))).setCell ⟨G, k * 2 + 1, none⟩ u) (G + 1) v L := fun h u =>
    (h.other (gset1 w' G (k * 2) _) (fun g e => by cases e; omega)).other (gset1 _ G (k * 2 + 1) u) (fun g e => by cases e; omega)
  rcases Nat.lt_or_ge i k with hlt | hge
  · obtain ⟨e1, u, e2, e3⟩ := h3 i hlt
    refine ⟨?_, u, ?_, hkeep (e3.below hb) v⟩
    · rw [Array.getElem?_setIfInBounds_ne (by omega), Array.getElem?_setIfInBounds_ne (by omega)]; exact e1
    · rw [Array.getElem?_setIfInBounds_ne (by omega), Array.getElem?_setIfInBounds_ne (by omega)]; exact e2
  · obtain rfl : i = k := by omega
    refine ⟨?_, v, ?_, hkeep ho v⟩
    · rw [Array.getElem?_setIfInBounds_ne (by omega), Array.getElem?_setIfInBounds_self_of_lt (by omega)]
    · rw [Array.getElem?_setIfInBounds_self_of_lt (by simp; omega)]
theorem block_row {w : World} {base g N : Nat} {e : TypeId} {xs : List Value} {v : Value} (h : w.ownsRow base e 2 v N xs) (hv : v = .slice (some ⟨g, 0, none⟩) N N) : ∃ cs : Array Value, w.heap[g]? = some (.cells cs e (0, 0)) ∧ cs.size = N * 2 := by
  subst hv
  rcases h.2 with ⟨e, _⟩ | ⟨g', cap', cur, e, _, hh, _, _, hs, _⟩
  · cases e
  · cases e
    exact ⟨cur, hh, hs⟩
set_option maxHeartbeats 4000000 in
set_option maxRecDepth 100000 in
theorem headsOf_any (N : Nat) (a : Option Addr) (cap : Nat) (zs : List Int) (w : World) (hi : Ints w a zs) (hV : Valid (N : Int) zs) :
    Calls Try.prog 25 #[.agg #[.int .i64 (N : Int), .slice a zs.length cap]] w fun e w' => ∃ g, e = .returned (.slice (some ⟨g, 0, none⟩) N N) ∧ HdI w' g zs N N ∧ w.heap.size ≤ g ∧ Below w.heap.size w w' := by
  obtain ⟨i0, hi0, hz0, hz1, hz2⟩ := info_parts info_space
  have S0 := SV.new w (N : Int) a zs cap none [] 25 hi (Ints.nil _ _)
  have hn4 : 1 ≤ N ∧ N ≤ 4 := by have := hV.1; omega
  have HZ := hide (fun z (hz : z ∈ zs) => valid_range hV z hz)
  have hz0' := hV.2.1
  have hlen : zs.length ≤ 1048576 := by have := sf_len16 hV; omega
  obtain ⟨W1, hW1⟩ : ∃ W1 : World, W1 = w.alloc (.cells #[.int .i64 (N : Int), .slice a zs.length cap] 25) := ⟨_, rfl⟩
  have hsz1 : W1.heap.size = w.heap.size + 1 := by rw [hW1]; simp
  have HB1 := hide (hW1 ▸ bel1 w _ : Below w.heap.size w W1)
  have HS0 : Hid (SV w (N : Int) a zs cap none [] W1) := by rw [hW1]; exact S0
  obtain ⟨⟨_, c0, c1⟩, _⟩ := S0.pair
  clear hi hV S0
  go_enter Try.func25, Try.ntmps25
  go_wp2_with (at_make; refine wpList_make_full _ rfl _ _ 48 rfl (w.heap.size + 1) 25 i0 (.agg #[.int .i64 0, .slice none 0 0]) 2 Try.underlying48 hi0 hz0 hz1 _ _ _ _ N rfl rfl (by first | omega | (simp; omega)) (by first | omega | (simp; omega)) ?b2 ?b3 (by simp) ?_)
  case b2 => rw [hz2]; omega
  case b3 => unfold maxLen; omega
  intro w2 hown2 hgrow2
  try simp only [World.size_alloc] at hown2
  obtain ⟨cs0, hcs, hcz⟩ := block_row hown2 rfl
  have HH0 : Hid (HdI w2 (w.heap.size + 1) zs N 0) := ⟨cs0, hcs, hcz, fun i hi => by omega⟩
  rw [← hW1] at hgrow2
  have HB2 := hide ((Below.refl W1.heap.size W1).grown hgrow2 (Nat.le_refl _) (fun q hq => by cases hq))
  clear hown2 hcs hcz c0 c1 hW1 hgrow2
  go_wp2_with fail
  go_loopw [10] (fun i wr => ∃ k : Nat, k ≤ N ∧ i = .int .i64 k ∧ HdI wr (w.heap.size + 1) zs N k ∧ Below W1.heap.size W1 wr) (fun i _ => N - (intOf i).toNat)
  case atStart => exact ⟨0, Nat.zero_le _, rfl, HH0.out, HB2.out⟩
  case round =>
    clear HH0 HB2
    obtain ⟨k, hk, rfl, hd, hb⟩ := hrel
    have HD := hide hd
    have HB := hide hb
    by_cases hlt : k < N
    · obtain ⟨W3, hW3⟩ : ∃ W3 : World, W3 = wr.alloc (.cells #[.int .i64 k] 3) := ⟨_, rfl⟩
      have hJ : Below wr.heap.size wr W3 := hW3 ▸ bel1 wr _
      have hsz3 : W3.heap.size = wr.heap.size + 1 := by rw [hW3]; simp
      have hs3 := (HS0.out.below hb).below hJ
      obtain ⟨⟨_, c0, c1⟩, i3, _⟩ := hs3
      have HS3 := hide ((HS0.out.below hb).below hJ)
      have j0 : W3.heap[wr.heap.size]? = some (.cells #[.int .i64 k] 3 (0, 0)) := by rw [hW3]; exact heap_alloc_new wr _
      have HJ0 := hide j0
      have q0 := cell_of_block j0 0
      have HI3 := hide i3
      obtain ⟨cs, hcs, hcz, _⟩ := hd
      have hG : w.heap.size + 1 < wr.heap.size := lt_of_block hcs
      have HCS := hide ((hJ.block _ hG).trans hcs)
      have HJB := hide hJ
      have hcz0 : cs[k * 2]? = some (cs[k * 2]'(by omega)) := Array.getElem?_eq_getElem (by omega)
      have hcz1 : cs[k * 2 + 1]? = some (cs[k * 2 + 1]'(by omega)) := Array.getElem?_eq_getElem (by omega)
      obtain ⟨u0, hu0⟩ : ∃ u, cs[k * 2]'(by omega) = u := ⟨_, rfl⟩
      obtain ⟨u1, hu1⟩ : ∃ u, cs[k * 2 + 1]'(by omega) = u := ⟨_, rfl⟩
      rw [hu0] at hcz0
      rw [hu1] at hcz1
      have HC0 := hide hcz0
      have HC1 := hide hcz1
      have HJQ : Hid (∀ W : World, Below W3.heap.size W3 W → W.cell? ⟨wr.heap.size, 0, none⟩ = some (.int .i64 (k : Int))) := fun W h => cell_of_block ((h.block _ (by omega)).trans HJ0.out) 0
      clear i3 hcs hb j0 hJ hu0 hu1 hcz0 hcz1 hcz
      have hk1 : IntKind.i64.wrap ((k : Int) + 1) = (k : Int) + 1 := IntWalk.i64_in _ (by omega)
      go_wp2_with fail
      rw [← hW3]
      clear hW3
      go_region_with (go_at_call 51; refine (spaceOfH_any (lowI k) _ _ _ wr.heap.size zs _ (by first | exact HI3.out | exact HI3.out.below (bdrew' (Below.refl _ _))) hlen hz0' (fun x w' hx hb' => headsClosure_any x k _ w' (by omega) (HZ.out x hx) (HJQ.out w' (by first | exact hb' | exact bdrew hb')))).mono ?_; rintro e w5 ⟨v5, rfl, o5, b5⟩; obtain ⟨av, cv, rfl, _, _⟩ := o5.form; have B5 : Hid (Below W3.heap.size W3 w5) := (by first | exact b5 | exact bdrew b5); have O5 : Hid (Owns w5 W3.heap.size (.slice av (hdL zs k).length cv) (hdL zs k)) := o5; have c0' := (HS3.out.below B5.out).1.2.1; have c1' := (HS3.out.below B5.out).1.2.2; have q0' := HJQ.out w5 B5.out; have hb5 := (B5.out.block _ (by omega : w.heap.size + 1 < W3.heap.size)).trans HCS.out; have p0 := (cell_of_block hb5 (k * 2)).trans HC0.out; have p1 := (cell_of_block hb5 (k * 2 + 1)).trans HC1.out; have f0 := unfrozen_of_block hb5 (k * 2); have f1 := unfrozen_of_block hb5 (k * 2 + 1); have hb6 := block_setCell (i := k * 2) hb5 (.int .i64 ((k : Int) + 1)); have f2 := unfrozen_of_block hb6 (k * 2 + 1); have p2 := (cell_of_block hb6 (k * 2 + 1)).trans ((Array.getElem?_setIfInBounds_ne (by omega)).trans HC1.out); clear hb6; clear b5 o5 hb5)
      all_goals
        have HP := hide (HD.out.put hlt (HJB.out.trans (B5.out.mono (by omega))) (O5.out.le (by omega)))
        go_wp2
        go_roundw
        case rel => exact ⟨k + 1, by omega, by go_num, HP.out, ((HB.out.trans ((HJB.out.trans (B5.out.mono (by omega))).mono HB.out.size)).setCell (p := ⟨w.heap.size + 1, k * 2, none⟩) (by show W1.heap.size ≤ w.heap.size + 1; omega) _).setCell (p := ⟨w.heap.size + 1, k * 2 + 1, none⟩) (by show W1.heap.size ≤ w.heap.size + 1; omega) _⟩
        case measure => simp only [intOf]; omega
    · obtain rfl : k = N := by omega
      go_wp2
      go_ret
      exact ⟨_, rfl, HD.out, by omega, HB1.out.trans (HB.out.mono (by omega))⟩
end Go.Proofs.Ytbmodiobgkmngaa
