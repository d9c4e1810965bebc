/- Spaces made of what each judgment becomes: slices.Sort and slices.Compact at the program; spaceOf. -/
import Derived.Test.YtbnnblfgpdfmpaaSrt
import Derived.Test.YtbnnblfgpdfmpaaShelf
import Derived.Test.YtbnnblfgpdfmpaaSp
import Derived.Test.YtbnnblfgpdfmpaaLaws
import Derived.Deep.RegionHeld3
namespace Go.Proofs.Ytbnnblfgpdfmpaa
open Go.RowKit Go.Joins Go.Sort

theorem own_blkZ {w : World} {base g n : Nat} {zs : List Int} (h : w.ownsRow base 3 1 (.slice (some ⟨g, 0, none⟩) n n) n (zs.map (Value.int .i64))) : w.heap[g]? = some (.cells (zs.map (Value.int .i64)).toArray 3 (0, 0)) := by
  rcases h.2 with ⟨h0, _⟩ | ⟨g', cap', cur, hv, _, hb, _, _, hs, ht⟩
  · cases h0
  · cases hv
    rw [hb]
    have e : cur = (zs.map (Value.int .i64)).toArray := by
      apply Array.ext'
      rw [List.toList_toArray, ← ht]
      rw [List.take_of_length_le]
      simp [hs]
    rw [e]
/-- the first k made, zeros behind -/
def mrow (f : Int → Int) (zs : List Int) (k : Nat) : List Int := (zs.take k).map f ++ List.replicate (zs.length - k) 0
theorem mrow_zero (f : Int → Int) (zs : List Int) : mrow f zs 0 = List.replicate zs.length 0 := by simp [mrow]
theorem mrow_all (f : Int → Int) (zs : List Int) : mrow f zs zs.length = zs.map f := by simp [mrow]
theorem mrow_len (f : Int → Int) (zs : List Int) {k : Nat} (hk : k ≤ zs.length) : (mrow f zs k).length = zs.length := by
  unfold mrow
  rw [List.length_append, List.length_map, List.length_take, List.length_replicate]
  omega
theorem mrow_cell (f : Int → Int) (zs : List Int) {k j : Nat} (h : j < (mrow f zs k).length) : ((mrow f zs k).map (Value.int .i64)).toArray[j]? = some (.int .i64 ((mrow f zs k).getD j 0)) := by
  simp [h, List.getD_eq_getElem?_getD]
theorem mrow_set (f : Int → Int) (zs : List Int) {k : Nat} (h : k < zs.length) : (mrow f zs k).set k (f zs[k]) = mrow f zs (k + 1) := by
  have hl : ((zs.take k).map f).length = k := by rw [List.length_map, List.length_take]; omega
  unfold mrow
  rw [List.set_append_right _ _ (by omega), hl, Nat.sub_self, show zs.length - k = (zs.length - (k + 1)) + 1 from by omega, List.replicate_succ, List.set_cons_zero, List.take_add_one, List.getElem?_eq_getElem h, List.map_append]
  simp
theorem mrow_put (f : Int → Int) (zs : List Int) {k : Nat} (h : k < zs.length) : ((mrow f zs k).map (Value.int .i64)).toArray.setIfInBounds k (.int .i64 (f zs[k])) = ((mrow f zs (k + 1)).map (Value.int .i64)).toArray := by
  rw [← mrow_set f zs h, List.map_set, List.setIfInBounds_toArray]
theorem sortZ_any (g cap : Nat) (xs : List Int) (w : World) (hb : w.heap[g]? = some (.cells (xs.map (Value.int .i64)).toArray 3 (0, 0))) (hl : xs.length ≤ 1048576) :
    Calls Try.prog 66 #[.slice (some ⟨g, 0, none⟩) xs.length cap] w fun e w' => e = .returned (.tuple #[]) ∧ w'.heap[g]? = some (.cells ((srt xs).map (Value.int .i64)).toArray 3 (0, 0)) ∧ w.grownBy w' (some g) := by
  refine (Try.slices_Sort_int g 0 cap xs w (holds_blk hb) (lt_of_block hb) (by omega)).mono ?_
  rintro e w' ⟨he, n, os, rfl⟩
  exact ⟨he, blk_sorted (srt_len xs) hb, grownBy_sortedI _⟩
theorem compZ_any (g : Nat) (xs : List Int) (w : World) (base : Nat) (hg : base ≤ g) (hb : w.heap[g]? = some (.cells (xs.map (Value.int .i64)).toArray 3 (0, 0))) (hl : xs.length ≤ 1048576) :
    Calls Try.prog 67 #[.slice (some ⟨g, 0, none⟩) xs.length xs.length] w fun e w' => e = .returned (.slice (some ⟨g, 0, none⟩) (Lib.compact xs).length xs.length) ∧ Owns w' base (.slice (some ⟨g, 0, none⟩) (Lib.compact xs).length xs.length) (Lib.compact xs) ∧ w.grownBy w' (some g) := by
  refine (Try.slices_Compact_int g 0 xs.length xs w (holds_blk hb) (by omega) (Nat.le_refl _)).mono ?_
  rintro e w' ⟨he, q, rfl⟩
  have hcl : (Lib.compact xs).length ≤ xs.length := by
    unfold Lib.compact Lib.compactUpTo
    rw [List.length_map]
    refine Nat.le_trans (List.length_filter_le _ _) ?_
    simp
  have hlen : (Lib.compact xs ++ List.replicate (xs.length - (Lib.compact xs).length) 0).length = xs.length := by
    rw [List.length_append, List.length_replicate]
    omega
  have h1 := blk_put (w := w) (n := q) hlen hb
  have h2 := own_cut (base := base) h1 hg (by rw [hlen]; unfold maxLen; omega)
  rw [hlen] at h2
  exact ⟨he, h2, grown_put _⟩
set_option maxHeartbeats 4000000 in
set_option maxRecDepth 100000 in
theorem spaceOfD_any (f : Int → Int) (m : Int) (a : Option Addr) (cap gf : Nat) (zs : List Int) (w : World) (hi : Ints w a zs) (hn : zs.length ≤ 1048576) (h0 : 0 < zs.length)
    (hf : ∀ (x : Int) (w' : World), x ∈ zs → Below w.heap.size w w' → Calls Try.prog 48 #[.int .i64 x, .pointer (some ⟨gf, 0, none⟩)] w' fun e w'' => e = .returned (.int .i64 (f x)) ∧ Below w'.heap.size w' w'') :
    Calls Try.prog 43 #[.int .i64 m, .slice a zs.length cap, .func (.func 48) #[] #[.pointer (some ⟨gf, 0, none⟩)]] w (GivesS m (unq (zs.map f)) w) := by
  obtain ⟨i0, hi0, hz0, hz1, hz2⟩ := info_parts info_int
  have hres := heap_alloc_new w (.cells #[.int .i64 0, .slice none 0 0] 26)
  have HRES := hide hres
  have B0 := hide (bel1 w (.cells #[.int .i64 0, .slice none 0 0] 26))
  have HI := hide hi
  have HF := hide hf
  have HH0 := hide h0
  clear hres hi hf
  go_enter Try.func43, Try.ntmps43
  go_wp2_with (at_make; refine wpList_make_full _ rfl _ _ 22 rfl (w.heap.size + 1) 3 i0 (.int .i64 0) 1 Try.underlying22 hi0 hz0 hz1 _ _ _ _ zs.length rfl rfl (by first | omega | (simp; omega)) (by first | omega | (simp; omega)) ?b2 ?b3 (by simp) ?_)
  case b2 => rw [hz2]; omega
  case b3 => unfold maxLen; omega
  intro w0 hown0 hgrow0
  rw [madeInts] at hown0
  have hblk0 := own_blkZ hown0
  have BW := hide (B0.out.grown hgrow0 (by simp) (fun k h => by cases h))
  have HR0 := hide ((hgrow0.block w.heap.size (by simp) (by simp)).trans HRES.out)
  have HB0 := hide (show w0.heap[w.heap.size + 1]? = some (.cells ((mrow f zs 0).map (Value.int .i64)).toArray 3 (0, 0)) by rw [mrow_zero]; exact hblk0)
  clear hown0 hgrow0 hblk0
  go_wp2_with fail
  go_loopw [15] (fun i wr => ∃ k : Nat, k ≤ zs.length ∧ i = .int .i64 k ∧ wr.heap[w.heap.size + 1]? = some (.cells ((mrow f zs k).map (Value.int .i64)).toArray 3 (0, 0)) ∧ wr.heap[w.heap.size]? = some (.cells #[.int .i64 0, .slice none 0 0] 26 (0, 0)) ∧ Below w.heap.size w wr) (fun i _ => zs.length - (intOf i).toNat)
  case atStart => exact ⟨0, Nat.zero_le _, rfl, HB0.out, HR0.out, BW.out⟩
  case round =>
    clear HB0 HR0 BW
    obtain ⟨k, hk, rfl, hblk, hr, hb⟩ := hrel
    have HBL := hide hblk
    have HR := hide hr
    have HB := hide hb
    have hsz := lt_of_block hblk
    clear hblk hr
    by_cases hlt : k < zs.length
    · obtain ⟨sb, so, rfl, hbl, hcc⟩ := (HI.out.below hb) (by omega)
      have hck := hcc k hlt
      rw [getD_lt hlt] at hck
      obtain ⟨x, hx⟩ : ∃ x, zs[k] = x := ⟨_, rfl⟩
      rw [hx] at hck
      have HX := hide hx
      have HXM := hide (show x ∈ zs by rw [← hx]; exact List.getElem_mem hlt)
      clear hcc hbl hx hb
      go_wp2_with fail
      refine (HF.out x _ HXM.out HB.out).mono ?_
      rintro e w5 ⟨rfl, b5⟩
      have hblk5 := (b5.block _ hsz).trans HBL.out
      have hr5 := (b5.block _ (by omega)).trans HR.out
      have hmk : k < (mrow f zs k).length := by rw [mrow_len f zs hk]; exact hlt
      have q0 := cell_of_block hblk5 k
      rw [mrow_cell f zs hmk] at q0
      have q1 := unfrozen_of_block hblk5 k
      have HBL5 := hide hblk5
      have HR5 := hide hr5
      have HB5 := hide (bnext HB.out b5)
      clear hblk5 hr5 b5
      go_wp2
      go_roundw
      case rel =>
        refine ⟨k + 1, by omega, by go_num, ?_, (Below.heap_setCell _ _ _ _ (by show w.heap.size ≠ w.heap.size + 1; omega)).trans HR5.out, HB5.out.setCell (p := ⟨w.heap.size + 1, k, none⟩) (by show w.heap.size ≤ w.heap.size + 1; omega) _⟩
        rw [block_setCell HBL5.out, ← HX.out, mrow_put f zs hlt]
      case measure => simp only [intOf]; omega
    · obtain rfl : k = zs.length := by omega
      have hblk := HBL.out
      rw [mrow_all] at hblk
      have HBK := hide hblk
      clear hblk hb
      have hlm : (zs.map f).length ≤ 1048576 := by rw [List.length_map]; exact hn
      go_wp2_with fail
      have hsort := sortZ_any (w.heap.size + 1) zs.length (zs.map f) wr HBK.out hlm
      rw [List.length_map] at hsort
      refine hsort.mono ?_
      rintro e w5 ⟨rfl, h5, g5⟩
      have hr5 := hide ((g5.block _ (lt_of_block HR.out) (by simp)).trans HR.out)
      have HB5 := hide (bgrown HB.out g5 HB.out.size (fun j hj => by cases hj; omega))
      have H5 := hide h5
      clear h5 g5 hsort HBK HBL
      go_wp2_with fail
      have hcomp := compZ_any (w.heap.size + 1) (srt (zs.map f)) w5 (w.heap.size + 1) (Nat.le_refl _) H5.out (by rw [srt_len]; exact hlm)
      rw [srt_len, List.length_map] at hcomp
      refine hcomp.mono ?_
      rintro e w6 ⟨rfl, o6, g6⟩
      have hr6 := (g6.block _ (lt_of_block hr5.out) (by simp)).trans hr5.out
      have f0 := unfrozen_of_block hr6 0
      have f1 := unfrozen_of_block hr6 1
      have p0 := cell_of_block hr6 0
      have p1 := cell_of_block hr6 1
      have HR6 := hide hr6
      have HB6 := hide (bgrown HB5.out g6 HB5.out.size (fun j hj => by cases hj; omega))
      have HO6 := hide o6
      clear hr6 g6 o6 hcomp
      go_wp2
      refine bodyPost_ret (ret_space rfl _ _ _ _ _ rfl (block_setCell (i := 1) (block_setCell (i := 0) HR6.out _) _)) rfl ?_
      exact ⟨_, rfl, ((HO6.out.setBelow (p := ⟨w.heap.size, 0, none⟩) (by show w.heap.size < w.heap.size + 1; omega) _).setBelow (p := ⟨w.heap.size, 1, none⟩) (by show w.heap.size < w.heap.size + 1; omega) _).le (by omega), (HB6.out.setCell (p := ⟨w.heap.size, 0, none⟩) (Nat.le_refl _) _).setCell (p := ⟨w.heap.size, 1, none⟩) (Nat.le_refl _) _⟩
set_option maxHeartbeats 4000000 in
set_option maxRecDepth 100000 in
theorem spaceOfF_any (f : Int → Int) (m : Int) (a : Option Addr) (cap gf : Nat) (zs : List Int) (w : World) (hi : Ints w a zs) (hn : zs.length ≤ 1048576) (h0 : 0 < zs.length)
    (hf : ∀ (x : Int) (w' : World), x ∈ zs → Below w.heap.size w w' → Calls Try.prog 44 #[.int .i64 x, .pointer (some ⟨gf, 0, none⟩)] w' fun e w'' => e = .returned (.int .i64 (f x)) ∧ Below w'.heap.size w' w'') :
    Calls Try.prog 43 #[.int .i64 m, .slice a zs.length cap, .func (.func 44) #[] #[.pointer (some ⟨gf, 0, none⟩)]] w (GivesS m (unq (zs.map f)) w) := by
  obtain ⟨i0, hi0, hz0, hz1, hz2⟩ := info_parts info_int
  have hres := heap_alloc_new w (.cells #[.int .i64 0, .slice none 0 0] 26)
  have HRES := hide hres
  have B0 := hide (bel1 w (.cells #[.int .i64 0, .slice none 0 0] 26))
  have HI := hide hi
  have HF := hide hf
  have HH0 := hide h0
  clear hres hi hf
  go_enter Try.func43, Try.ntmps43
  go_wp2_with (at_make; refine wpList_make_full _ rfl _ _ 22 rfl (w.heap.size + 1) 3 i0 (.int .i64 0) 1 Try.underlying22 hi0 hz0 hz1 _ _ _ _ zs.length rfl rfl (by first | omega | (simp; omega)) (by first | omega | (simp; omega)) ?b2 ?b3 (by simp) ?_)
  case b2 => rw [hz2]; omega
  case b3 => unfold maxLen; omega
  intro w0 hown0 hgrow0
  rw [madeInts] at hown0
  have hblk0 := own_blkZ hown0
  have BW := hide (B0.out.grown hgrow0 (by simp) (fun k h => by cases h))
  have HR0 := hide ((hgrow0.block w.heap.size (by simp) (by simp)).trans HRES.out)
  have HB0 := hide (show w0.heap[w.heap.size + 1]? = some (.cells ((mrow f zs 0).map (Value.int .i64)).toArray 3 (0, 0)) by rw [mrow_zero]; exact hblk0)
  clear hown0 hgrow0 hblk0
  go_wp2_with fail
  go_loopw [15] (fun i wr => ∃ k : Nat, k ≤ zs.length ∧ i = .int .i64 k ∧ wr.heap[w.heap.size + 1]? = some (.cells ((mrow f zs k).map (Value.int .i64)).toArray 3 (0, 0)) ∧ wr.heap[w.heap.size]? = some (.cells #[.int .i64 0, .slice none 0 0] 26 (0, 0)) ∧ Below w.heap.size w wr) (fun i _ => zs.length - (intOf i).toNat)
  case atStart => exact ⟨0, Nat.zero_le _, rfl, HB0.out, HR0.out, BW.out⟩
  case round =>
    clear HB0 HR0 BW
    obtain ⟨k, hk, rfl, hblk, hr, hb⟩ := hrel
    have HBL := hide hblk
    have HR := hide hr
    have HB := hide hb
    have hsz := lt_of_block hblk
    clear hblk hr
    by_cases hlt : k < zs.length
    · obtain ⟨sb, so, rfl, hbl, hcc⟩ := (HI.out.below hb) (by omega)
      have hck := hcc k hlt
      rw [getD_lt hlt] at hck
      obtain ⟨x, hx⟩ : ∃ x, zs[k] = x := ⟨_, rfl⟩
      rw [hx] at hck
      have HX := hide hx
      have HXM := hide (show x ∈ zs by rw [← hx]; exact List.getElem_mem hlt)
      clear hcc hbl hx hb
      go_wp2_with fail
      refine (HF.out x _ HXM.out HB.out).mono ?_
      rintro e w5 ⟨rfl, b5⟩
      have hblk5 := (b5.block _ hsz).trans HBL.out
      have hr5 := (b5.block _ (by omega)).trans HR.out
      have hmk : k < (mrow f zs k).length := by rw [mrow_len f zs hk]; exact hlt
      have q0 := cell_of_block hblk5 k
      rw [mrow_cell f zs hmk] at q0
      have q1 := unfrozen_of_block hblk5 k
      have HBL5 := hide hblk5
      have HR5 := hide hr5
      have HB5 := hide (bnext HB.out b5)
      clear hblk5 hr5 b5
      go_wp2
      go_roundw
      case rel =>
        refine ⟨k + 1, by omega, by go_num, ?_, (Below.heap_setCell _ _ _ _ (by show w.heap.size ≠ w.heap.size + 1; omega)).trans HR5.out, HB5.out.setCell (p := ⟨w.heap.size + 1, k, none⟩) (by show w.heap.size ≤ w.heap.size + 1; omega) _⟩
        rw [block_setCell HBL5.out, ← HX.out, mrow_put f zs hlt]
      case measure => simp only [intOf]; omega
    · obtain rfl : k = zs.length := by omega
      have hblk := HBL.out
      rw [mrow_all] at hblk
      have HBK := hide hblk
      clear hblk hb
      have hlm : (zs.map f).length ≤ 1048576 := by rw [List.length_map]; exact hn
      go_wp2_with fail
      have hsort := sortZ_any (w.heap.size + 1) zs.length (zs.map f) wr HBK.out hlm
      rw [List.length_map] at hsort
      refine hsort.mono ?_
      rintro e w5 ⟨rfl, h5, g5⟩
      have hr5 := hide ((g5.block _ (lt_of_block HR.out) (by simp)).trans HR.out)
      have HB5 := hide (bgrown HB.out g5 HB.out.size (fun j hj => by cases hj; omega))
      have H5 := hide h5
      clear h5 g5 hsort HBK HBL
      go_wp2_with fail
      have hcomp := compZ_any (w.heap.size + 1) (srt (zs.map f)) w5 (w.heap.size + 1) (Nat.le_refl _) H5.out (by rw [srt_len]; exact hlm)
      rw [srt_len, List.length_map] at hcomp
      refine hcomp.mono ?_
      rintro e w6 ⟨rfl, o6, g6⟩
      have hr6 := (g6.block _ (lt_of_block hr5.out) (by simp)).trans hr5.out
      have f0 := unfrozen_of_block hr6 0
      have f1 := unfrozen_of_block hr6 1
      have p0 := cell_of_block hr6 0
      have p1 := cell_of_block hr6 1
      have HR6 := hide hr6
      have HB6 := hide (bgrown HB5.out g6 HB5.out.size (fun j hj => by cases hj; omega))
      have HO6 := hide o6
      clear hr6 g6 o6 hcomp
      go_wp2
      refine bodyPost_ret (ret_space rfl _ _ _ _ _ rfl (block_setCell (i := 1) (block_setCell (i := 0) HR6.out _) _)) rfl ?_
      exact ⟨_, rfl, ((HO6.out.setBelow (p := ⟨w.heap.size, 0, none⟩) (by show w.heap.size < w.heap.size + 1; omega) _).setBelow (p := ⟨w.heap.size, 1, none⟩) (by show w.heap.size < w.heap.size + 1; omega) _).le (by omega), (HB6.out.setCell (p := ⟨w.heap.size, 0, none⟩) (Nat.le_refl _) _).setCell (p := ⟨w.heap.size, 1, none⟩) (Nat.le_refl _) _⟩
end Go.Proofs.Ytbnnblfgpdfmpaa
