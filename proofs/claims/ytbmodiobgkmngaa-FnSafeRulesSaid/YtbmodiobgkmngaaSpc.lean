/- Spaces made of what each judgment becomes: slices.Sort and slices.Compact at the program; spaceOf. -/
import Derived.Test.YtbmodiobgkmngaaSrt
import Derived.Test.YtbmodiobgkmngaaShelf
import Derived.Test.YtbmodiobgkmngaaSp
import Derived.Test.YtbmodiobgkmngaaLaws
import Derived.Deep.RegionHeld3
namespace Go.Proofs.Ytbmodiobgkmngaa
open Go.RowKit Go.Joins Go.Sort

theorem own_blkZ {w : World} {base g n : Nat} {zs : List Int} (h : w.ownsRow base 3 1 (.slice (some ⟨g, 0, none⟩) n n) n (zs.map (Value.int .i64))) : w.heap[g]? = some (.cells (zs.map (Value.int .i64)).toArray 3 (0, 0)) := by
  rcases h.2 with ⟨h0, _⟩ | ⟨g', cap', cur, hv, _, hb, _, _, hs, ht⟩
  · cases h0
  · cases hv
    rw [hb]
    have e : cur = (zs.map (Value.int .i64)).toArray := by
      apply Array.ext'
      rw [List.toList_toArray, ← ht]
      rw [List.take_of_length_le]
      simp [hs]
    rw [e]
/-- the first k made, zeros behind -/
def mrow (f : Int → Int) (zs : List Int) (k : Nat) : List Int := (zs.take k).map f ++ List.replicate (zs.length - k) 0
theorem mrow_zero (f : Int → Int) (zs : List Int) : mrow f zs 0 = List.replicate zs.length 0 := by simp [mrow]
theorem mrow_all (f : Int → Int) (zs : List Int) : mrow f zs zs.length = zs.map f := by simp [mrow]
theorem mrow_len (f : Int → Int) (zs : List Int) {k : Nat} (hk : k ≤ zs.length) : (mrow f zs k).length = zs.length := by
  unfold mrow
  rw [List.length_append, List.length_map, List.length_take, List.length_replicate]
  omega
theorem mrow_cell (f : Int → Int) (zs : List Int) {k j : Nat} (h : j < (mrow f zs k).length) : ((mrow f zs k).map (Value.int .i64)).toArray[j]? = some (.int .i64 ((mrow f zs k).getD j 0)) := by
  simp [h, List.getD_eq_getElem?_getD]
theorem mrow_set (f : Int → Int) (zs : List Int) {k : Nat} (h : k < zs.length) : (mrow f zs k).set k (f zs[k]) = mrow f zs (k + 1) := by
  have hl : ((zs.take k).map f).length = k := by rw [List.length_map, List.length_take]; omega
  unfold mrow
  rw [List.set_append_right _ _ (by omega), hl, Nat.sub_self, show zs.length - k = (zs.length - (k + 1)) + 1 from by omega, List.replicate_succ, List.set_cons_zero, List.take_add_one, List.getElem?_eq_getElem h, List.map_append]
  simp
theorem mrow_put (f : Int → Int) (zs : List Int) {k : Nat} (h : k < zs.length) : ((mrow f zs k).map (Value.int .i64)).toArray.setIfInBounds k (.int .i64 (f zs[k])) = ((mrow f zs (k + 1)).map (Value.int .i64)).toArray := by
  rw [← mrow_set f zs h, List.map_set, List.setIfInBounds_toArray]
theorem sortZ_any (g cap : Nat) (xs : List Int) (w : World) (hb : w.heap[g]? = some (.cells (xs.map (Value.int .i64)).toArray 3 (0, 0))) (hl : xs.length ≤ 1048576) :
    Calls Try.prog 76 #[.slice (some ⟨g, 0, none⟩) xs.length cap] w fun e w' => e = .returned (.tuple #[]) ∧ w'.heap[g]? = some (.cells ((srt xs).map (Value.int .i64)).toArray 3 (0, 0)) ∧ w.grownBy w' (some g) := by
  refine (Try.slices_Sort_int g 0 cap xs w (holds_blk hb) (lt_of_block hb) (by omega)).mono ?_
  rintro e w' ⟨he, n, os, rfl⟩
  exact ⟨he, blk_sorted (srt_len xs) hb, grownBy_sortedI _⟩
theorem compZ_any (g : Nat) (xs : List Int) (w : World) (base : Nat) (hg : base ≤ g) (hb : w.heap[g]? = some (.cells (xs.map (Value.int .i64)).toArray 3 (0, 0))) (hl : xs.length ≤ 1048576) :
    Calls Try.prog 77 #[.slice (some ⟨g, 0, none⟩) xs.length xs.length] w fun e w' => e = .returned (.slice (some ⟨g, 0, none⟩) (Lib.compact xs).length xs.length) ∧ Owns w' base (.slice (some ⟨g, 0, none⟩) (Lib.compact xs).length xs.length) (Lib.compact xs) ∧ w.grownBy w' (some g) := by
  refine (Try.slices_Compact_int g 0 xs.length xs w (holds_blk hb) (by omega) (Nat.le_refl _)).mono ?_
  rintro e w' ⟨he, q, rfl⟩
  have hcl : (Lib.compact xs).length ≤ xs.length := by
    unfold Lib.compact Lib.compactUpTo
    rw [List.length_map]
    refine Nat.le_trans (List.length_filter_le _ _) ?_
    simp
  have hlen : (Lib.compact xs ++ List.replicate (xs.length - (Lib.compact xs).length) 0).length = xs.length := by
    rw [List.length_append, List.length_replicate]
    omega
  have h1 := blk_put (w := w) (n := q) hlen hb
  have h2 := own_cut (base := base) h1 hg (by rw [hlen]; unfold maxLen; omega)
  rw [hlen] at h2
  exact ⟨he, h2, grown_put _⟩
end Go.Proofs.Ytbmodiobgkmngaa
