/- ScoreOf: what names are worth, ballots within a committee, scores by name. -/
import Derived.Test.YthkikjidkehheaaScoM
import Derived.Laws.CopyOwn
import Derived.Deep.RegionWith
namespace Go.Proofs.Ythkikjidkehheaa
open Go.RowKit Go.Joins

set_option maxHeartbeats 1000000 in
theorem within_any (a : Option Addr) (cap : Nat) (bs : List Int) (x : Nat) (w : World) (hi : Ints w a bs) (hn : bs.length ≤ 1048576) (hr : ∀ b ∈ bs, 0 ≤ b ∧ b ≤ 31) (hx : x < 32) :
    Calls Try.prog 74 #[.slice a bs.length cap, .int .i64 x] w fun e w' => e = .returned (.slice (some ⟨w.heap.size, 0, none⟩) bs.length bs.length) ∧
      Owns w' w.heap.size (.slice (some ⟨w.heap.size, 0, none⟩) bs.length bs.length) (bs.map (bandI x)) ∧ Below w.heap.size w w' := by
  obtain ⟨i0, hi0, hz0, hz1, hz2⟩ := info_parts info_int
  have HR := hide hr
  clear hr
  go_enter Try.func74, Try.ntmps74
  go_wp2_with (at_make; refine wpList_make_full _ rfl _ _ 22 rfl w.heap.size 3 i0 (.int .i64 0) 1 Try.underlying22 hi0 hz0 hz1 _ _ _ _ bs.length rfl rfl (by omega) (by omega) ?b2 ?b3 (Nat.le_refl _) ?_)
  case b2 => rw [hz2]; omega
  case b3 => unfold maxLen; omega
  intro w0 hown0 hgrow0
  rw [madeInts] at hown0
  have hb0 : Below w.heap.size w w0 := (Below.refl _ _).grown hgrow0 (Nat.le_refl _) (fun k h => by cases h)
  have hown1 : Owns w0 w.heap.size (.slice (some ⟨w.heap.size, 0, none⟩) bs.length bs.length) (List.replicate bs.length 0) := by unfold Owns; rw [List.length_replicate]; exact hown0
  have hblk := hide (own_block hown1 (by simp))
  have hi0' := hi.below hb0
  clear hgrow0 hown0 hown1
  go_wp2_with (with_reducible refine wpList_copy_splice rfl _ _ 22 22 rfl 3 Try.underlying22 (by kernel_rfl) (some ⟨w.heap.size, 0, none⟩) a bs.length bs.length bs.length cap rfl rfl w.heap.size 0 ((List.replicate bs.length (0 : Int)).map (Value.int .i64)) 3 hblk.out (bs.map (Value.int .i64)) ?cn ?cp ?cf ?c1 w.heap.size w hb0 (Nat.le_refl _) ?_)
  case cn => simp
  case cp =>
    intro hpos
    obtain ⟨b, off, rfl, hbl, hc⟩ := hi0' (by simpa using hpos)
    first
      | exact ⟨rfl, _, rfl, ints_add hc⟩
      | exact ⟨_, rfl, ints_add hc⟩
      | exact ⟨_, rfl, fun j v hv => ints_add hc j _ (by rw [List.getElem?_map, hv]; rfl)⟩
  case cf => simp
  case c1 =>
    intro v hv
    obtain ⟨z, _, rfl⟩ := List.mem_map.1 hv
    rfl
  intro w1 hh hb1
  have hown : Owns w1 w.heap.size (.slice (some ⟨w.heap.size, 0, none⟩) bs.length bs.length) (preM (bandI x) bs 0) := by
    rw [preM_zero]
    refine own_of_block ?_ rfl (Nat.le_refl _) (by unfold maxLen; omega)
    have := hh.out
    rw [this]
    simp [splice]
  clear hh hblk hi0' hb0 hi
  go_wp2
  go_loopw [15] (fun i wr => ∃ k : Nat, k ≤ bs.length ∧ i = .int .i64 k ∧ Owns wr w.heap.size (.slice (some ⟨w.heap.size, 0, none⟩) bs.length bs.length) (preM (bandI x) bs k) ∧ Below w.heap.size w wr) (fun i _ => bs.length - (intOf i).toNat)
  case atStart => exact ⟨0, Nat.zero_le _, rfl, hown, hb1⟩
  case round =>
    clear hown hb1
    obtain ⟨k, hk, rfl, hown, hb⟩ := hrel
    by_cases hlt : k < bs.length
    · have hown' : wr.ownsRow w.heap.size 3 1 (.slice (some ⟨w.heap.size, 0, none⟩) bs.length bs.length) bs.length ((preM (bandI x) bs k).map (Value.int .i64)) := by
        have h := hown
        unfold Owns at h
        rw [preM_length] at h
        exact h
      have hst := hown'.cellAt k (by omega)
      rw [List.getElem?_map, List.getElem?_eq_getElem (by rw [preM_length]; exact hlt), preM_at _ bs k hlt] at hst
      have hfz := hown'.frozenAt k
      have hand := and_bal (w := x) (HR.out _ (mem_of_at hlt)) hx
      have HM := hide (preM_set (bandI x) bs k hlt)
      clear hown
      go_wp2
      go_roundw
      case rel => exact ⟨k + 1, by omega, by go_num, by
        rw [← HM.out]
        unfold Owns
        rw [List.length_set, preM_length, List.map_set]
        exact (hown'.stored k _).1, hb.setCell (Nat.le_refl _) _⟩
      case measure => simp only [intOf]; omega
    · obtain rfl : k = bs.length := by omega
      go_wp2
      go_ret
      exact ⟨rfl, by rw [← preM_all]; exact hown, hb⟩
end Go.Proofs.Ythkikjidkehheaa
