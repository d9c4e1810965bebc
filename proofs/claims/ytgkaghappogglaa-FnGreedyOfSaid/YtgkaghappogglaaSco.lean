/- ScoreOf: what names are worth, ballots within a committee, scores by name. -/
import Derived.Test.YtgkaghappogglaaScoM
import Derived.Laws.CopyOwn
import Derived.Deep.RegionWith
namespace Go.Proofs.Ytgkaghappogglaa
open Go.RowKit Go.Joins

theorem specHarm_any (n : Nat) (w : World) (hn : n ≤ 6) : Calls Try.prog 105 #[.int .i64 n] w fun e w' => e = .returned (.int .i64 (harm n)) ∧ w = w' := by
  go_enter Try.func105, Try.ntmps105
  go_wp2
  go_loop [3, 4] (fun o i => ∃ k : Nat, k ≤ n ∧ i = .int .i64 ((k : Int) + 1) ∧ o = .int .i64 (harm k)) (fun _ i => n + 1 - (intOf i).toNat)
  case atStart => exact ⟨0, Nat.zero_le _, rfl, rfl⟩
  case round =>
    obtain ⟨k, hk, rfl, rfl⟩ := hrel
    have hh := harm_le k (by omega)
    by_cases hlt : k < n
    · obtain ⟨d, HS, hd, hdi⟩ : ∃ d : Nat, Hid (harm (k + 1) = harm k + d) ∧ d ≤ 60 ∧ (60 : Int) / ((k : Int) + 1) = (d : Int) :=
        ⟨60 / (k + 1), rfl, Nat.div_le_self _ _, by rw [Int.natCast_ediv]; rfl⟩
      have hle : decide ((k : Int) + 1 ≤ (n : Int)) = true := by simp; omega
      go_wp2
      go_round
      case rel => exact ⟨k + 1, by omega, by go_num, by rw [HS.out]; go_num⟩
      case measure => simp only [intOf]; omega
    · obtain rfl : k = n := by omega
      have hle : decide ((k : Int) + 1 ≤ (k : Int)) = false := by simp; omega
      go_wp2
      go_ret
      exact ⟨rfl, rfl⟩
theorem worthAp_any (n : Nat) (w : World) : Calls Try.prog 140 #[.agg #[], .int .i64 n] w fun e w' => e = .returned (.int .i64 (worth 0 n : Nat)) ∧ Below w.heap.size w w' := by
  go_enter Try.func140, Try.ntmps140
  go_wp2
  go_ret
  exact ⟨rfl, bel1 w _⟩
theorem worthLe_any (n : Nat) (w : World) : Calls Try.prog 142 #[.agg #[], .int .i64 n] w fun e w' => e = .returned (.int .i64 (worth 3 n : Nat)) ∧ Below w.heap.size w w' := by
  go_enter Try.func142, Try.ntmps142
  go_wp2
  go_ret
  exact ⟨rfl, bel1 w _⟩
theorem worthCo_any (n : Nat) (w : World) : Calls Try.prog 141 #[.agg #[], .int .i64 n] w fun e w' => e = .returned (.int .i64 (worth 2 n : Nat)) ∧ Below w.heap.size w w' := by
  go_enter Try.func141, Try.ntmps141
  go_wp2
  all_goals
    go_ret
    exact ⟨ret_int (by unfold worth; simp; omega), bel1 w _⟩
theorem worthHa_any (n : Nat) (w : World) (hn : n ≤ 6) : Calls Try.prog 139 #[.agg #[], .int .i64 n] w fun e w' => e = .returned (.int .i64 (worth 1 n : Nat)) ∧ Below w.heap.size w w' := by
  go_enter Try.func139, Try.ntmps139
  go_wp2
  go_loop [5, 6] (fun o i => ∃ k : Nat, k ≤ n ∧ i = .int .i64 ((k : Int) + 1) ∧ o = .int .i64 (harm k)) (fun _ i => n + 1 - (intOf i).toNat)
  case atStart => exact ⟨0, Nat.zero_le _, rfl, rfl⟩
  case round =>
    obtain ⟨k, hk, rfl, rfl⟩ := hrel
    have hh := harm_le k (by omega)
    by_cases hlt : k < n
    · obtain ⟨d, HS, hd, hdi⟩ : ∃ d : Nat, Hid (harm (k + 1) = harm k + d) ∧ d ≤ 60 ∧ (60 : Int) / ((k : Int) + 1) = (d : Int) :=
        ⟨60 / (k + 1), rfl, Nat.div_le_self _ _, by rw [Int.natCast_ediv]; rfl⟩
      have hle : decide ((k : Int) + 1 ≤ (n : Int)) = true := by simp; omega
      go_wp2
      go_round
      case rel => exact ⟨k + 1, by omega, by go_num, by rw [HS.out]; go_num⟩
      case measure => simp only [intOf]; omega
    · obtain rfl : k = n := by omega
      have hle : decide ((k : Int) + 1 ≤ (k : Int)) = false := by simp; omega
      go_wp2
      go_ret
      exact ⟨rfl, bel1 w _⟩

set_option maxHeartbeats 1000000 in
theorem within_any (a : Option Addr) (cap : Nat) (bs : List Int) (x : Nat) (w : World) (hi : Ints w a bs) (hn : bs.length ≤ 1048576) (hr : ∀ b ∈ bs, 0 ≤ b ∧ b ≤ 31) (hx : x < 32) :
    Calls Try.prog 103 #[.slice a bs.length cap, .int .i64 x] w fun e w' => e = .returned (.slice (some ⟨w.heap.size, 0, none⟩) bs.length bs.length) ∧
      Owns w' w.heap.size (.slice (some ⟨w.heap.size, 0, none⟩) bs.length bs.length) (bs.map (bandI x)) ∧ Below w.heap.size w w' := by
  obtain ⟨i0, hi0, hz0, hz1, hz2⟩ := info_parts info_int
  have HR := hide hr
  clear hr
  go_enter Try.func103, Try.ntmps103
  go_wp2_with (at_make; refine wpList_make_full _ rfl _ _ 23 rfl w.heap.size 3 i0 (.int .i64 0) 1 Try.underlying23 hi0 hz0 hz1 _ _ _ _ bs.length rfl rfl (by omega) (by omega) ?b2 ?b3 (Nat.le_refl _) ?_)
  case b2 => rw [hz2]; omega
  case b3 => unfold maxLen; omega
  intro w0 hown0 hgrow0
  rw [madeInts] at hown0
  have hb0 : Below w.heap.size w w0 := (Below.refl _ _).grown hgrow0 (Nat.le_refl _) (fun k h => by cases h)
  have hown1 : Owns w0 w.heap.size (.slice (some ⟨w.heap.size, 0, none⟩) bs.length bs.length) (List.replicate bs.length 0) := by unfold Owns; rw [List.length_replicate]; exact hown0
  have hblk := hide (own_block hown1 (by simp))
  have hi0' := hi.below hb0
  clear hgrow0 hown0 hown1
  go_wp2_with (with_reducible refine wpList_copy_splice rfl _ _ 23 23 rfl 3 Try.underlying23 (by kernel_rfl) (some ⟨w.heap.size, 0, none⟩) a bs.length bs.length bs.length cap rfl rfl w.heap.size 0 ((List.replicate bs.length (0 : Int)).map (Value.int .i64)) 3 hblk.out (bs.map (Value.int .i64)) ?cn ?cp ?cf ?c1 w.heap.size w hb0 (Nat.le_refl _) ?_)
  case cn => simp
  case cp =>
    intro hpos
    obtain ⟨b, off, rfl, hbl, hc⟩ := hi0' (by simpa using hpos)
    first
      | exact ⟨rfl, _, rfl, ints_add hc⟩
      | exact ⟨_, rfl, ints_add hc⟩
      | exact ⟨_, rfl, fun j v hv => ints_add hc j _ (by rw [List.getElem?_map, hv]; rfl)⟩
  case cf => simp
  case c1 =>
    intro v hv
    obtain ⟨z, _, rfl⟩ := List.mem_map.1 hv
    rfl
  intro w1 hh hb1
  have hown : Owns w1 w.heap.size (.slice (some ⟨w.heap.size, 0, none⟩) bs.length bs.length) (preM (bandI x) bs 0) := by
    rw [preM_zero]
    refine own_of_block ?_ rfl (Nat.le_refl _) (by unfold maxLen; omega)
    have := hh.out
    rw [this]
    simp [splice]
  clear hh hblk hi0' hb0 hi
  go_wp2
  go_loopw [15] (fun i wr => ∃ k : Nat, k ≤ bs.length ∧ i = .int .i64 k ∧ Owns wr w.heap.size (.slice (some ⟨w.heap.size, 0, none⟩) bs.length bs.length) (preM (bandI x) bs k) ∧ Below w.heap.size w wr) (fun i _ => bs.length - (intOf i).toNat)
  case atStart => exact ⟨0, Nat.zero_le _, rfl, hown, hb1⟩
  case round =>
    clear hown hb1
    obtain ⟨k, hk, rfl, hown, hb⟩ := hrel
    by_cases hlt : k < bs.length
    · have hown' : wr.ownsRow w.heap.size 3 1 (.slice (some ⟨w.heap.size, 0, none⟩) bs.length bs.length) bs.length ((preM (bandI x) bs k).map (Value.int .i64)) := by
        have h := hown
        unfold Owns at h
        rw [preM_length] at h
        exact h
      have hst := hown'.cellAt k (by omega)
      rw [List.getElem?_map, List.getElem?_eq_getElem (by rw [preM_length]; exact hlt), preM_at _ bs k hlt] at hst
      have hfz := hown'.frozenAt k
      have hand := and_bal (w := x) (HR.out _ (mem_of_at hlt)) hx
      have HM := hide (preM_set (bandI x) bs k hlt)
      clear hown
      go_wp2
      go_roundw
      case rel => exact ⟨k + 1, by omega, by go_num, by
        rw [← HM.out]
        unfold Owns
        rw [List.length_set, preM_length, List.map_set]
        exact (hown'.stored k _).1, hb.setCell (Nat.le_refl _) _⟩
      case measure => simp only [intOf]; omega
    · obtain rfl : k = bs.length := by omega
      go_wp2
      go_ret
      exact ⟨rfl, by rw [← preM_all]; exact hown, hb⟩
end Go.Proofs.Ytgkaghappogglaa
