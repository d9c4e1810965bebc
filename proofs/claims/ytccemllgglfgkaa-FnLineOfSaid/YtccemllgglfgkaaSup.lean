/- Supports: an answer of a judgment, how many votes answer 1; SupportOf in the model and in the program. -/
import Derived.Test.YtccemllgglfgkaaVotes
import Derived.Test.YtccemllgglfgkaaBit
import Derived.Test.YtccemllgglfgkaaMark
import Derived.Test.YtccemllgglfgkaaListLaw
import Derived.Deep.RegionWith
import Derived.RegionTactic
import Derived.BigRegion
import Derived.Outline
namespace Go.Proofs.Ytccemllgglfgkaa
open Go.RowKit Go.Joins

/-- how many of the first k votes answer 1 -/
def supK (vs : List Int) (j : Nat) : Nat → Nat
  | 0 => 0
  | k + 1 => supK vs j k + bitN (vs.getD k 0).toNat j
theorem supK_le (vs : List Int) (j : Nat) : ∀ k, supK vs j k ≤ k
  | 0 => Nat.le_refl _
  | k + 1 => by have := supK_le vs j k; have := bitN_le (vs.getD k 0).toNat j; unfold supK; omega
def supN (vs : List Int) (j : Nat) : Nat := supK vs j vs.length
theorem supN_le (vs : List Int) (j : Nat) : supN vs j ≤ vs.length := supK_le _ _ _
/-- the supports of the first m issues by the first k votes -/
def supKL (m : Nat) (vs : List Int) (k : Nat) : List Int := (List.range m).map fun j => (supK vs j k : Int)
def supL (m : Nat) (vs : List Int) : List Int := supKL m vs vs.length
theorem supKL_length (m : Nat) (vs : List Int) (k : Nat) : (supKL m vs k).length = m := by simp [supKL]
theorem supL_length (m : Nat) (vs : List Int) : (supL m vs).length = m := supKL_length _ _ _
theorem supKL_getD (m : Nat) (vs : List Int) (k j : Nat) (h : j < m) : (supKL m vs k).getD j 0 = (supK vs j k : Int) := by
  simp [supKL, List.getD_eq_getElem?_getD, h]
theorem supL_succ (m : Nat) (vs : List Int) : supL (m + 1) vs = supL m vs ++ [(supN vs m : Int)] := by
  unfold supL supKL
  rw [List.range_succ, List.map_append]
  rfl

theorem support_any (l : Option Addr) (capl : Nat) (vs : List Int) (j : Nat) (w : World) (hi : Ints w l vs) (hm : vs.length ≤ 1048576) (hr : ∀ x ∈ vs, 0 ≤ x ∧ x ≤ 15) (hj : j ≤ 4) :
    Calls Try.prog 83 #[.slice l vs.length capl, .int .i64 j] w fun e w' => e = .returned (.int .i64 (supN vs j : Nat)) ∧ w = w' := by
  have HR := hide hr
  have HJ := hide hj
  clear hr hj
  go_enter Try.func83, Try.ntmps83
  go_wp2_with fail
  go_loop [5, 6] (fun s i => ∃ k : Nat, k ≤ vs.length ∧ i = .int .i64 k ∧ s = .int .i64 (supK vs j k : Nat)) (fun _ i => vs.length - (intOf i).toNat)
  case atStart => exact ⟨0, Nat.zero_le _, rfl, rfl⟩
  case round =>
    obtain ⟨k, hk, rfl, rfl⟩ := hrel
    have hsk := supK_le vs j k
    by_cases hlt : k < vs.length
    · obtain ⟨b, off, rfl, hbl, hc⟩ := hi (by omega)
      have hck := hc k hlt
      rw [getD_lt hlt] at hck
      have hb1 := bitN_le vs[k].toNat j
      have hst := hide (show supK vs j (k + 1) = supK vs j k + bitN vs[k].toNat j from by rw [supK, getD_lt hlt])
      clear hc hi
      go_wp2_with (go_at_call 124; refine (bitI_any _ _ _ (HR.out _ (mem_of_at hlt)) HJ.out).mono ?_; rintro e w' ⟨rfl, rfl⟩)
      go_round
      case rel => exact ⟨k + 1, by omega, by go_num, by rw [hst.out]; go_num⟩
      case measure => simp only [intOf]; omega
    · obtain rfl : k = vs.length := by omega
      go_wp2
      go_ret
      exact ⟨rfl, rfl⟩

/-- what SupportOf answers -/
def supA (n : Int) (zs vs : List Int) : List Int := if vvB n zs vs = true then supL n.toNat vs else []
theorem supA_yes {n : Int} {zs vs : List Int} (h : vvB n zs vs = true) : supA n zs vs = supL n.toNat vs := if_pos h
theorem supA_no {n : Int} {zs vs : List Int} (h : vvB n zs vs = false) : supA n zs vs = [] := if_neg (by rw [h]; decide)
theorem supA_len (n : Int) (zs vs : List Int) : (supA n zs vs).length ≤ 1048576 := by
  unfold supA
  split
  · rename_i h
    have := (vv_of h).1.1
    rw [supL_length]; omega
  · simp
theorem votes_range {n : Int} {zs vs : List Int} (h : Valid n zs) (hv : VotesOk zs vs) : ∀ x ∈ vs, 0 ≤ x ∧ x ≤ 15 := fun x hx => valid_range h x (hv.mem x hx)


/-- the supports with one vote more at the first j issues -/
def supMix (m : Nat) (vs : List Int) (k j : Nat) : List Int := (List.range m).map fun t => if t < j then (supK vs t (k + 1) : Int) else (supK vs t k : Int)
theorem supMix_zero (m : Nat) (vs : List Int) (k : Nat) : supMix m vs k 0 = supKL m vs k := by
  unfold supMix supKL
  refine List.map_congr_left fun t _ => ?_
  rw [if_neg (by omega)]
theorem supMix_all (m : Nat) (vs : List Int) (k : Nat) : supMix m vs k m = supKL m vs (k + 1) := by
  unfold supMix supKL
  refine List.map_congr_left fun t ht => ?_
  rw [if_pos (by simpa using ht)]
theorem supMix_length (m : Nat) (vs : List Int) (k j : Nat) : (supMix m vs k j).length = m := by simp [supMix]
theorem supMix_at (m : Nat) (vs : List Int) (k j : Nat) (h : j < m) : (supMix m vs k j)[j]'(by rw [supMix_length]; exact h) = (supK vs j k : Int) := by
  simp [supMix]
theorem supMix_set (m : Nat) (vs : List Int) (k j : Nat) (h : j < m) : (supMix m vs k j).set j (supK vs j (k + 1) : Int) = supMix m vs k (j + 1) := by
  refine ints_ext (by simp [supMix]) fun t ht => ?_
  have ht' : t < m := by simpa [supMix] using ht
  rw [List.getD_eq_getElem?_getD, List.getD_eq_getElem?_getD]
  by_cases e : j = t
  · subst e
    rw [List.getElem?_set_self (by rw [supMix_length]; exact h)]
    simp [supMix, ht']
  · rw [List.getElem?_set_ne e]
    simp only [supMix, List.getElem?_map, List.getElem?_range ht', Option.map_some, Option.getD_some]
    by_cases h1 : t < j
    · rw [if_pos h1, if_pos (by omega)]
    · rw [if_neg h1, if_neg (by omega)]
theorem supKL_zero (m : Nat) (vs : List Int) : supKL m vs 0 = List.replicate m 0 := by
  unfold supKL
  rw [List.eq_replicate_iff]
  refine ⟨by simp, fun b hb => ?_⟩
  simp [supK] at hb
  exact hb.2.symm

theorem shr_bitU (x : Int) (j : Nat) (hx : 0 ≤ x ∧ x ≤ 15) (hj : j ≤ 4) : bits .and .i64 (x / 2 ^ j) 1 = (bitN x.toNat j : Nat) := by
  obtain ⟨y, rfl⟩ := Int.eq_ofNat_of_zero_le hx.1
  have h : ∀ y : Fin 16, ∀ j : Fin 5, bits .and .i64 (((y.val : Nat) : Int) / 2 ^ j.val) 1 = ((bitN y.val j.val : Nat) : Int) := by decide +kernel
  exact h ⟨y, by omega⟩ ⟨j, by omega⟩

set_option maxHeartbeats 2000000 in
theorem implSupportOf_any (n : Int) (a l : Option Addr) (cap capl : Nat) (zs vs : List Int) (w : World) (hi : Ints w a zs) (hj : Ints w l vs) (hn : zs.length ≤ 1048576) (hm : vs.length ≤ 1048576) :
    Calls Try.prog 85 #[.agg #[.int .i64 n, .slice a zs.length cap], .slice l vs.length capl] w (Gives (supA n zs vs) w) := by
  obtain ⟨i0, hi0, hz0, hz1, hz2⟩ := info_parts info_int
  have S0 := SV.new w n a zs cap l vs 28 hi hj
  clear hi hj
  by_cases hv : vvB n zs vs = false
  · have HN := hide (supA_no hv)
    go_enter Try.func85, Try.ntmps85
    go_wp2_with fail
    refine (implValidVotes_any _ _ _ _ _ _ _ _ S0.2.1 S0.2.2.1 hn hm).mono ?_
    rintro e w1 ⟨rfl, hb⟩
    go_wp2
    go_ret
    exact gives_nil HN.out (S0.below hb).2.2.2
  · have hv : vvB n zs vs = true := by simpa using hv
    have HN := hide (supA_yes hv)
    have hV := hide (vv_of hv)
    have HR := hide (votes_range hV.out.1 hV.out.2)
    obtain ⟨m, rfl⟩ := Int.eq_ofNat_of_zero_le (show 0 ≤ n from by have := hV.out.1.1; omega)
    have h4 : m ≤ 4 := by have := hV.out.1.1; omega
    have h5 : vs.length ≤ 5 := by have := hV.out.2.2; omega
    go_enter Try.func85, Try.ntmps85
    go_wp2_with fail
    refine (implValidVotes_any _ _ _ _ _ _ _ _ S0.2.1 S0.2.2.1 hn hm).mono ?_
    rintro e wo ⟨rfl, hb⟩
    have SR := S0.below hb
    clear S0 hb
    obtain ⟨⟨_, c0, c1⟩, _⟩ := SR.pair
    go_wp2_with (at_make; refine wpList_make_full _ rfl _ _ 22 rfl wo.heap.size 3 i0 (.int .i64 0) 1 Try.underlying22 hi0 hz0 hz1 _ _ _ _ m rfl rfl (by omega) (by omega) ?b2 ?b3 (Nat.le_refl _) ?_)
    case b2 => rw [hz2]; omega
    case b3 => unfold maxLen; omega
    intro w0 hown0 hgrow0
    rw [madeInts] at hown0
    have hb0 : Below wo.heap.size wo w0 := (Below.refl _ _).grown hgrow0 (Nat.le_refl _) (fun k h => by cases h)
    clear hgrow0 c0 c1
    go_wp2
    go_loopw [18] (fun i wr => ∃ k : Nat, k ≤ vs.length ∧ i = .int .i64 k ∧ wr.ownsRow wo.heap.size 3 1 (.slice (some ⟨wo.heap.size, 0, none⟩) m m) m ((supKL m vs k).map (Value.int .i64)) ∧ Below wo.heap.size wo wr) (fun i _ => vs.length - (intOf i).toNat)
    case atStart => exact ⟨0, Nat.zero_le _, rfl, by rw [supKL_zero]; exact hown0, hb0⟩
    case round =>
      clear hown0 hb0
      obtain ⟨k, hk, rfl, hown, BR⟩ := hrel
      obtain ⟨⟨_, c0, c1⟩, _, il, _⟩ := (SR.below BR).pair
      by_cases hlt : k < vs.length
      · obtain ⟨lb, lo, rfl, hlb, hlc⟩ := il (by omega)
        have hkk := hlc k hlt
        rw [getD_lt hlt] at hkk
        have rK := hide (HR.out _ (mem_of_at hlt))
        clear hlc il
        go_wp2
        clear hkk c0 c1
        go_loopw [24] (fun i wq => ∃ j : Nat, j ≤ m ∧ i = .int .i64 j ∧ wq.ownsRow wo.heap.size 3 1 (.slice (some ⟨wo.heap.size, 0, none⟩) m m) m ((supMix m vs k j).map (Value.int .i64)) ∧ Below wo.heap.size wo wq) (fun i _ => m - (intOf i).toNat)
        case atStart => exact ⟨0, Nat.zero_le _, rfl, by rw [supMix_zero]; exact hown, BR⟩
        case round =>
          clear hown BR
          obtain ⟨j, hj, rfl, hown, BR⟩ := hrel
          by_cases hjt : j < m
          · have hst := hown.cellAt j (by omega)
            rw [List.getElem?_map, List.getElem?_eq_getElem (by rw [supMix_length]; exact hjt), supMix_at m vs k j hjt] at hst
            have hfz := hown.frozenAt j
            have hbit := shr_bitU vs[k] j rK.out (by omega)
            have hb1 := bitN_le vs[k].toNat j
            have hsk := supK_le vs j k
            have HS := hide (show supK vs j (k + 1) = supK vs j k + bitN vs[k].toNat j from by rw [supK, getD_lt hlt])
            have HM := hide (supMix_set m vs k j hjt)
            go_wp2
            go_region
            all_goals go_wp2
            all_goals
              go_roundw
              case rel => exact ⟨j + 1, by omega, by go_num, by rw [← HM.out, HS.out, List.map_set]; exact (hown.stored j _).1, bdrew' (BR.setCell (p := ⟨wo.heap.size, j, none⟩) (Nat.le_refl _) _)⟩
              case measure => simp [intOf]; omega
          · obtain rfl : j = m := by omega
            go_wp2
            go_roundw
            case rel => exact ⟨k + 1, by omega, by go_num, by rw [← supMix_all]; exact hown, BR⟩
            case measure => simp only [intOf]; omega
      · obtain rfl : k = vs.length := by omega
        go_wp2
        go_ret
        refine ⟨_, rfl, ?_, bnext SR.2.2.2 BR⟩
        rw [HN.out, Int.toNat_natCast]
        refine Owns.le (base := wo.heap.size) ?_ SR.2.2.2.size
        unfold Owns
        rw [supL_length]
        exact hown
end Go.Proofs.Ytccemllgglfgkaa
