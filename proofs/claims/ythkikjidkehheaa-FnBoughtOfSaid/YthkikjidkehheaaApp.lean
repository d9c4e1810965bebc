/- How many ballots approve of each name; ApprovalsOf in the model and in the program. -/
import Derived.Test.YthkikjidkehheaaBal
import Derived.Deep.RegionWith
import Derived.RegionTactic
import Derived.BigRegion
namespace Go.Proofs.Ythkikjidkehheaa
open Go.RowKit Go.Joins

/-- how many of the first k numbers have the digit j -/
def supK (vs : List Int) (j : Nat) : Nat → Nat
  | 0 => 0
  | k + 1 => supK vs j k + bitN (vs.getD k 0).toNat j
theorem supK_le (vs : List Int) (j : Nat) : ∀ k, supK vs j k ≤ k
  | 0 => Nat.le_refl _
  | k + 1 => by have := supK_le vs j k; have := bitN_le (vs.getD k 0).toNat j; unfold supK; omega
def supN (vs : List Int) (j : Nat) : Nat := supK vs j vs.length
theorem supN_le (vs : List Int) (j : Nat) : supN vs j ≤ vs.length := supK_le _ _ _
def supL (m : Nat) (vs : List Int) : List Int := (List.range m).map fun j => (supN vs j : Int)
theorem supL_length (m : Nat) (vs : List Int) : (supL m vs).length = m := by simp [supL]
theorem supL_succ (m : Nat) (vs : List Int) : supL (m + 1) vs = supL m vs ++ [(supN vs m : Int)] := by
  unfold supL
  rw [List.range_succ, List.map_append]
  rfl
theorem supL_getD (m : Nat) (vs : List Int) (j : Nat) (h : j < m) : (supL m vs).getD j 0 = (supN vs j : Int) := by
  simp [supL, List.getD_eq_getElem?_getD, h]


/-- what ApprovalsOf answers -/
def appA (c : Int) (bs : List Int) : List Int := if balB c bs = true then supL c.toNat bs else []
theorem appA_yes {c : Int} {bs : List Int} (h : balB c bs = true) : appA c bs = supL c.toNat bs := if_pos h
theorem appA_no {c : Int} {bs : List Int} (h : balB c bs = false) : appA c bs = [] := if_neg (by rw [h]; decide)
theorem appA_len (c : Int) (bs : List Int) : (appA c bs).length ≤ 32 := by
  unfold appA
  split
  · rename_i h
    have := (bal_of h).1
    rw [supL_length]; omega
  · simp


/-- the approvals of the first j names by all ballots, and of the next one by the first k of them -/
def apM (m : Nat) (bs : List Int) (j k : Nat) : List Int := (List.range m).map fun t => if t < j then (supN bs t : Int) else if t = j then (supK bs t k : Int) else 0
theorem apM_length (m : Nat) (bs : List Int) (j k : Nat) : (apM m bs j k).length = m := by simp [apM]
theorem apM_zero (m : Nat) (bs : List Int) : apM m bs 0 0 = List.replicate m 0 := by
  unfold apM
  rw [List.eq_replicate_iff]
  refine ⟨by simp, fun b hb => ?_⟩
  simp [supK] at hb
  exact hb.2.symm
theorem apM_next (m : Nat) (bs : List Int) (j : Nat) : apM m bs j bs.length = apM m bs (j + 1) 0 := by
  unfold apM
  refine List.map_congr_left fun t _ => ?_
  by_cases h : t < j
  · rw [if_pos h, if_pos (by omega)]
  · by_cases e : t = j
    · subst e
      rw [if_neg h, if_pos rfl, if_pos (by omega)]
      rfl
    · rw [if_neg h, if_neg e, if_neg (by omega)]
      by_cases e2 : t = j + 1
      · rw [if_pos e2]; rfl
      · rw [if_neg e2]
theorem apM_all (m : Nat) (bs : List Int) : apM m bs m 0 = supL m bs := by
  unfold apM supL
  refine List.map_congr_left fun t ht => ?_
  rw [if_pos (by simpa using ht)]
theorem apM_at (m : Nat) (bs : List Int) (j k : Nat) (h : j < m) : (apM m bs j k)[j]'(by rw [apM_length]; exact h) = (supK bs j k : Int) := by
  simp [apM]
theorem apM_set (m : Nat) (bs : List Int) (j k : Nat) (h : j < m) : (apM m bs j k).set j (supK bs j (k + 1) : Int) = apM m bs j (k + 1) := by
  refine ints_ext (by simp [apM]) fun t ht => ?_
  have ht' : t < m := by simpa [apM] using ht
  rw [List.getD_eq_getElem?_getD, List.getD_eq_getElem?_getD]
  by_cases e : j = t
  · subst e
    rw [List.getElem?_set_self (by rw [apM_length]; exact h)]
    simp [apM, ht']
  · rw [List.getElem?_set_ne e]
    simp only [apM, List.getElem?_map, List.getElem?_range ht', Option.map_some, Option.getD_some]
    by_cases h1 : t < j
    · rw [if_pos h1, if_pos h1]
    · rw [if_neg h1, if_neg h1, if_neg (by omega), if_neg (by omega)]
theorem shr_bit (x : Int) (j : Nat) (hx : 0 ≤ x ∧ x ≤ 31) (hj : j ≤ 5) : bits .and .i64 (x / 2 ^ j) 1 = (bitN x.toNat j : Nat) := by
  obtain ⟨y, rfl⟩ := Int.eq_ofNat_of_zero_le hx.1
  have h : ∀ y : Fin 32, ∀ j : Fin 6, bits .and .i64 (((y.val : Nat) : Int) / 2 ^ j.val) 1 = ((bitN y.val j.val : Nat) : Int) := by decide +kernel
  exact h ⟨y, by omega⟩ ⟨j, by omega⟩

set_option maxHeartbeats 2000000 in
theorem implApp_any (c : Int) (a : Option Addr) (cap : Nat) (bs : List Int) (w : World) (hi : Ints w a bs) (hn : bs.length ≤ 1048576) :
    Calls Try.prog 17 #[.int .i64 c, .slice a bs.length cap] w (Gives (appA c bs) w) := by
  obtain ⟨i0, hi0, hz0, hz1, hz2⟩ := info_parts info_int
  by_cases hv : balB c bs = false
  · have HN := hide (appA_no hv)
    go_enter Try.func17, Try.ntmps17
    go_wp2_with fail
    refine (implBal_any _ _ _ _ _ hi hn).mono ?_
    rintro e w1 ⟨rfl, hb⟩
    go_wp2
    go_ret
    exact gives_nil HN.out hb
  · have hv : balB c bs = true := by simpa using hv
    have HN := hide (appA_yes hv)
    have hV := hide (bal_of hv)
    have HR := hide (bal_range hV.out)
    obtain ⟨m, rfl⟩ := Int.eq_ofNat_of_zero_le (show 0 ≤ c from by have := hV.out.1; omega)
    have h4 : m ≤ 5 := by have := hV.out.1; omega
    have h6 : bs.length ≤ 6 := by have := hV.out.2.1; omega
    go_enter Try.func17, Try.ntmps17
    go_wp2_with fail
    refine (implBal_any _ _ _ _ _ hi hn).mono ?_
    rintro e wo ⟨rfl, hb⟩
    have hio := hi.below hb
    clear hi
    go_wp2_with (at_make; refine wpList_make_full _ rfl _ _ 22 rfl wo.heap.size 3 i0 (.int .i64 0) 1 Try.underlying22 hi0 hz0 hz1 _ _ _ _ m rfl rfl (by omega) (by omega) ?b2 ?b3 (Nat.le_refl _) ?_)
    case b2 => rw [hz2]; omega
    case b3 => unfold maxLen; omega
    intro w0 hown0 hgrow0
    rw [madeInts] at hown0
    have hb0 : Below wo.heap.size wo w0 := (Below.refl _ _).grown hgrow0 (Nat.le_refl _) (fun k h => by cases h)
    clear hgrow0
    go_wp2
    go_loopw [17] (fun i wr => ∃ j : Nat, j ≤ m ∧ i = .int .i64 j ∧ wr.ownsRow wo.heap.size 3 1 (.slice (some ⟨wo.heap.size, 0, none⟩) m m) m ((apM m bs j 0).map (Value.int .i64)) ∧ Below wo.heap.size wo wr) (fun i _ => m - (intOf i).toNat)
    case atStart => exact ⟨0, Nat.zero_le _, rfl, by rw [apM_zero]; exact hown0, hb0⟩
    case round =>
      clear hown0 hb0
      obtain ⟨j, hj, rfl, hown, BR⟩ := hrel
      by_cases hjt : j < m
      · go_wp2
        go_loopw [22] (fun i wq => ∃ k : Nat, k ≤ bs.length ∧ i = .int .i64 k ∧ wq.ownsRow wo.heap.size 3 1 (.slice (some ⟨wo.heap.size, 0, none⟩) m m) m ((apM m bs j k).map (Value.int .i64)) ∧ Below wo.heap.size wo wq) (fun i _ => bs.length - (intOf i).toNat)
        case atStart => exact ⟨0, Nat.zero_le _, rfl, hown, BR⟩
        case round =>
          clear hown BR
          obtain ⟨k, hk, rfl, hown, BR⟩ := hrel
          by_cases hlt : k < bs.length
          · obtain ⟨lb, lo, rfl, hlb, hlc⟩ := (hio.below BR) (by omega)
            have hkk := hlc k hlt
            rw [getD_lt hlt] at hkk
            have rK := hide (HR.out _ (mem_of_at hlt))
            have hst := hown.cellAt j (by omega)
            rw [List.getElem?_map, List.getElem?_eq_getElem (by rw [apM_length]; exact hjt), apM_at m bs j k hjt] at hst
            have hfz := hown.frozenAt j
            have hbit := shr_bit bs[k] j rK.out (by omega)
            have hb1 := bitN_le bs[k].toNat j
            have hsk := supK_le bs j k
            have HS := hide (show supK bs j (k + 1) = supK bs j k + bitN bs[k].toNat j from by rw [supK, getD_lt hlt])
            have HM := hide (apM_set m bs j k hjt)
            clear hlc hio
            go_wp2
            go_region
            all_goals go_wp2
            all_goals
              go_roundw
              case rel => exact ⟨k + 1, by omega, by go_num, by rw [← HM.out, HS.out, List.map_set]; exact (hown.stored j _).1, bdrew' (BR.setCell (p := ⟨wo.heap.size, j, none⟩) (Nat.le_refl _) _)⟩
              case measure => simp [intOf]; omega
          · obtain rfl : k = bs.length := by omega
            have HM := hide (apM_next m bs j)
            go_wp2
            go_roundw
            case rel => exact ⟨j + 1, by omega, by go_num, by rw [← HM.out]; exact hown, BR⟩
            case measure => simp only [intOf]; omega
      · obtain rfl : j = m := by omega
        go_wp2
        go_ret
        refine ⟨_, rfl, ?_, bnext hb BR⟩
        rw [HN.out, Int.toNat_natCast]
        refine Owns.le (base := wo.heap.size) ?_ hb.size
        unfold Owns
        rw [supL_length, ← apM_all]
        exact hown
end Go.Proofs.Ythkikjidkehheaa
