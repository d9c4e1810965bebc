/- Whether a list has a number: the model's loop and slices.Contains; InSpace. -/
import Derived.Test.YtbmodiobgkmngaaValid
namespace Go.Proofs.Ytbmodiobgkmngaa
open Go.RowKit Go.Joins

def hasB (zs : List Int) (x : Int) : Bool := decide (x ∈ zs)
theorem mem_of_at {zs : List Int} {k : Nat} (h : k < zs.length) : zs[k] ∈ zs := List.getElem_mem h
theorem not_mem_of {zs : List Int} {x : Int} (h : ∀ j, j < zs.length → zs.getD j 0 ≠ x) : x ∉ zs := by
  intro hm
  obtain ⟨j, hj, e⟩ := List.getElem_of_mem hm
  exact h j hj (by rw [getD_lt hj]; exact e)
theorem hasB_true {zs : List Int} {x : Int} (h : x ∈ zs) : hasB zs x = true := by simpa [hasB] using h
theorem hasB_false {zs : List Int} {x : Int} (h : x ∉ zs) : hasB zs x = false := by simpa [hasB] using h

set_option maxHeartbeats 400000 in
theorem has_any (n x : Int) (a : Option Addr) (cap : Nat) (zs : List Int) (w : World) (hi : Ints w a zs) (hn : zs.length ≤ 1048576) :
    Calls Try.prog 81 #[.agg #[.int .i64 n, .slice a zs.length cap], .int .i64 x] w fun e w' => e = .returned (.bool (hasB zs x)) ∧ Below w.heap.size w w' := by
  have bx := Box.new w n a zs.length cap 25
  have ia := hi.below (bel1 w (.cells #[.int .i64 n, .slice a zs.length cap] 25))
  clear hi
  go_enter Try.func81, Try.ntmps81
  go_wp2_with fail
  go_loopw [5] (fun i wr => ∃ k : Nat, k ≤ zs.length ∧ i = .int .i64 k ∧ (∀ j, j < k → zs.getD j 0 ≠ x) ∧ Below (w.alloc (.cells #[.int .i64 n, .slice a zs.length cap] 25)).heap.size (w.alloc (.cells #[.int .i64 n, .slice a zs.length cap] 25)) wr) (fun i _ => zs.length - (intOf i).toNat)
  case atStart => exact ⟨0, Nat.zero_le _, rfl, fun j hj => by omega, Below.refl _ _⟩
  case round =>
    obtain ⟨k, hk, rfl, hall, hb⟩ := hrel
    have HA := hide hall
    clear hall
    obtain ⟨_, c0, c1⟩ := bx.below hb
    by_cases hlt : k < zs.length
    · obtain ⟨b, off, rfl, hbl, hc⟩ := (ia.below hb) (by omega)
      have hck := hc k hlt
      rw [getD_lt hlt] at hck
      clear hc ia
      by_cases he : zs[k] = x
      · have hE : (zs[k] == x) = true := by simpa using he
        have HF := hide (hasB_true (zs := zs) (x := x) (he ▸ mem_of_at hlt))
        clear he
        go_wp2
        go_ret
        exact ⟨ret_bool HF.out.symm, bnext (bel1 w _) hb⟩
      · have hE : (zs[k] == x) = false := by simpa using he
        have HE := hide he
        clear he
        go_wp2
        go_roundw
        case rel => exact ⟨k + 1, by omega, by go_num, fun j hj => by
          rcases Nat.lt_or_ge j k with h | h
          · exact HA.out j h
          · obtain rfl : j = k := by omega
            rw [getD_lt hlt]
            exact HE.out, hb⟩
        case measure => simp only [intOf]; omega
    · obtain rfl : k = zs.length := by omega
      go_wp2
      go_ret
      exact ⟨ret_bool (hasB_false (not_mem_of HA.out)).symm, bnext (bel1 w _) hb⟩

/-- What slices.Index leaves. -/
def IdxPost (zs : List Int) (x : Int) (w : World) (e : Ending) (w' : World) : Prop :=
  ∃ r : Int, ((x ∈ zs ∧ 0 ≤ r) ∨ (x ∉ zs ∧ r = -1)) ∧ r ≤ 1048576 ∧ e = .returned (.int .i64 r) ∧ Below w.heap.size w w'

set_option maxHeartbeats 400000 in
theorem index_any (x : Int) (a : Option Addr) (cap : Nat) (zs : List Int) (w : World) (hi : Ints w a zs) (hn : zs.length ≤ 1048576) :
    Calls Try.prog 79 #[.slice a zs.length cap, .int .i64 x] w (IdxPost zs x w) := by
  go_enter Try.func79, Try.ntmps79
  go_wp2_with fail
  go_loopw [8] (fun i wr => ∃ k : Nat, k ≤ zs.length ∧ i = .int .i64 k ∧ (∀ j, j < k → zs.getD j 0 ≠ x) ∧ Below w.heap.size w wr) (fun i _ => zs.length - (intOf i).toNat)
  case atStart => exact ⟨0, Nat.zero_le _, rfl, fun j hj => by omega, Below.refl _ _⟩
  case round =>
    obtain ⟨k, hk, rfl, hall, hb⟩ := hrel
    have HA := hide hall
    clear hall
    by_cases hlt : k < zs.length
    · obtain ⟨b, off, rfl, hbl, hc⟩ := (hi.below hb) (by omega)
      have hck := hc k hlt
      rw [getD_lt hlt] at hck
      clear hc hi
      by_cases he : x = zs[k]
      · have hE : (x == zs[k]) = true := by simpa using he
        have HE := hide he
        clear he
        go_wp2
        go_ret
        exact ⟨k, .inl ⟨by rw [HE.out]; exact mem_of_at hlt, by omega⟩, by omega, rfl, hb⟩
      · have hE : (x == zs[k]) = false := by simpa using he
        have HE := hide he
        clear he
        go_wp2
        go_roundw
        case rel => exact ⟨k + 1, by omega, by go_num, fun j hj => by
          rcases Nat.lt_or_ge j k with h | h
          · exact HA.out j h
          · obtain rfl : j = k := by omega
            rw [getD_lt hlt]
            exact fun e => HE.out e.symm, hb⟩
        case measure => simp only [intOf]; omega
    · obtain rfl : k = zs.length := by omega
      go_wp2
      go_ret
      exact ⟨-1, .inr ⟨not_mem_of HA.out, rfl⟩, by omega, rfl, hb⟩

theorem contains_any (x : Int) (a : Option Addr) (cap : Nat) (zs : List Int) (w : World) (hi : Ints w a zs) (hn : zs.length ≤ 1048576) :
    Calls Try.prog 55 #[.slice a zs.length cap, .int .i64 x] w fun e w' => e = .returned (.bool (hasB zs x)) ∧ Below w.heap.size w w' := by
  by_cases hm : x ∈ zs
  · have HB := hide (hasB_true hm)
    go_enter Try.func55, Try.ntmps55
    go_wp2_with fail
    refine (index_any _ _ _ _ _ hi hn).mono ?_
    rintro e w' ⟨r, hr, hr2, rfl, hb⟩
    have h0 : 0 ≤ r := by
      rcases hr with ⟨_, h⟩ | ⟨h, _⟩
      · exact h
      · exact absurd hm h
    clear hr hm
    go_wp2
    go_ret
    exact ⟨ret_bool HB.out.symm, hb⟩
  · have HB := hide (hasB_false hm)
    go_enter Try.func55, Try.ntmps55
    go_wp2_with fail
    refine (index_any _ _ _ _ _ hi hn).mono ?_
    rintro e w' ⟨r, hr, hr2, rfl, hb⟩
    have h0 : r < 0 := by
      rcases hr with ⟨h, _⟩ | ⟨_, h⟩
      · exact absurd h hm
      · omega
    clear hr hm
    go_wp2
    go_ret
    exact ⟨ret_bool (by rw [HB.out]; simp; omega), hb⟩

/-- what InSpace answers -/
def inB (n : Int) (zs : List Int) (x : Int) : Bool := vsB n zs && hasB zs x
theorem inB_false {n : Int} {zs : List Int} {x : Int} (h : vsB n zs = false) : inB n zs x = false := by unfold inB; rw [h]; rfl
theorem inB_true {n : Int} {zs : List Int} {x : Int} (h : vsB n zs = true) : inB n zs x = hasB zs x := by unfold inB; rw [h]; rfl

end Go.Proofs.Ytbmodiobgkmngaa
