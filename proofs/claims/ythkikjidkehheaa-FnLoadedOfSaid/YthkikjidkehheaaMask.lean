/- The committee of names: CommitteeOf in the model and in the program. -/
import Derived.Test.YthkikjidkehheaaBal
namespace Go.Proofs.Ythkikjidkehheaa
open Go.RowKit Go.Joins

/-- all of a list are names -/
def NamesOk (zs : List Int) : Prop := ∀ j, j < zs.length → 0 ≤ zs.getD j 0 ∧ zs.getD j 0 ≤ 4
instance (zs : List Int) : Decidable (NamesOk zs) := by unfold NamesOk; infer_instance
/-- the first k names of a list together -/
def maskK (zs : List Int) : Nat → Nat
  | 0 => 0
  | k + 1 => maskK zs k ||| 2 ^ (zs.getD k 0).toNat
theorem maskK_lt (zs : List Int) : ∀ k, (∀ j, j < k → 0 ≤ zs.getD j 0 ∧ zs.getD j 0 ≤ 4) → maskK zs k < 32
  | 0, _ => by show 0 < 32; omega
  | k + 1, h => by
    have ih := maskK_lt zs k (fun j hj => h j (by omega))
    have hk := h k (by omega)
    have h2 : 2 ^ (zs.getD k 0).toNat < 2 ^ 5 := Nat.pow_lt_pow_right (by omega) (by omega)
    exact Nat.or_lt_two_pow (n := 5) ih h2
/-- what CommitteeOf answers -/
def maskV (zs : List Int) : Int := if NamesOk zs then (maskK zs zs.length : Int) else -1
theorem maskV_yes {zs : List Int} (h : NamesOk zs) : maskV zs = (maskK zs zs.length : Int) := if_pos h
theorem maskV_no {zs : List Int} (h : ¬ NamesOk zs) : maskV zs = -1 := if_neg h
theorem or_name (zs : List Int) (k : Nat) (x : Int) (hx : zs.getD k 0 = x) (h0 : 0 ≤ x) (h4 : x ≤ 4) (hm : maskK zs k < 32) : bits .or .i64 (maskK zs k : Int) (pw x) = (maskK zs (k + 1) : Nat) := by
  have h2 : 2 ^ x.toNat < 2 ^ 5 := Nat.pow_lt_pow_right (by omega) (by omega)
  have e : pw x = ((2 ^ x.toNat : Nat) : Int) := rfl
  rw [e, or_big _ _ (by omega) (by omega)]
  show _ = ((maskK zs k ||| 2 ^ (zs.getD k 0).toNat : Nat) : Int)
  rw [hx]

set_option maxHeartbeats 1000000 in
theorem implMask_any (a : Option Addr) (cap : Nat) (zs : List Int) (w : World) (hi : Ints w a zs) (hn : zs.length ≤ 1048576) :
    Calls Try.prog 18 #[.slice a zs.length cap] w fun e w' => e = .returned (.int .i64 (maskV zs)) ∧ Below w.heap.size w w' := by
  go_enter Try.func18, Try.ntmps18
  go_wp2
  go_loop [3, 8] (fun o i => ∃ k : Nat, k ≤ zs.length ∧ i = .int .i64 k ∧ o = .int .i64 (maskK zs k) ∧ (∀ j, j < k → 0 ≤ zs.getD j 0 ∧ zs.getD j 0 ≤ 4)) (fun _ i => zs.length - (intOf i).toNat)
  case atStart => exact ⟨0, Nat.zero_le _, rfl, rfl, fun j hj => by omega⟩
  case round =>
    obtain ⟨k, hkl, rfl, rfl, hall⟩ := hrel
    have HA := hide hall
    clear hall
    by_cases hlt : k < zs.length
    · obtain ⟨b, off, rfl, hbl, hc⟩ := hi (by omega)
      have hck := hc k hlt
      rw [getD_lt hlt] at hck
      clear hc hi
      by_cases h0 : 0 ≤ zs[k]
      · by_cases h4 : zs[k] ≤ 4
        · have hor := or_name zs k zs[k] (getD_lt hlt) h0 h4 (maskK_lt zs k HA.out)
          have hwp := wrap_pow5 zs[k] (by omega)
          go_wp2
          go_round
          case rel => exact ⟨k + 1, by omega, by go_num, rfl, fun j hj => by
            rcases Nat.lt_or_ge j k with h | h
            · exact HA.out j h
            · obtain rfl : j = k := by omega
              rw [getD_lt hlt]
              exact ⟨h0, h4⟩⟩
          case measure => simp only [intOf]; omega
        · have HN := hide (maskV_no (fun h : NamesOk zs => h4 (by have := (h k hlt).2; rwa [getD_lt hlt] at this)))
          go_wp2
          go_ret
          exact ⟨ret_int HN.out.symm, Below.refl _ _⟩
      · have HN := hide (maskV_no (fun h : NamesOk zs => h0 (by have := (h k hlt).1; rwa [getD_lt hlt] at this)))
        go_wp2
        go_ret
        exact ⟨ret_int HN.out.symm, Below.refl _ _⟩
    · obtain rfl : k = zs.length := by omega
      have HN := hide (maskV_yes HA.out)
      go_wp2
      go_ret
      exact ⟨ret_int HN.out.symm, Below.refl _ _⟩
end Go.Proofs.Ythkikjidkehheaa
