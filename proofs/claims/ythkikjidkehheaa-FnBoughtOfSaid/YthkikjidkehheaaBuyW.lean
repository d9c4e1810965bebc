/- BoughtOf of the model, whole. -/
import Derived.Test.YthkikjidkehheaaBuyS
import Derived.Test.YthkikjidkehheaaLoadI
namespace Go.Proofs.Ythkikjidkehheaa
open Go.RowKit Go.Joins

/-- what BoughtOf answers -/
def boughtA (c : Int) (bs : List Int) (k : Int) : List Nat × List Nat × Nat := if seatsB c bs k = true then runB c.toNat bs k.toNat (c.toNat + 1) else ([], [], 0)
theorem boughtA_no {c : Int} {bs : List Int} {k : Int} (h : seatsB c bs k = false) : boughtA c bs k = ([], [], 0) := by unfold boughtA; rw [h]; rfl
theorem boughtA_yes {c : Int} {bs : List Int} {k : Int} (h : seatsB c bs k = true) : boughtA c bs k = runB c.toNat bs k.toNat (c.toNat + 1) := by unfold boughtA; rw [if_pos h]
theorem boughtA_len (c : Int) (bs : List Int) (k : Int) : (boughtA c bs k).1.length ≤ 6 ∧ (boughtA c bs k).2.1.length ≤ 6 := by
  by_cases h : seatsB c bs k = true
  · rw [boughtA_yes h]
    have hS := seats_of h
    have h6 : bs.length ≤ 6 := by have := hS.1.2.1; omega
    have OK := runB_ok (c := c.toNat) (bs := bs) (k := k.toNat) h6 (c.toNat + 1)
    exact ⟨by have := nodup_most OK.nd OK.lt; have := hS.1.1; omega, by rw [OK.ps]; exact h6⟩
  · rw [boughtA_no (by simpa using h)]
    exact ⟨by decide, by decide⟩
theorem byE_none {c : Int} {bs : List Int} {k : Int} {w w' : World} (h : seatsB c bs k = false) (hb : Below w.heap.size w w') : LdE w w' (boughtA c bs k) (.returned (.tuple #[.slice none 0 0, .slice none 0 0, .int .i64 0])) := by
  rw [boughtA_no h]
  exact ⟨_, _, rfl, World.ownsRow_nil _ _ _ _, World.ownsRow_nil _ _ _ _, (fun g e => by cases e), hb⟩
theorem specBought_any (c k : Int) (a : Option Addr) (cap : Nat) (bs : List Int) (w : World) (hi : Ints w a bs) (hn : bs.length ≤ 1048576) :
    Calls Try.prog 13 #[.int .i64 c, .slice a bs.length cap, .int .i64 k] w fun e w' => LdE w w' (boughtA c bs k) e := by
  by_cases hs : seatsB c bs k = true
  · have hS := seats_of hs
    have HA := hide (boughtA_yes hs)
    obtain ⟨m, rfl⟩ := Int.eq_ofNat_of_zero_le (show 0 ≤ c from by have := hS.1.1; omega)
    obtain ⟨K, rfl⟩ := Int.eq_ofNat_of_zero_le (show 0 ≤ k from by have := hS.2; omega)
    rw [Int.toNat_natCast, Int.toNat_natCast] at HA
    have hKm : K ≤ m := by have := hS.2; omega
    have HV := hide hS.1
    have HS := hide hs
    clear hS hs
    go_enter Try.func13, Try.ntmps13
    go_wp2_with fail
    refine (specSeats_any _ _ _ _ _ _ hi hn).mono ?_
    rintro e w1 ⟨rfl, hb1⟩
    rw [HS.out]
    go_wp2_with fail
    refine (bought_any m K _ _ _ _ (hi.below hb1) HV.out hKm).mono ?_
    rintro e w2 ⟨v1, v2, rfl, o1, o2, hne, hb2⟩
    go_wp2
    go_ret3
    rw [HA.out]
    exact LdE.back ⟨v1, v2, rfl, o1, o2, hne, hb2⟩ hb1
  · have hs : seatsB c bs k = false := by simpa using hs
    have HS := hide hs
    clear hs
    go_enter Try.func13, Try.ntmps13
    go_wp2_with fail
    refine (specSeats_any _ _ _ _ _ _ hi hn).mono ?_
    rintro e w1 ⟨rfl, hb1⟩
    rw [HS.out]
    go_wp2
    go_ret3
    exact byE_none HS.out hb1
end Go.Proofs.Ythkikjidkehheaa
