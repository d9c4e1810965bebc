/- Dictators, in the model. -/
import Derived.Test.YtbmodiobgkmngaaTabS
namespace Go.Proofs.Ytbmodiobgkmngaa
open Go.RowKit Go.Joins

/-- a group wins exactly if it has the voter -/
def sameB (x g i : Nat) : Bool := bitN x g == bitN g i
def DictJ (v : Int) (ws : List Int) (i k : Nat) : Prop := ∀ j, j < k → ∀ g : Nat, (g : Int) < pw v → sameB (ws.getD j 0).toNat g i = true
def DictS (v : Int) (ws : List Int) (i : Nat) : Prop := DictJ v ws i ws.length
def IsDict (v : Int) (ws : List Int) (r : Int) : Prop := (∃ i : Nat, (i : Int) < v ∧ DictS v ws i ∧ (∀ i', i' < i → ¬ DictS v ws i') ∧ r = i) ∨ ((∀ i : Nat, (i : Int) < v → ¬ DictS v ws i) ∧ r = -1)
def DictPost (v : Int) (ws : List Int) (w : World) (e : Ending) (w' : World) : Prop := ∃ r : Int, IsDict v ws r ∧ e = .returned (.int .i64 r) ∧ Below w.heap.size w w'
theorem dictJ_step {v : Int} {ws : List Int} {i j : Nat} {ok : Bool} (h : ok = true ↔ (DictJ v ws i j ∧ ∀ g : Nat, (g : Int) < pw v → sameB (ws.getD j 0).toNat g i = true)) : ok = true ↔ DictJ v ws i (j + 1) := by
  rw [h]
  constructor
  · rintro ⟨h1, h2⟩ j' hj' g hg
    rcases Nat.lt_or_ge j' j with hh | hh
    · exact h1 j' hh g hg
    · obtain rfl : j' = j := by omega
      exact h2 g hg
  · intro h
    exact ⟨fun j' hj' g hg => h j' (by omega) g hg, fun g hg => h j (by omega) g hg⟩
theorem dictG_step {P : Prop} {x g i : Nat} {ok r : Bool} (h : ok = true ↔ (P ∧ ∀ g', g' < g → sameB x g' i = true)) (hr : r = (ok && sameB x g i)) : r = true ↔ (P ∧ ∀ g', g' < g + 1 → sameB x g' i = true) := by
  rw [hr, Bool.and_eq_true, h]
  constructor
  · rintro ⟨⟨h1, h2⟩, h3⟩
    refine ⟨h1, fun g' hg' => ?_⟩
    rcases Nat.lt_or_ge g' g with hh | hh
    · exact h2 g' hh
    · obtain rfl : g' = g := by omega
      exact h3
  · rintro ⟨h1, h2⟩
    exact ⟨⟨h1, fun g' hg' => h2 g' (by omega)⟩, h2 g (by omega)⟩
theorem dictG_done {P : Prop} {v : Int} {x g i : Nat} {ok : Bool} (h : ok = true ↔ (P ∧ ∀ g', g' < g → sameB x g' i = true)) (hg : ¬ (g : Int) < pw v) (hg2 : (g : Int) ≤ pw v) : ok = true ↔ (P ∧ ∀ g' : Nat, (g' : Int) < pw v → sameB x g' i = true) := by
  rw [h]
  constructor
  · rintro ⟨h1, h2⟩
    exact ⟨h1, fun g' hg' => h2 g' (by omega)⟩
  · rintro ⟨h1, h2⟩
    exact ⟨h1, fun g' hg' => h2 g' (by omega)⟩

end Go.Proofs.Ytbmodiobgkmngaa
