/- Plain facts on hulls: the care that is left, the two tests. -/
import Derived.Test.YtklfpbidbiippaaBits
import Derived.Test.YtklfpbidbiippaaOpen
namespace Go.Proofs.Ytklfpbidbiippaa
open Go.RowKit

theorem andNot_small (a b : Nat) (ha : a < 16) (hb : b < 16) : bits .andNot .i64 (a : Int) (b : Int) = ((a - (a &&& b) : Nat) : Int) := by
  have h : ∀ a : Fin 16, ∀ b : Fin 16, bits .andNot .i64 ((a.val : Nat) : Int) ((b.val : Nat) : Int) = ((a.val - (a.val &&& b.val) : Nat) : Int) := by decide +kernel
  exact h ⟨a, ha⟩ ⟨b, hb⟩
/-- the issues on which the first k of a list agree -/
def careK (n : Int) (ls : List Int) : Nat → Nat
  | 0 => (pw n - 1).toNat
  | k + 1 => careK n ls k - (careK n ls k &&& ((ls.getD k 0).toNat ^^^ (ls.getD 0 0).toNat))
theorem careK_le (n : Int) (h4 : n ≤ 4) (ls : List Int) : ∀ k, careK n ls k < 16
  | 0 => by have := pw_le n h4; have := pw_pos n; unfold careK; omega
  | k + 1 => by have := careK_le n h4 ls k; unfold careK; omega
/-- the judgment x gives what all of the list give -/
def hullP (n : Int) (ls : List Int) (x : Int) : Bool := (x.toNat ^^^ (ls.getD 0 0).toNat) &&& careK n ls ls.length == 0
theorem hull_same (x l c : Nat) (hx : x < 16) (hl : l < 16) (hc : c < 16) : ((x &&& c) == (l &&& c)) = ((x ^^^ l) &&& c == 0) := by
  have h : ∀ x : Fin 16, ∀ l : Fin 16, ∀ c : Fin 16, ((x.val &&& c.val) == (l.val &&& c.val)) = ((x.val ^^^ l.val) &&& c.val == 0) := by decide +kernel
  exact h ⟨x, hx⟩ ⟨l, hl⟩ ⟨c, hc⟩
/-- what HullOf may be asked -/
def HullOk (n : Int) (zs ls : List Int) : Prop := Valid n zs ∧ (0 < ls.length ∧ ls.length ≤ 10) ∧ ∀ j, j < ls.length → ls.getD j 0 ∈ zs
instance (n : Int) (zs ls : List Int) : Decidable (HullOk n zs ls) := by unfold HullOk; infer_instance
def hullL (n : Int) (zs ls : List Int) : List Int := if HullOk n zs ls then zs.filter (hullP n ls) else []
theorem hullL_yes {n : Int} {zs ls : List Int} (h : HullOk n zs ls) : hullL n zs ls = zs.filter (hullP n ls) := if_pos h
theorem hullL_no {n : Int} {zs ls : List Int} (h : ¬ HullOk n zs ls) : hullL n zs ls = [] := if_neg h
theorem hull_eq {n : Int} {ls : List Int} {x : Int} (h4 : n ≤ 4) (hx : 0 ≤ x ∧ x ≤ 15) (hl : 0 ≤ ls.getD 0 0 ∧ ls.getD 0 0 ≤ 15) :
    hpB x (careK n ls ls.length : Nat) (((ls.getD 0 0).toNat &&& careK n ls ls.length : Nat) : Int) = hullP n ls x := by
  have hc := careK_le n h4 ls ls.length
  unfold hpB hullP
  rw [← hull_same _ _ _ (by omega) (by omega) hc]
  simp only [Int.toNat_natCast]
end Go.Proofs.Ytklfpbidbiippaa
