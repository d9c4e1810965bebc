/- The first pair that meets a test. Nothing of the program. -/
import Derived.WalkKit
namespace Go.Proofs.Ythkikjidkehheaa

theorem find_some {p : Nat → Bool} {M g : Nat} (hg : g < M) (hp : p g = true) (h : ∀ x, x < g → p x = false) : (List.range M).find? p = some g := by
  rw [List.find?_range_eq_some]
  exact ⟨hp, by simpa using hg, fun j hj => by rw [h j hj]; rfl⟩
theorem find_none {p : Nat → Bool} {M : Nat} (h : ∀ x, x < M → p x = false) : (List.range M).find? p = none := by
  rw [List.find?_eq_none]
  intro x hx
  rw [h x (by simpa using hx)]
  decide
/-- the first l from a start, and then the first g below M, that meet a test -/
def scan (p : Nat → Nat → Bool) (M : Nat) : Nat → Nat → Option (Nat × Nat)
  | 0, _ => none
  | f + 1, l => match (List.range M).find? (p l) with
    | some g => some (l, g)
    | none => scan p M f (l + 1)
theorem scan_hit {p : Nat → Nat → Bool} {M f l g : Nat} (hg : g < M) (hp : p l g = true) (h : ∀ x, x < g → p l x = false) : scan p M (f + 1) l = some (l, g) := by
  show (match (List.range M).find? (p l) with | some g => some (l, g) | none => scan p M f (l + 1)) = _
  rw [find_some hg hp h]
theorem scan_miss {p : Nat → Nat → Bool} {M f l : Nat} (h : ∀ x, x < M → p l x = false) : scan p M (f + 1) l = scan p M f (l + 1) := by
  show (match (List.range M).find? (p l) with | some g => some (l, g) | none => scan p M f (l + 1)) = _
  rw [find_none h]
def scL : Option (Nat × Nat) → Nat
  | some x => x.1
  | none => 0
def scR : Option (Nat × Nat) → Nat
  | some x => x.2
  | none => 0
end Go.Proofs.Ythkikjidkehheaa
