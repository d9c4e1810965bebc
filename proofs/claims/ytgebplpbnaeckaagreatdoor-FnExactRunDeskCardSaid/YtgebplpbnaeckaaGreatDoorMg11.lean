/- Texts of this seat one behind the other: Join, ListLaw. Conditions: none. -/
import Derived.Test.YtgebplpbnaeckaaGreatDoorMg08
import Derived.Test.YtgebplpbnaeckaaGreatDoorMg07
import Derived.Test.YtgebplpbnaeckaaGreatDoorMg03
import Derived.Deep.LoopGhost

/- Join: impl.joinedOnce. -/
namespace Go.Proofs.YtgebplpbnaeckaaGreatDoor
open Go.RowKit Go.Joins

/-- the judgment at a place, as a number -/
def zN (zs : List Int) (i : Nat) : Nat := (zs.getD i 0).toNat
/-- behind the first i judgments -/
def MarkA (f : Nat → Nat → Nat → Nat) (zs : List Int) (i t : Nat) : Prop := (∃ i0, i0 < i ∧ t = zN zs i0) ∨ ∃ i0 j0 k0, i0 < i ∧ j0 < i0 ∧ k0 < j0 ∧ t = f (zN zs i0) (zN zs j0) (zN zs k0)
/-- within the judgment i, behind the first j -/
def MarkB (f : Nat → Nat → Nat → Nat) (zs : List Int) (i j t : Nat) : Prop := MarkA f zs i t ∨ t = zN zs i ∨ ∃ j0 k0, j0 < j ∧ k0 < j0 ∧ t = f (zN zs i) (zN zs j0) (zN zs k0)
/-- within i and j, behind the first k -/
def MarkC (f : Nat → Nat → Nat → Nat) (zs : List Int) (i j k t : Nat) : Prop := MarkB f zs i j t ∨ ∃ k0, k0 < k ∧ t = f (zN zs i) (zN zs j) (zN zs k0)
theorem markB_start (f : Nat → Nat → Nat → Nat) (zs : List Int) (i t : Nat) : MarkB f zs i 0 t ↔ (MarkA f zs i t ∨ t = zN zs i) := by
  unfold MarkB
  constructor
  · rintro (h | h | ⟨j0, k0, h, _⟩)
    · exact .inl h
    · exact .inr h
    · omega
  · rintro (h | h)
    · exact .inl h
    · exact .inr (.inl h)
theorem markC_start (f : Nat → Nat → Nat → Nat) (zs : List Int) (i j t : Nat) : MarkC f zs i j 0 t ↔ MarkB f zs i j t := by
  unfold MarkC
  constructor
  · rintro (h | ⟨k0, h, _⟩)
    · exact h
    · omega
  · exact .inl
theorem markC_step (f : Nat → Nat → Nat → Nat) (zs : List Int) (i j k t : Nat) : MarkC f zs i j (k + 1) t ↔ (MarkC f zs i j k t ∨ t = f (zN zs i) (zN zs j) (zN zs k)) := by
  unfold MarkC
  constructor
  · rintro (h | ⟨k0, h, e⟩)
    · exact .inl (.inl h)
    · rcases Nat.lt_or_ge k0 k with h1 | h1
      · exact .inl (.inr ⟨k0, h1, e⟩)
      · obtain rfl : k0 = k := by omega
        exact .inr e
  · rintro ((h | ⟨k0, h, e⟩) | e)
    · exact .inl h
    · exact .inr ⟨k0, by omega, e⟩
    · exact .inr ⟨k, by omega, e⟩
theorem markC_end (f : Nat → Nat → Nat → Nat) (zs : List Int) (i j t : Nat) : MarkC f zs i j j t ↔ MarkB f zs i (j + 1) t := by
  unfold MarkC MarkB
  constructor
  · rintro ((h | h | ⟨j0, k0, h1, h2, e⟩) | ⟨k0, h, e⟩)
    · exact .inl h
    · exact .inr (.inl h)
    · exact .inr (.inr ⟨j0, k0, by omega, h2, e⟩)
    · exact .inr (.inr ⟨j, k0, by omega, h, e⟩)
  · rintro (h | h | ⟨j0, k0, h1, h2, e⟩)
    · exact .inl (.inl h)
    · exact .inl (.inr (.inl h))
    · rcases Nat.lt_or_ge j0 j with h | h
      · exact .inl (.inr (.inr ⟨j0, k0, h, h2, e⟩))
      · obtain rfl : j0 = j := by omega
        exact .inr ⟨k0, h2, e⟩
theorem markB_end (f : Nat → Nat → Nat → Nat) (zs : List Int) (i t : Nat) : MarkB f zs i i t ↔ MarkA f zs (i + 1) t := by
  unfold MarkB MarkA
  constructor
  · rintro ((⟨i0, h, e⟩ | ⟨i0, j0, k0, h, h1, h2, e⟩) | h | ⟨j0, k0, h1, h2, e⟩)
    · exact .inl ⟨i0, by omega, e⟩
    · exact .inr ⟨i0, j0, k0, by omega, h1, h2, e⟩
    · exact .inl ⟨i, by omega, h⟩
    · exact .inr ⟨i, j0, k0, by omega, h1, h2, e⟩
  · rintro (⟨i0, h, e⟩ | ⟨i0, j0, k0, h, h1, h2, e⟩)
    · rcases Nat.lt_or_ge i0 i with h3 | h3
      · exact .inl (.inl ⟨i0, h3, e⟩)
      · obtain rfl : i0 = i := by omega
        exact .inr (.inl e)
    · rcases Nat.lt_or_ge i0 i with h3 | h3
      · exact .inl (.inr ⟨i0, j0, k0, h3, h1, h2, e⟩)
      · obtain rfl : i0 = i := by omega
        exact .inr (.inr ⟨j0, k0, h1, h2, e⟩)

/-- The sixteen marks: block g holds them, and they tell P. -/
def Marks (w : World) (g : Nat) (P : Nat → Prop) : Prop := ∃ hs : List Bool, hs.length = 16 ∧ w.heap[g]? = some (.cells (hs.map Value.bool).toArray 155 (0, 0)) ∧ ∀ t, t < 16 → (hs.getD t false = true ↔ P t)
theorem Marks.iff_ {w : World} {g : Nat} {P Q : Nat → Prop} (h : Marks w g P) (hpq : ∀ t, P t ↔ Q t) : Marks w g Q := by
  obtain ⟨hs, h1, h2, h3⟩ := h
  exact ⟨hs, h1, h2, fun t ht => (h3 t ht).trans (hpq t)⟩
theorem Marks.below {w w' : World} {g B : Nat} {P : Nat → Prop} (h : Marks w g P) (hb : Below B w w') (hg : g < B) : Marks w' g P := by
  obtain ⟨hs, h1, h2, h3⟩ := h
  exact ⟨hs, h1, (hb.block g hg).trans h2, h3⟩
theorem Marks.set_ {w : World} {g x : Nat} {P : Nat → Prop} (h : Marks w g P) (hx : x < 16) : Marks (w.setCell ⟨g, x, none⟩ (.bool true)) g (fun t => P t ∨ t = x) := by
  obtain ⟨hs, h1, h2, h3⟩ := h
  refine ⟨hs.set x true, by simpa using h1, ?_, fun t ht => ?_⟩
  · rw [block_setCell h2]
    simp
  · rw [List.getD_eq_getElem?_getD]
    by_cases he : x = t
    · subst he
      rw [List.getElem?_set_self (by omega)]
      simp
    · rw [List.getElem?_set_ne he, ← List.getD_eq_getElem?_getD, h3 t ht]
      constructor
      · exact .inl
      · rintro (h | h)
        · exact h
        · exact absurd h.symm he
theorem Marks.cell {w : World} {g x : Nat} {P : Nat → Prop} (h : Marks w g P) (hx : x < 16) : ∃ b, w.cell? ⟨g, x, none⟩ = some (.bool b) ∧ w.frozen? ⟨g, x, none⟩ = false := by
  obtain ⟨hs, h1, h2, h3⟩ := h
  refine ⟨hs[x]'(by omega), ?_, unfrozen_of_block h2 x⟩
  rw [cell_of_block h2 x]
  simp [h1, hx]
theorem markA_zero (f : Nat → Nat → Nat → Nat) (zs : List Int) (t : Nat) : ¬ MarkA f zs 0 t := by
  rintro (⟨i0, h, _⟩ | ⟨i0, j0, k0, h, _⟩) <;> omega
/-- what joinedOnce answers -/
def joinL (f : Nat → Nat → Nat → Nat) (zs : List Int) : List Int := (joined f (zs.map Int.toNat)).map fun (t : Nat) => (t : Int)
theorem Marks.new (w : World) (P : Nat → Prop) (h : ∀ t, ¬ P t) :
    Marks (w.alloc (.cells #[.bool false, .bool false, .bool false, .bool false, .bool false, .bool false, .bool false, .bool false, .bool false, .bool false, .bool false, .bool false, .bool false, .bool false, .bool false, .bool false] 155)) w.heap.size P :=
  ⟨List.replicate 16 false, by simp, by rw [heap_alloc_new]; rfl, fun t ht => by
    constructor
    · intro he
      rw [List.getD_eq_getElem?_getD, List.getElem?_replicate] at he
      simp [ht] at he
    · intro hp
      exact absurd hp (h t)⟩
set_option maxRecDepth 100000 in
theorem index_marks (hs : List Bool) (hl : hs.length = 16) : ∀ (k : Nat), k < 16 → ∀ w : World, (Instr.index 155 (.agg (hs.map Value.bool).toArray) (.int .i64 (k : Nat))).run Tryz.prog w = .ok (.bool (hs.getD k false)) w := by
  match hs, hl with
  | [b0, b1, b2, b3, b4, b5, b6, b7, b8, b9, b10, b11, b12, b13, b14, b15], _ =>
    intro k hk w
    rcases (show k = 0 ∨ k = 1 ∨ k = 2 ∨ k = 3 ∨ k = 4 ∨ k = 5 ∨ k = 6 ∨ k = 7 ∨ k = 8 ∨ k = 9 ∨ k = 10 ∨ k = 11 ∨ k = 12 ∨ k = 13 ∨ k = 14 ∨ k = 15 from by omega) with
      rfl | rfl | rfl | rfl | rfl | rfl | rfl | rfl | rfl | rfl | rfl | rfl | rfl | rfl | rfl | rfl
    all_goals kernel_rfl
theorem range_filter (p : Nat → Bool) (t : Nat) : (((List.range (t + 1)).filter p).map fun (u : Nat) => (u : Int)) = (((List.range t).filter p).map fun (u : Nat) => (u : Int)) ++ (if p t = true then [(t : Int)] else []) := by
  rw [List.range_succ, List.filter_append]
  by_cases h : p t = true <;> simp [h]
theorem markA_all (f : Nat → Nat → Nat → Nat) (zs : List Int) (t : Nat) : MarkA f zs zs.length t ↔ (t ∈ zs.map Int.toNat ∨ Made f (zs.map Int.toNat) t) := by
  have hz : ∀ i, i < zs.length → (zs.map Int.toNat).getD i 0 = zN zs i := fun i hi => by
    unfold zN
    simp [List.getD_eq_getElem?_getD, hi]
  unfold MarkA Made
  constructor
  · rintro (⟨i0, h, e⟩ | ⟨i0, j0, k0, h, h1, h2, e⟩)
    · left
      rw [e, ← hz i0 h]
      exact mem_getD (by simpa using h)
    · right
      exact ⟨i0, j0, k0, h2, h1, by simpa using h, by rw [hz i0 h, hz j0 (by omega), hz k0 (by omega)]; exact e⟩
  · rintro (h | ⟨i0, j0, k0, h2, h1, h, e⟩)
    · left
      obtain ⟨i, hi, e⟩ := getD_of_mem h
      have hi' : i < zs.length := by simpa using hi
      exact ⟨i, hi', by rw [← hz i hi']; exact e.symm⟩
    · right
      have h' : i0 < zs.length := by simpa using h
      exact ⟨i0, j0, k0, h', h1, h2, by rw [← hz i0 h', ← hz j0 (by omega), ← hz k0 (by omega)]; exact e⟩
end Go.Proofs.YtgebplpbnaeckaaGreatDoor

/- ListLaw: What the walks of the laws on lists share. -/
namespace Go.Proofs.YtgebplpbnaeckaaGreatDoor
open Go.RowKit Go.Joins

theorem Box.pair {w : World} {g : Nat} {n : Int} {a : Option Addr} {len cap : Nat} (h : Box w g n a len cap) : g < w.heap.size ∧ w.cell? ⟨g, 0, none⟩ = some (.int .i64 n) ∧ w.cell? ⟨g, 1, none⟩ = some (.slice a len cap) := h

end Go.Proofs.YtgebplpbnaeckaaGreatDoor
