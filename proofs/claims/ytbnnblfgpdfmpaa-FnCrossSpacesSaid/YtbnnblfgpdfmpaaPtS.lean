/- The laws' helpers on slices of parts: equality, marks. -/
import Derived.Test.YtbnnblfgpdfmpaaOwnP
import Derived.Test.YtbnnblfgpdfmpaaListLaw
namespace Go.Proofs.Ytbnnblfgpdfmpaa
open Go.RowKit Go.Joins

theorem OwnsP.pints {w : World} {base n cap : Nat} {a : Option Addr} {ps : List (Int × Int)} (h : OwnsP w base (.slice a n cap) ps) : PInts w a ps := by
  obtain ⟨a', cap', e, hi⟩ := h.form
  simp only [Value.slice.injEq] at e
  obtain ⟨rfl, _, _⟩ := e
  exact hi
theorem pown_ge {w : World} {base : Nat} {v : Value} {ps : List (Int × Int)} (h : OwnsP w base v ps) : ∀ k, v.ownBlock = some k → base ≤ k ∧ k < w.heap.size := fun k hk => World.ownsRow.lt h k hk
theorem pown_kept {w w' : World} {base : Nat} {v : Value} {ps : List (Int × Int)} {row : Option Nat} (h : OwnsP w base v ps) (hg : w.grownBy w' row) (hne : ∀ k, row = some k → v.ownBlock ≠ some k) : OwnsP w' base v ps := by
  have h' : w.ownsRow base 60 2 v ps.length (pflat ps) := h
  refine World.ownsRow.kept h' hg ?_
  rcases hv : v.ownBlock with _ | g
  · exact .inl rfl
  · right
    intro e
    exact hne g e.symm hv
def pmarks (k : Int) (n : Nat) : List (Int × Int) := (List.range n).map fun (i : Nat) => (k + 2 * (i : Int), k + 2 * (i : Int) + 1)
theorem pmarks_length (k : Int) (n : Nat) : (pmarks k n).length = n := by simp [pmarks]
theorem pmarks_getD (k : Int) (n i : Nat) (h : i < n) : (pmarks k n).getD i (0, 0) = (k + 2 * (i : Int), k + 2 * (i : Int) + 1) := by
  simp [pmarks, List.getD_eq_getElem?_getD, h]
theorem parts_ext {xs ys : List (Int × Int)} (hl : xs.length = ys.length) (h : ∀ j, j < xs.length → xs.getD j (0, 0) = ys.getD j (0, 0)) : xs = ys := by
  refine List.ext_getElem hl fun i h1 h2 => ?_
  have := h i h1
  rwa [pgetD_lt h1, pgetD_lt h2] at this
theorem pflat_set : ∀ (ps : List (Int × Int)) (j : Nat) (c b : Int), j < ps.length → pflat (ps.set j (c, b)) = ((pflat ps).set (j * 2) (.int .i64 c)).set (j * 2 + 1) (.int .i64 b)
  | [], j, _, _, h => by simp at h
  | p :: ps, 0, c, b, _ => rfl
  | p :: ps, j + 1, c, b, h => by
    have ih := pflat_set ps j c b (by simpa using h)
    rw [List.set_cons_succ, pflat_cons, pflat_cons, ih, show (j + 1) * 2 = j * 2 + 1 + 1 from by omega]
    rfl

end Go.Proofs.Ytbnnblfgpdfmpaa
