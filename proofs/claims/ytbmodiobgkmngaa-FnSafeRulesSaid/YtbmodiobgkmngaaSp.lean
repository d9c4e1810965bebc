/- Spaces given back: what a call leaves, how a result cell is read. Nothing of the program. -/
import Derived.Test.YtbmodiobgkmngaaSV
import Derived.OwnWalk
namespace Go.Proofs.Ytbmodiobgkmngaa
open Go.RowKit Go.Joins

theorem Owns.cap {w : World} {base n cap : Nat} {a : Option Addr} {zs : List Int} (h : Owns w base (.slice a n cap) zs) : zs.length ≤ cap := by
  obtain ⟨_, h | ⟨g, c, cur, hv, _, _, hc, _⟩⟩ := h
  · simp only [Value.slice.injEq] at h
    omega
  · simp only [Value.slice.injEq] at hv
    omega
/-- a space of its own memory -/
def GivesS (n : Int) (zs : List Int) (w : World) (e : Ending) (w' : World) : Prop := ∃ v, e = .returned (.agg #[.int .i64 n, v]) ∧ Owns w' w.heap.size v zs ∧ Below w.heap.size w w'
theorem ret_space {fn : Func} {p : Tmp} (h : fn.results = #[.cell p 25]) (tmps : Array Value) (w : World) (g : Nat) (x y : Value)
    (hp : tmps.getD p undef = .pointer (some ⟨g, 0, none⟩)) (hw : w.heap[g]? = some (.cells #[x, y] 25 (0, 0))) :
    (results fn tmps).run Try.prog w = .ok (.agg #[x, y]) w := by
  have c0 := cell_of_block hw 0
  have c1 := cell_of_block hw 1
  have hr : (results fn tmps).run Try.prog w = ((asAddr (tmps.getD p undef)).run Try.prog w).andThen fun a w₁ => (loadVar 25 a).run Try.prog w₁ := by
    simp only [results, h]
    simp [Sem.run_bind, Result.andThen]
  rw [hr, hp]
  simp [go_sem] at c0 c1 ⊢
  simp [c0, c1, go_sem]
theorem Owns.set2 {w : World} {base g : Nat} {v : Value} {zs : List Int} (h : Owns w base v zs) (hg : g < base) (x y : Value) : Owns ((w.setCell ⟨g, 0, none⟩ x).setCell ⟨g, 1, none⟩ y) base v zs :=
  (h.setBelow (p := ⟨g, 0, none⟩) hg x).setBelow (p := ⟨g, 1, none⟩) hg y
/-- what CrossSpaces gives: a space of its own memory, and whether -/
def GivesX (n : Int) (zs : List Int) (o : Bool) (w : World) (e : Ending) (w' : World) : Prop := ∃ v, e = .returned (.tuple #[.agg #[.int .i64 n, v], .bool o]) ∧ Owns w' w.heap.size v zs ∧ Below w.heap.size w w'

theorem ret_cross {fn : Func} {p u : Tmp} (h : fn.results = #[.cell p 25, .tmp u]) (tmps : Array Value) (w : World) (g : Nat) (x y : Value)
    (hp : tmps.getD p undef = .pointer (some ⟨g, 0, none⟩)) (hw : w.heap[g]? = some (.cells #[x, y] 25 (0, 0))) :
    (results fn tmps).run Try.prog w = .ok (.tuple #[.agg #[x, y], tmps.getD u undef]) w := by
  have c0 := cell_of_block hw 0
  have c1 := cell_of_block hw 1
  rw [results_cell_tmp h, hp]
  simp [go_sem] at c0 c1 ⊢
  simp [c0, c1, go_sem]

end Go.Proofs.Ytbmodiobgkmngaa
