/- The draws of a space with numbers: NearestTo, InSpace, BetweenOf. -/
import Derived.Test.YtccemllgglfgkaaDrawL
namespace Go.Proofs.Ytccemllgglfgkaa
open Go.RowKit Go.Joins

/-- three results, the first in a cell -/
theorem ret_cross3 {fn : Func} {p u u' : Tmp} (h : fn.results = #[.cell p 28, .tmp u, .tmp u']) (tmps : Array Value) (w : World) (g : Nat) (x y : Value)
    (hp : tmps.getD p undef = .pointer (some ⟨g, 0, none⟩)) (hw : w.heap[g]? = some (.cells #[x, y] 28 (0, 0))) :
    (results fn tmps).run Try.prog w = .ok (.tuple #[.agg #[x, y], tmps.getD u undef, tmps.getD u' undef]) w := by
  have c0 := cell_of_block hw 0
  have c1 := cell_of_block hw 1
  have hr : (results fn tmps).run Try.prog w = ((asAddr (tmps.getD p undef)).run Try.prog w).andThen fun a w₁ => ((loadVar 28 a).run Try.prog w₁).andThen fun v w₂ => .ok (.tuple #[v, tmps.getD u undef, tmps.getD u' undef]) w₂ := by
    simp only [results, h]
    simp [Sem.run_bind, Result.andThen]
  rw [hr, hp]
  simp [go_sem] at c0 c1 ⊢
  simp [c0, c1, go_sem]

end Go.Proofs.Ytccemllgglfgkaa
