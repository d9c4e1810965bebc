/- Texts of this seat one behind the other: PrsR, PrsT. Conditions: none. -/
import Derived.Test.YtgebplpbnaeckaaGreatDoorMg02
import Derived.Test.YtgebplpbnaeckaaGreatDoorMg03
import Derived.Laws.ResultCell

/- PrsR: What the readers of spaces give back. -/
namespace Go.Proofs.YtgebplpbnaeckaaGreatDoor
open Go.RowKit Go.Joins

theorem block_set {w : World} {g i : Nat} {cs : Array Value} {t : TypeId} (h : w.heap[g]? = some (.cells cs t (0, 0))) (v : Value) : (w.setCell ⟨g, i, none⟩ v).heap[g]? = some (.cells (cs.setIfInBounds i v) t (0, 0)) := block_setCell h v
/-- what ParseSpace answers -/
def PsE (o : Option (Int × List Int)) (w w' : World) (e : Ending) : Prop := (∃ n zs a cap, o = some (n, zs) ∧ e = .returned (.tuple #[.agg #[.int .i64 n, .slice a zs.length cap], .bool true]) ∧ Owns w' w.heap.size (.slice a zs.length cap) zs) ∨ (o = none ∧ e = .returned (.tuple #[.agg #[.int .i64 0, .slice none 0 0], .bool false]))
/-- a space and whether there is one, given back -/
theorem ret_spb {fn : Func} {p u : Tmp} (h : fn.results = #[.cell p 37, .tmp u]) (tmps : Array Value) (w : World) (g : Nat) (x y : Value)
    (hp : tmps.getD p undef = .pointer (some ⟨g, 0, none⟩)) (hw : w.heap[g]? = some (.cells #[x, y] 37 (0, 0))) :
    (results fn tmps).run Tryz.prog w = .ok (.tuple #[.agg #[x, y], tmps.getD u undef]) w := by
  have c0 := cell_of_block hw 0
  have c1 := cell_of_block hw 1
  rw [results_cell_tmp h, hp]
  simp [go_sem] at c0 c1 ⊢
  simp [c0, c1, go_sem]
end Go.Proofs.YtgebplpbnaeckaaGreatDoor

/- PrsT: ParseSpace of the model, out of parseSpace's contract. -/
namespace Go.Proofs.YtgebplpbnaeckaaGreatDoor
open Go.RowKit Go.Joins

/-- what parseSpace gives -/
def PaE (o : Option (Int × List Int)) (w w' : World) (e : Ending) : Prop := ∃ n zs a cap b, e = .returned (.tuple #[.agg #[.int .i64 n, .slice a zs.length cap], .bool b]) ∧ Owns w' w.heap.size (.slice a zs.length cap) zs ∧ o = if b = true then some (n, zs) else none
end Go.Proofs.YtgebplpbnaeckaaGreatDoor
