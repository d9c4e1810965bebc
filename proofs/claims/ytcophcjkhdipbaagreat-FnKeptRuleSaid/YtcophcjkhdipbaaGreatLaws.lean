/- Contracts of the laws' own helpers: sizes, copies, equality, marks. -/
import Derived.Test.YtcophcjkhdipbaaGreatBase
import Derived.OwnWalk
import Derived.Outline
import Derived.Deep.AppendLies
import Derived.Laws.OwnMore
namespace Go.Proofs.YtcophcjkhdipbaaGreat
open Go.RowKit Go.Joins

theorem info_int : (Tryz.prog.info? 3).map (fun i => (i.zero, i.size, i.bytes)) = some (some (.int .i64 0), 1, 8) := by kernel_rfl

/-- What is left of a purse behind so many values; -1 if they do not fit. -/
def left (l : Int) (n : Nat) : Int := if l < n then -1 else l - n


theorem getD_lt {zs : List Int} {k : Nat} (h : k < zs.length) : zs.getD k 0 = zs[k] := by simp [List.getD_eq_getElem?_getD, h]

theorem ints_ext {xs ys : List Int} (hl : xs.length = ys.length) (h : ∀ j, j < xs.length → xs.getD j 0 = ys.getD j 0) : xs = ys := by
  refine List.ext_getElem hl fun i h1 h2 => ?_
  have := h i h1
  rwa [getD_lt h1, getD_lt h2] at this

theorem set_take {ys zs : List Int} {k : Nat} (hk : k < zs.length) (hl : ys.length = zs.length) (h : ys.take k = zs.take k) : (ys.set k (zs.getD k 0)).take (k + 1) = zs.take (k + 1) := by
  rw [List.take_add_one, List.take_add_one, List.take_set_of_le (Nat.le_refl _), h, List.getElem?_set_self (by omega), List.getElem?_eq_getElem hk]
  simp [List.getD_eq_getElem?_getD, hk]

theorem madeInts (n : Nat) : (madeCells #[Value.int .i64 0] n).toList = (List.replicate n (0 : Int)).map (Value.int .i64) := by
  rw [toList_madeCells_one, List.map_replicate]






end Go.Proofs.YtcophcjkhdipbaaGreat
