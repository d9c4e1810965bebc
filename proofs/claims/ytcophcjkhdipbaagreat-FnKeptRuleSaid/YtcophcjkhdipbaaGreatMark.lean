/- Marks: writing numbers into a slice that a call has made, and looking whether they are still there. -/
import Derived.Test.YtcophcjkhdipbaaGreatLaws
namespace Go.Proofs.YtcophcjkhdipbaaGreat
open Go.RowKit Go.Joins

/-- the numbers k, k+1, .. -/
def marks (k : Int) (n : Nat) : List Int := (List.range n).map fun (i : Nat) => k + (i : Int)
theorem marks_length (k : Int) (n : Nat) : (marks k n).length = n := by simp [marks]
theorem marks_getD (k : Int) (n i : Nat) (h : i < n) : (marks k n).getD i 0 = k + (i : Int) := by
  simp [marks, List.getD_eq_getElem?_getD, h]

theorem gtrans {a b c : World} {row : Option Nat} (h : a.grownBy b row) (h' : b.grownBy c row) : a.grownBy c row :=
  ⟨h'.os.trans h.os, h'.tape.trans h.tape, h'.output.trans h.output, Nat.le_trans h.size h'.size, fun k hk hne => (h'.block k (Nat.lt_of_lt_of_le hk h.size) hne).trans (h.block k hk hne)⟩


/-- all of a list are the numbers k, k+1, .. -/
def heldV (zs : List Int) (k : Int) : Int := if zs = marks k zs.length then k + zs.length else -1



end Go.Proofs.YtcophcjkhdipbaaGreat
