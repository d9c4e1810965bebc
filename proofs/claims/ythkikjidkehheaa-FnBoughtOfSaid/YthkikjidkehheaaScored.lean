/- The program's scores: scored, at each of the four. -/
import Derived.Test.YthkikjidkehheaaScoF
import Derived.Deep.RegionWith
namespace Go.Proofs.Ythkikjidkehheaa
open Go.RowKit Go.Joins

def worthI (q : Nat) (z : Int) : Int := ((worth q (pc z.toNat) : Nat) : Int)
theorem pc_le5 (y : Nat) (h : y < 32) : pc y ≤ 5 := by unfold pc; omega

end Go.Proofs.Ythkikjidkehheaa
