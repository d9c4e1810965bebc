/- WantedPart in the model. -/
import Derived.Test.YtccemllgglfgkaaWant
import Derived.Deep.RegionWith
import Derived.Deep.DeepCutAuto
import Derived.Outline
namespace Go.Proofs.Ytccemllgglfgkaa
open Go.RowKit Go.Joins

theorem WV.set {w0 wx : World} {n : Int} {a l : Option Addr} {zs vs : List Int} {cap : Nat} (h : WV w0 n a zs cap l vs wx) (u v : Value) :
    Below w0.heap.size w0 ((wx.setCell ⟨w0.heap.size + 1, 0, none⟩ u).setCell ⟨w0.heap.size + 1, 1, none⟩ v) :=
  (h.2.2.2.2.setCell (p := ⟨w0.heap.size + 1, 0, none⟩) (by show w0.heap.size ≤ w0.heap.size + 1; omega) u).setCell (p := ⟨w0.heap.size + 1, 1, none⟩) (by show w0.heap.size ≤ w0.heap.size + 1; omega) v

end Go.Proofs.Ytccemllgglfgkaa
