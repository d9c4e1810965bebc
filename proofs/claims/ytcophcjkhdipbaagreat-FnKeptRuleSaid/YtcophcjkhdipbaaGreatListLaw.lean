/- What the walks of the laws on lists share. -/
import Derived.Test.YtcophcjkhdipbaaGreatSV
import Derived.Test.YtcophcjkhdipbaaGreatMark
namespace Go.Proofs.YtcophcjkhdipbaaGreat
open Go.RowKit Go.Joins

theorem Box.pair {w : World} {g : Nat} {n : Int} {a : Option Addr} {len cap : Nat} (h : Box w g n a len cap) : g < w.heap.size ∧ w.cell? ⟨g, 0, none⟩ = some (.int .i64 n) ∧ w.cell? ⟨g, 1, none⟩ = some (.slice a len cap) := h

end Go.Proofs.YtcophcjkhdipbaaGreat
