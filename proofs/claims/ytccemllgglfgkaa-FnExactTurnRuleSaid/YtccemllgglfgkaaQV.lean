/- A space and two lists beside it. -/
import Derived.Test.YtccemllgglfgkaaSV
import Derived.Test.YtccemllgglfgkaaLaws
namespace Go.Proofs.Ytccemllgglfgkaa
open Go.RowKit Go.Joins

/-- a space in a variable, the votes and the quotas -/
def QV (w0 : World) (n : Int) (a : Option Addr) (zs : List Int) (cap : Nat) (l : Option Addr) (vs : List Int) (q : Option Addr) (qs : List Int) (wx : World) : Prop :=
  SV w0 n a zs cap l vs wx ∧ Ints wx q qs
theorem QV.below {w0 wx wy : World} {n : Int} {a l q : Option Addr} {zs vs qs : List Int} {cap : Nat} (h : QV w0 n a zs cap l vs q qs wx) (hb : Below wx.heap.size wx wy) : QV w0 n a zs cap l vs q qs wy :=
  ⟨h.1.below hb, h.2.below hb⟩
theorem QV.new (w : World) (n : Int) (a l q : Option Addr) (zs vs qs : List Int) (cap : Nat) (t : TypeId) (hi : Ints w a zs) (hj : Ints w l vs) (hq : Ints w q qs) : QV w n a zs cap l vs q qs (w.alloc (.cells #[.int .i64 n, .slice a zs.length cap] t)) :=
  ⟨SV.new _ _ _ _ _ _ _ _ hi hj, hq.below (bel1 _ _)⟩

end Go.Proofs.Ytccemllgglfgkaa
