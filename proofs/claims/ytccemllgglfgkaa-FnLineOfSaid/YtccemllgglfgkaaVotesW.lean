/- ValidVotes and validVotes with a free answer. -/
import Derived.Test.YtccemllgglfgkaaVotes
namespace Go.Proofs.Ytccemllgglfgkaa
open Go.RowKit Go.Joins

theorem votes_was (n : Int) (a l : Option Addr) (cap capl : Nat) (zs vs : List Int) (w : World) (r : Bool) (hi : Ints w a zs) (hj : Ints w l vs) (hn : zs.length ≤ 1048576) (hm : vs.length ≤ 1048576) (hr : vvB n zs vs = r) :
    Calls Try.prog 46 #[.agg #[.int .i64 n, .slice a zs.length cap], .slice l vs.length capl] w fun e w' => e = .returned (.bool r) ∧ Below w.heap.size w w' :=
  (implValidVotes_any n a l cap capl zs vs w hi hj hn hm).mono fun _ _ ⟨he, hb⟩ => ⟨he.trans (ret_bool hr), hb⟩
end Go.Proofs.Ytccemllgglfgkaa
