/- The law FnExactParseSpace: its walk, whole. -/
import Derived.Test.YtcnoipghepjodaaDoorPrsP
import Derived.Test.YtcnoipghepjodaaDoorExParseSpace
namespace Go.Proofs.YtcnoipghepjodaaDoor
open Go.RowKit Go.Joins

theorem specParse_any (s : ByteArray) (o : Option (Int × List Int)) (w : World) (hs : s.size ≤ 1048576) (ho : parS s.data.toList = o) :
    Calls Tryd.prog 13 #[.string s] w fun e w' => PsE o w w' e ∧ Below w.heap.size w w' := by
  subst ho
  exact specParse_of s _ w fun W => parseSpace_any s W hs
theorem walk_FnExactParseSpace (s : ByteArray) (w : World) (_hs : s.size ≤ maxLen) (hg : GV w) :
    Calls Tryd.prog 6 #[.string s] w fun e w' => e = .returned (.bool true) ∧ Below w.heap.size w w' :=
  walkParse_of s w hg fun W hs => specParse_any s _ W hs rfl
end Go.Proofs.YtcnoipghepjodaaDoor
