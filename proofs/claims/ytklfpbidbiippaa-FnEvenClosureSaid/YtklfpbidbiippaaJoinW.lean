/- impl.joinedOnce: its walks. -/
import Derived.Test.YtklfpbidbiippaaJoin
import Derived.Test.YtklfpbidbiippaaHas
import Derived.Test.YtklfpbidbiippaaListLaw
namespace Go.Proofs.Ytklfpbidbiippaa
open Go.RowKit Go.Joins

end Go.Proofs.Ytklfpbidbiippaa
