/- IsEven: the model's loops. -/
import Derived.Test.YtklfpbidbiippaaMed
import Derived.Test.YtklfpbidbiippaaJoinP
import Derived.Deep.RegionHeld3
import Derived.Deep.RegionWith
namespace Go.Proofs.Ytklfpbidbiippaa
open Go.RowKit Go.Joins

end Go.Proofs.Ytklfpbidbiippaa
