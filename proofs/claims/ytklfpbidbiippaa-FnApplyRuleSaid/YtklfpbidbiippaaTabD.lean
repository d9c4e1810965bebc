/- Dictators, in the model. -/
import Derived.Test.YtklfpbidbiippaaTabS
namespace Go.Proofs.Ytklfpbidbiippaa
open Go.RowKit Go.Joins

end Go.Proofs.Ytklfpbidbiippaa
