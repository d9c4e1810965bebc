/- Groups that are wronged, in the model: WrongedBy and IsJust. -/
import Derived.Test.YthkikjidkehheaaWroM
namespace Go.Proofs.Ythkikjidkehheaa
open Go.RowKit Go.Joins

end Go.Proofs.Ythkikjidkehheaa
