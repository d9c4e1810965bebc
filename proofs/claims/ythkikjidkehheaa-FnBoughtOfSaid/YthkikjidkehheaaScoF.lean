/- Closed facts of the program: which method a score's value has, and what it is asserted to be. -/
import Derived.Test.YthkikjidkehheaaSco
namespace Go.Proofs.Ythkikjidkehheaa
open Go.RowKit

end Go.Proofs.Ythkikjidkehheaa
