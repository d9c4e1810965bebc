/- impl.joinedOnce with sumOfThree. -/
import Derived.Test.YtklgganapphioaaJoin
import Derived.Test.YtklgganapphioaaHas
import Derived.Test.YtklgganapphioaaListLaw
namespace Go.Proofs.Ytklgganapphioaa
open Go.RowKit Go.Joins

end Go.Proofs.Ytklgganapphioaa
