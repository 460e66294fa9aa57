/- slices.ContainsFunc of ints, with the closures that only look. -/
import Derived.Test.YtmbcinbkijnblaaRows
import Derived.Test.YtmbcinbkijnblaaRd
import Derived.WalkSpells
namespace Go.Proofs.Ytmbcinbkijnblaa
open Go.RowKit

end Go.Proofs.Ytmbcinbkijnblaa
