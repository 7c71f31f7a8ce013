/- impl's sets of ints, what only reads: has, okFrom, placeFor, within, and slices.Index, slices.Contains. Condition: at most 2^22 of them. -/
import Derived.Test.YtgcegjgjegkahabInts
import Derived.Deep.QuietTactic
import Derived.BigQuiet
import Derived.WalkSpells
import Derived.WalkSmall
namespace Go.Proofs.Ytgcegjgjegkahab
open Go.ChangeShapes Go.WideShapes Go.ChangeAt Go.RowKit

end Go.Proofs.Ytgcegjgjegkahab
