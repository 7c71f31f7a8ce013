/- laws.FnExactPlaces returns true at every list of functions, and changes none: impl.Places answers as spec.Places. No conditions. -/
import Derived.Test.YthnhdmanmmdoiaaLawPlaces
import Derived.Test.YthnhdmanmmdoiaaImplPlaces
namespace Go.Proofs.Ythnhdmanmmdoiaa.fnExactPlaces
open Go.ChangeShapes Go.WideShapes Go.ChangeAt Go.RowKit

/-- laws.FnExactPlaces returns true at every argument and leaves it as it was. -/
theorem proved : Rows.FnExactPlacesSaid := over impl_places
#print axioms proved
end Go.Proofs.Ythnhdmanmmdoiaa.fnExactPlaces
