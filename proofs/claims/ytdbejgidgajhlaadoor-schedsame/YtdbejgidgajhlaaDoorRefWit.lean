/- The document's Within (package whensteadref1): whether a set is in another one, at whatever sets of at most sixteen things; memory is left alone. -/
import Derived.Test.YtdbejgidgajhlaaDoorRefBit
import Derived.Test.YtdbejgidgajhlaaDoorFst
namespace Go.Proofs.YtdbejgidgajhlaaDoor
open Go.RowKit

end Go.Proofs.YtdbejgidgajhlaaDoor
