/- The document's Within (package whensteadref1): whether a set is in another one, at whatever sets of at most sixteen things; memory is left alone. -/
import Derived.Test.YtckejldbbkibhaaDoorRefBit
import Derived.Test.YtckejldbbkibhaaDoorFst
namespace Go.Proofs.YtckejldbbkibhaaDoor
open Go.RowKit

end Go.Proofs.YtckejldbbkibhaaDoor
