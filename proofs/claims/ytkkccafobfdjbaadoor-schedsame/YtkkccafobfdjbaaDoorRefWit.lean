/- The document's Within (package whensteadref1): whether a set is in another one, at whatever sets of at most sixteen things; memory is left alone. -/
import Derived.Test.YtkkccafobfdjbaaDoorRefBit
import Derived.Test.YtkkccafobfdjbaaDoorFst
namespace Go.Proofs.YtkkccafobfdjbaaDoor
open Go.RowKit

end Go.Proofs.YtkkccafobfdjbaaDoor
