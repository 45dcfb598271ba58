/- The document's Within (package whensteadref1): whether a set is in another one, at whatever sets of at most sixteen things; memory is left alone. -/
import Derived.Test.YtbacngbcnkikiaaDoorRefBit
import Derived.Test.YtbacngbcnkikiaaDoorFst
namespace Go.Proofs.YtbacngbcnkikiaaDoor
open Go.RowKit

end Go.Proofs.YtbacngbcnkikiaaDoor
