/- The document's Within (package whensteadref1): whether a set is in another one, at whatever sets of at most sixteen things; memory is left alone. -/
import Derived.Test.YtjpikkkghpjbeaaDoorRefBit
import Derived.Test.YtjpikkkghpjbeaaDoorFst
namespace Go.Proofs.YtjpikkkghpjbeaaDoor
open Go.RowKit

end Go.Proofs.YtjpikkkghpjbeaaDoor
