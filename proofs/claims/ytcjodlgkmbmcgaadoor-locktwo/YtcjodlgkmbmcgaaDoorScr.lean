/- Package sched: what is wrong with a row of all transactions (checkRow); memory is left alone. -/
import Derived.Test.YtcjodlgkmbmcgaaDoorSc1
import Derived.Test.YtcjodlgkmbmcgaaDoorBFt
namespace Go.Proofs.YtcjodlgkmbmcgaaDoor
open Go.RowKit

end Go.Proofs.YtcjodlgkmbmcgaaDoor
