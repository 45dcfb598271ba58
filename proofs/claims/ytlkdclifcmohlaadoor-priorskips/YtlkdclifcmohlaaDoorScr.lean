/- Package sched: what is wrong with a row of all transactions (checkRow); memory is left alone. -/
import Derived.Test.YtlkdclifcmohlaaDoorSc1
import Derived.Test.YtlkdclifcmohlaaDoorBFt
namespace Go.Proofs.YtlkdclifcmohlaaDoor
open Go.RowKit

end Go.Proofs.YtlkdclifcmohlaaDoor
