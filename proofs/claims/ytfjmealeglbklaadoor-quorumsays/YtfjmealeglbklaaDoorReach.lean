/- The closure of the rows of an order (package set, Reached): at rows that are all sets of as many things as there are rows, at most twelve, it hands back a new list, each row with all that stands behind, over others too; what lay in memory lies as it lay. The library's table lies where its variable is. -/
import Derived.Test.YtfjmealeglbklaaDoorIter
import Derived.Test.YtfjmealeglbklaaDoorKit
import Derived.Laws.CopyOwn
import Derived.Control
import Derived.BigRegion
namespace Go.Proofs.YtfjmealeglbklaaDoor
open Go.RowKit Go.Shelf
attribute [local go_sem] Oper.semAt_some
theorem Tryd.info3 : (Tryd.prog.info? 3).map (fun i => (i.zero, i.size, i.bytes)) = some (some (.int .i64 0), 1, 8) := by kernel_rfl
theorem Tryd.info3s : (Tryd.prog.info? 3).map (·.size) = some 1 := by kernel_rfl

end Go.Proofs.YtfjmealeglbklaaDoor
