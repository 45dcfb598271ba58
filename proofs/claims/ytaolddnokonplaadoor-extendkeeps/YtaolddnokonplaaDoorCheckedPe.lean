-- MADE BY PROGRAM (checked-in-parts.mjs) out of YtaolddnokonplaaDoorChecked.lean: the equation that is no list of items.
import Derived.Test.YtaolddnokonplaaDoorProg
import Derived.KernelRfl
import Derived.Items
import Derived.PartsItems
import Derived.CheckFast
import Derived.HeadItems
import GoSem.Claims
import Derived.Test.YtaolddnokonplaaDoorCheckedPd
namespace Go.Proofs
theorem Tryd.el.bare : (Elab.partsBare Tryd.src).toList = Tryd.bare := by kernel_rfl
end Go.Proofs
