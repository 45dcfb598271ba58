/- Package order's Turned, at whatever numbers: it tells what is wrong as the document has it, else a new list, of each thing all that are ahead of it; what lay in memory lies as it lay. -/
import Derived.Test.YtfjmealeglbklaaDoorFaces
namespace Go.Proofs.YtfjmealeglbklaaDoor
open Go.RowKit Go.Shelf
attribute [local go_sem] Oper.semAt_some

theorem made_arr (n : Nat) : madeCells #[.int .i64 0] n = arr (List.replicate n 0) := by
  apply Array.ext
  · simp [madeCells, arr]
  · intro i h1 h2
    simp [madeCells, arr, Nat.mod_one]

end Go.Proofs.YtfjmealeglbklaaDoor
