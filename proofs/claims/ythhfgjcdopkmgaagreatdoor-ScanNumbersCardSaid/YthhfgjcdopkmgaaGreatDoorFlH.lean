/- The bag's cells. -/
import Derived.Test.YthhfgjcdopkmgaaGreatDoorRows
import Derived.Test.YthhfgjcdopkmgaaGreatDoorFlA
import Derived.Lib.Hide
import Derived.Lib.SmallJoins
set_option maxRecDepth 100000
namespace Go.Proofs.YthhfgjcdopkmgaaGreatDoor
open Go.Instr Go.RowKit FlT
set_option linter.unusedVariables false
def bagCells (v : Value) : Array Value := #[.slice none 0 0, .slice none 0 0, .slice none 0 0, .slice none 0 0, .slice none 0 0, .slice none 0 0, v, .slice none 0 0, .slice none 0 0, .slice none 0 0, .slice none 0 0, .slice none 0 0, .slice none 0 0, .slice none 0 0, .slice none 0 0, .slice none 0 0, .slice none 0 0, .slice none 0 0, .slice none 0 0, .slice none 0 0, .slice none 0 0, .slice none 0 0, .slice none 0 0, .slice none 0 0, .slice none 0 0, .slice none 0 0, .slice none 0 0, .slice none 0 0, .slice none 0 0, .slice none 0 0, .slice none 0 0]
theorem bag_cell {w : World} {b : Nat} {v : Value} {T : TypeId} (h : w.heap[b]? = some (.cells (bagCells v) T)) (j : Nat) : w.cell? ⟨b, j, none⟩ = (bagCells v)[j]? := by
  rw [cell_of_row w b j _ T (0, 0) h]
end Go.Proofs.YthhfgjcdopkmgaaGreatDoor
