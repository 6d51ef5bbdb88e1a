import Derived.Test.YtldedhfbpongmaaDoorNodB
set_option maxRecDepth 100000
namespace Go.Proofs.YtldedhfbpongmaaDoor
open Go.Instr Go.RowKit NodT
set_option linter.unusedVariables false

def box2W (w : World) (t u : Nd) : World := boxW (boxW w t) u
theorem box2W_below (w : World) (t u : Nd) : Below w.heap.size w (box2W w t u) := (boxW_below w t).trans ((boxW_below (boxW w t) u).mono (by rw [boxW_size]; omega))
theorem box2W_size (w : World) (t u : Nd) : (box2W w t u).heap.size = w.heap.size + 2 := by unfold box2W; rw [boxW_size, boxW_size]
theorem box2W_boxes (w : World) (t u : Nd) : Box (box2W w t u) w.heap.size t ∧ Box (box2W w t u) (w.heap.size + 1) u := by
  refine ⟨(boxW_box w t).under (boxW_below (boxW w t) u) (by rw [boxW_size]; omega), ?_⟩
  have := boxW_box (boxW w t) u
  rw [boxW_size] at this
  exact this

end Go.Proofs.YtldedhfbpongmaaDoor
