import Derived.Test.YtbiohbklefjfiaaDoorNodB
import Derived.Test.YtbiohbklefjfiaaDoorNodL
set_option maxRecDepth 100000
namespace Go.Proofs.YtbiohbklefjfiaaDoor
open Go.Instr Go.RowKit NodT
set_option linter.unusedVariables false
theorem mark_any (k i : Nat) (w : World) (hk : k ≤ 1000000) (hi : i ≤ 1000000) : Calls Tryd.prog 77 #[.int .i64 k, .int .i64 i] w fun e w' => e = .returned (.int .i64 (1000003 * ((k : Int) + 7) + i)) ∧ w = w' := by
  go_enter Tryd.func77, Tryd.ntmps77
  go_wp2_with fail
  go_ret
  exact ⟨rfl, rfl⟩
theorem markNode_any (k i : Nat) (w : World) (hk : k ≤ 1000000) (hi : i ≤ 1000000) : Calls Tryd.prog 53 #[.int .i64 k, .int .i64 i] w fun e w' => e = .returned (markNd k i).val ∧ Below w.heap.size w w' := by
  have hm := mark_any k i
  have HM := Lib.hid hm
  clear hm
  go_enter Tryd.func53, Tryd.ntmps53
  go_wp2_with fail
  refine (HM.out _ hk hi).mono ?_
  rintro e w1 ⟨rfl, rfl⟩
  go_wp2_with fail
  refine bodyPost_ret (v := (markNd k i).val) (by simp [results, Tryd.results53, go_sem, markNd, Nd.val, Nd.kind, Nd.text, Nd.num, Nd.place, Nd.row, Nd.addr, Nd.cap, Nd.kids]) rfl ⟨rfl, ?_⟩
  go_grown
end Go.Proofs.YtbiohbklefjfiaaDoor
