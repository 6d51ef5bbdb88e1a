import Derived.Test.YtldedhfbpongmaaDoorNodB
import Derived.Test.YtldedhfbpongmaaDoorNodL
set_option maxRecDepth 100000
namespace Go.Proofs.YtldedhfbpongmaaDoor
open Go.Instr Go.RowKit NodT
set_option linter.unusedVariables false
theorem Tryd.infoNode : (Tryd.prog.info? 25).map (fun i => (i.zero, i.size, i.bytes)) = some (some (.agg #[.int .u8 0, .string ⟨#[]⟩, .int .i64 0, .int .i64 0, .slice none 0 0]), 5, 64) := by kernel_rfl

theorem cells_new (w : World) (l : List Value) (T : TypeId) (g : Nat) (hg : g = w.heap.size) : ∀ j u, l[j]? = some u → (w.alloc (.cells l.toArray T)).cell? ((⟨g, 0, none⟩ : Addr).add j) = some u := by
  intro j u hu
  subst hg
  have hadd : (⟨w.heap.size, 0, none⟩ : Addr).add j = ⟨w.heap.size, j, none⟩ := by unfold Addr.add; split <;> simp_all
  rw [hadd, World.cell?_alloc_new]
  simpa using hu

end Go.Proofs.YtldedhfbpongmaaDoor
