/- Marks of types; two types without elements that are one. -/
import Derived.Test.YtfpjleabmemieaaGreatFlM
import Derived.Test.YtfpjleabmemieaaGreatFlC
import Derived.Test.YtfpjleabmemieaaGreatNodQ
import Derived.LoopTactic
import Derived.Deep.LoopGhost
set_option maxRecDepth 100000
namespace Go.Proofs.YtfpjleabmemieaaGreat
open Go.Instr Go.RowKit FlT
set_option linter.unusedVariables false
set_option linter.unusedSimpArgs false
theorem markType_any (k i : Nat) (w : World) (hk : k < 1000000000) (hi : i < 1000000000) : Calls Tryz.prog 51 #[.int .i64 k, .int .i64 i] w fun e w' => e = .returned (.agg #[.int .u8 0, .string (mkT k i), .slice none 0 0]) ∧ Below w.heap.size w w' := by
  have HM := Lib.hid (fun ww => markText_any k i ww hk hi)
  obtain ⟨q, hq⟩ : ∃ q, mkT k i = q := ⟨_, rfl⟩
  rw [hq] at HM ⊢
  clear hq
  go_enter Tryz.func51, Tryz.ntmps51
  go_wp2_with fail
  refine (HM.out _).mono ?_
  rintro e w1 ⟨rfl, hb⟩
  have hs := hb.size
  simp only [World.size_alloc] at hs
  have hc : w1.heap[w.heap.size]? = some (.cells #[.int .u8 0, .string ⟨#[]⟩, .slice none 0 0] 26) := (hb.block _ (by simp)).trans (heap_alloc_new _ _)
  have k0 : w1.cell? ⟨w.heap.size, 0, none⟩ = some (.int .u8 0) := by rw [cell_of_row w1 w.heap.size 0 _ 26 (0, 0) hc]; rfl
  have k1 : w1.cell? ⟨w.heap.size, 1, none⟩ = some (.string ⟨#[]⟩) := by rw [cell_of_row w1 w.heap.size 1 _ 26 (0, 0) hc]; rfl
  have k2 : w1.cell? ⟨w.heap.size, 2, none⟩ = some (.slice none 0 0) := by rw [cell_of_row w1 w.heap.size 2 _ 26 (0, 0) hc]; rfl
  have g0 := frozen_of_row w1 w.heap.size 0 _ _ hc
  have g1 := frozen_of_row w1 w.heap.size 1 _ _ hc
  have g2 := frozen_of_row w1 w.heap.size 2 _ _ hc
  have HB : Hid (Below w.heap.size w w1) := ((Below.refl _ _).alloc (Nat.le_refl _) _).trans (hb.mono (by simp))
  clear hb hc
  go_wp2_with fail
  refine bodyPost_ret (v := .agg #[.int .u8 0, .string q, .slice none 0 0]) (by simp [results, Tryz.results51, go_sem, k0, k1, k2, g0, g1, g2]) rfl ⟨rfl, ?_⟩
  exact ((HB.out.setCell (p := ⟨w.heap.size, 0, none⟩) (Nat.le_refl _) _).setCell (p := ⟨w.heap.size, 1, none⟩) (Nat.le_refl _) _).setCell (p := ⟨w.heap.size, 2, none⟩) (Nat.le_refl _) _
theorem sameTypes_nil (w : World) : Calls Tryz.prog 34 #[.slice none 0 0, .slice none 0 0] w fun e w' => e = .returned (.bool true) ∧ Below w.heap.size w w' := by
  go_enter Tryz.func34, Tryz.ntmps34
  go_wp2_with fail
  go_loop [5] (fun v => v = .int .i64 0) (fun v => 0)
  case atStart => rfl
  case round =>
    subst hrel
    go_wp2_with fail
    go_ret
    exact ⟨rfl, Below.refl _ _⟩
theorem sameType_leaf (q : ByteArray) (w : World) : Calls Tryz.prog 15 #[.agg #[.int .u8 0, .string q, .slice none 0 0], .agg #[.int .u8 0, .string q, .slice none 0 0]] w fun e w' => e = .returned (.bool true) ∧ Below w.heap.size w w' := by
  have HN := Lib.hid sameTypes_nil
  go_enter Tryz.func15, Tryz.ntmps15
  go_wp2_with fail
  refine (HN.out _).mono ?_
  rintro e w1 ⟨rfl, hb⟩
  have HB : Hid (Below w.heap.size w w1) := (((Below.refl _ _).alloc (Nat.le_refl _) _).alloc (by simp) _).trans (hb.mono (by simp; omega))
  clear hb
  go_wp2_with fail
  go_ret
  exact ⟨rfl, HB.out⟩
end Go.Proofs.YtfpjleabmemieaaGreat
