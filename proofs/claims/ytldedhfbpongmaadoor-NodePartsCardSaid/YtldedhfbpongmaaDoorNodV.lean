import Derived.Test.YtldedhfbpongmaaDoorNodU
import Derived.Laws.Rows
set_option maxRecDepth 100000
namespace NodT
open Go
def opsL : List (List UInt8 × Nat) := [([45], 1), ([33], 1), ([124, 124], 2), ([38, 38], 2), ([61, 61], 2), ([33, 61], 2), ([60], 2), ([60, 61], 2), ([62], 2), ([62, 61], 2), ([43], 2), ([45], 2), ([42], 2), ([47], 2), ([37], 2)]
def opB (s : ByteArray) (k : Nat) : Bool := opsL.any fun p => p.1 == s.toList && p.2 == k
def opsCells : Array Value := #[.string ⟨#[45]⟩, .int .i64 1, .string ⟨#[33]⟩, .int .i64 1, .string ⟨#[124, 124]⟩, .int .i64 2, .string ⟨#[38, 38]⟩, .int .i64 2, .string ⟨#[61, 61]⟩, .int .i64 2, .string ⟨#[33, 61]⟩, .int .i64 2, .string ⟨#[60]⟩, .int .i64 2, .string ⟨#[60, 61]⟩, .int .i64 2, .string ⟨#[62]⟩, .int .i64 2, .string ⟨#[62, 61]⟩, .int .i64 2, .string ⟨#[43]⟩, .int .i64 2, .string ⟨#[45]⟩, .int .i64 2, .string ⟨#[42]⟩, .int .i64 2, .string ⟨#[47]⟩, .int .i64 2, .string ⟨#[37]⟩, .int .i64 2]
def OpsAt (g : Nat) (w : World) : Prop := ∃ t fr, w.heap[g]? = some (.cells opsCells t fr)
theorem OpsAt.under {g : Nat} {w w' : World} (h : OpsAt g w) (hb : RowKit.Below w.heap.size w w') : OpsAt g w' := by
  obtain ⟨t, fr, hg⟩ := h
  exact ⟨t, fr, (hb.block g (Array.getElem?_eq_some_iff.1 hg).1).trans hg⟩
end NodT
namespace Go.Proofs.YtldedhfbpongmaaDoor
open Go.Instr Go.RowKit NodT
set_option linter.unusedVariables false
theorem Tryd.opIx0 (w : World) : (Instr.index 63 (.agg opsCells) (.int .i64 0)).run Tryd.prog w = .ok (.agg #[.string ⟨#[45]⟩, .int .i64 1]) w := by kernel_rfl
theorem Tryd.opIx1 (w : World) : (Instr.index 63 (.agg opsCells) (.int .i64 1)).run Tryd.prog w = .ok (.agg #[.string ⟨#[33]⟩, .int .i64 1]) w := by kernel_rfl
theorem Tryd.opIx2 (w : World) : (Instr.index 63 (.agg opsCells) (.int .i64 2)).run Tryd.prog w = .ok (.agg #[.string ⟨#[124, 124]⟩, .int .i64 2]) w := by kernel_rfl
theorem Tryd.opIx3 (w : World) : (Instr.index 63 (.agg opsCells) (.int .i64 3)).run Tryd.prog w = .ok (.agg #[.string ⟨#[38, 38]⟩, .int .i64 2]) w := by kernel_rfl
theorem Tryd.opIx4 (w : World) : (Instr.index 63 (.agg opsCells) (.int .i64 4)).run Tryd.prog w = .ok (.agg #[.string ⟨#[61, 61]⟩, .int .i64 2]) w := by kernel_rfl
theorem Tryd.opIx5 (w : World) : (Instr.index 63 (.agg opsCells) (.int .i64 5)).run Tryd.prog w = .ok (.agg #[.string ⟨#[33, 61]⟩, .int .i64 2]) w := by kernel_rfl
theorem Tryd.opIx6 (w : World) : (Instr.index 63 (.agg opsCells) (.int .i64 6)).run Tryd.prog w = .ok (.agg #[.string ⟨#[60]⟩, .int .i64 2]) w := by kernel_rfl
theorem Tryd.opIx7 (w : World) : (Instr.index 63 (.agg opsCells) (.int .i64 7)).run Tryd.prog w = .ok (.agg #[.string ⟨#[60, 61]⟩, .int .i64 2]) w := by kernel_rfl
theorem Tryd.opIx8 (w : World) : (Instr.index 63 (.agg opsCells) (.int .i64 8)).run Tryd.prog w = .ok (.agg #[.string ⟨#[62]⟩, .int .i64 2]) w := by kernel_rfl
theorem Tryd.opIx9 (w : World) : (Instr.index 63 (.agg opsCells) (.int .i64 9)).run Tryd.prog w = .ok (.agg #[.string ⟨#[62, 61]⟩, .int .i64 2]) w := by kernel_rfl
theorem Tryd.opIx10 (w : World) : (Instr.index 63 (.agg opsCells) (.int .i64 10)).run Tryd.prog w = .ok (.agg #[.string ⟨#[43]⟩, .int .i64 2]) w := by kernel_rfl
theorem Tryd.opIx11 (w : World) : (Instr.index 63 (.agg opsCells) (.int .i64 11)).run Tryd.prog w = .ok (.agg #[.string ⟨#[45]⟩, .int .i64 2]) w := by kernel_rfl
theorem Tryd.opIx12 (w : World) : (Instr.index 63 (.agg opsCells) (.int .i64 12)).run Tryd.prog w = .ok (.agg #[.string ⟨#[42]⟩, .int .i64 2]) w := by kernel_rfl
theorem Tryd.opIx13 (w : World) : (Instr.index 63 (.agg opsCells) (.int .i64 13)).run Tryd.prog w = .ok (.agg #[.string ⟨#[47]⟩, .int .i64 2]) w := by kernel_rfl
theorem Tryd.opIx14 (w : World) : (Instr.index 63 (.agg opsCells) (.int .i64 14)).run Tryd.prog w = .ok (.agg #[.string ⟨#[37]⟩, .int .i64 2]) w := by kernel_rfl

theorem opsL_snoc (k : Nat) (p : List UInt8 × Nat) (h : opsL[k]? = some p) (f : List UInt8 × Nat → Bool) (h1 : (opsL.take k).any f = false) (h2 : f p = false) : (opsL.take (k + 1)).any f = false := by
  rw [List.take_add_one, h, List.any_append, h1]
  simp [h2]

set_option maxHeartbeats 4000000 in
theorem isOperator_1 (s : ByteArray) (w : World) (ho : OpsAt 0 w) : Calls Tryd.prog 35 #[.string s, .int .i64 1] w fun e w' => e = .returned (.bool (opB s 1)) ∧ Below w.heap.size w w' := by
  obtain ⟨tt, fr, hg⟩ := ho
  have HG := Lib.hid hg
  clear hg
  have HD : Hid (opB s 1 = opsL.any fun p => p.1 == s.toList && p.2 == 1) := rfl
  go_enter Tryd.func35, Tryd.ntmps35
  go_wp2_with (refine wpList_load_row rfl 63 _ rfl 0 rfl tt _ fr _ HG.out Tryd.underlying63 rfl (by kernel_rfl) ?_)
  go_loopg [8] 15 (fun g i wr => ∃ k : Nat, k ≤ 15 ∧ g = 15 - k ∧ i = .int .i64 k ∧ ((opsL.take k).any fun p => p.1 == s.toList && p.2 == 1) = false ∧ Below w.heap.size w wr)
  case atStart => exact ⟨0, by omega, rfl, rfl, rfl, Below.refl _ _⟩
  case round =>
    obtain ⟨k, hk, hgk, rfl, hX, hb⟩ := hrel
    have HGK := Lib.hid hgk
    have HX := Lib.hid hX
    clear hgk hX
    rcases (show k = 0 ∨ k = 1 ∨ k = 2 ∨ k = 3 ∨ k = 4 ∨ k = 5 ∨ k = 6 ∨ k = 7 ∨ k = 8 ∨ k = 9 ∨ k = 10 ∨ k = 11 ∨ k = 12 ∨ k = 13 ∨ k = 14 ∨ k = 15 from by omega) with rfl | rfl | rfl | rfl | rfl | rfl | rfl | rfl | rfl | rfl | rfl | rfl | rfl | rfl | rfl | rfl
    · have ix := Tryd.opIx0
      go_wp2_with fail
      all_goals first
        | (go_ret; refine ⟨ret_bool ?_, hb.trans ?_⟩; (· rw [HD.out]; refine (List.any_eq_true.2 ⟨_, List.mem_of_getElem? (show opsL[0]? = some _ from rfl), ?_⟩).symm; simp [*]); exact (((Below.refl _ _).alloc (Nat.le_refl _) _).mono hb.size))
        | (go_roundg (15 - 1)
           case rel => exact ⟨1, by omega, rfl, rfl, opsL_snoc 0 _ rfl _ HX.out (by simp [*]), hb.trans (((Below.refl _ _).alloc (Nat.le_refl _) _).mono hb.size)⟩
           case measure => rw [HGK.out]; omega)
    · have ix := Tryd.opIx1
      go_wp2_with fail
      all_goals first
        | (go_ret; refine ⟨ret_bool ?_, hb.trans ?_⟩; (· rw [HD.out]; refine (List.any_eq_true.2 ⟨_, List.mem_of_getElem? (show opsL[1]? = some _ from rfl), ?_⟩).symm; simp [*]); exact (((Below.refl _ _).alloc (Nat.le_refl _) _).mono hb.size))
        | (go_roundg (15 - 2)
           case rel => exact ⟨2, by omega, rfl, rfl, opsL_snoc 1 _ rfl _ HX.out (by simp [*]), hb.trans (((Below.refl _ _).alloc (Nat.le_refl _) _).mono hb.size)⟩
           case measure => rw [HGK.out]; omega)
    · have ix := Tryd.opIx2
      go_wp2_with fail
      all_goals first
        | (go_ret; refine ⟨ret_bool ?_, hb.trans ?_⟩; (· rw [HD.out]; refine (List.any_eq_true.2 ⟨_, List.mem_of_getElem? (show opsL[2]? = some _ from rfl), ?_⟩).symm; simp [*]); exact (((Below.refl _ _).alloc (Nat.le_refl _) _).mono hb.size))
        | (go_roundg (15 - 3)
           case rel => exact ⟨3, by omega, rfl, rfl, opsL_snoc 2 _ rfl _ HX.out (by simp [*]), hb.trans (((Below.refl _ _).alloc (Nat.le_refl _) _).mono hb.size)⟩
           case measure => rw [HGK.out]; omega)
    · have ix := Tryd.opIx3
      go_wp2_with fail
      all_goals first
        | (go_ret; refine ⟨ret_bool ?_, hb.trans ?_⟩; (· rw [HD.out]; refine (List.any_eq_true.2 ⟨_, List.mem_of_getElem? (show opsL[3]? = some _ from rfl), ?_⟩).symm; simp [*]); exact (((Below.refl _ _).alloc (Nat.le_refl _) _).mono hb.size))
        | (go_roundg (15 - 4)
           case rel => exact ⟨4, by omega, rfl, rfl, opsL_snoc 3 _ rfl _ HX.out (by simp [*]), hb.trans (((Below.refl _ _).alloc (Nat.le_refl _) _).mono hb.size)⟩
           case measure => rw [HGK.out]; omega)
    · have ix := Tryd.opIx4
      go_wp2_with fail
      all_goals first
        | (go_ret; refine ⟨ret_bool ?_, hb.trans ?_⟩; (· rw [HD.out]; refine (List.any_eq_true.2 ⟨_, List.mem_of_getElem? (show opsL[4]? = some _ from rfl), ?_⟩).symm; simp [*]); exact (((Below.refl _ _).alloc (Nat.le_refl _) _).mono hb.size))
        | (go_roundg (15 - 5)
           case rel => exact ⟨5, by omega, rfl, rfl, opsL_snoc 4 _ rfl _ HX.out (by simp [*]), hb.trans (((Below.refl _ _).alloc (Nat.le_refl _) _).mono hb.size)⟩
           case measure => rw [HGK.out]; omega)
    · have ix := Tryd.opIx5
      go_wp2_with fail
      all_goals first
        | (go_ret; refine ⟨ret_bool ?_, hb.trans ?_⟩; (· rw [HD.out]; refine (List.any_eq_true.2 ⟨_, List.mem_of_getElem? (show opsL[5]? = some _ from rfl), ?_⟩).symm; simp [*]); exact (((Below.refl _ _).alloc (Nat.le_refl _) _).mono hb.size))
        | (go_roundg (15 - 6)
           case rel => exact ⟨6, by omega, rfl, rfl, opsL_snoc 5 _ rfl _ HX.out (by simp [*]), hb.trans (((Below.refl _ _).alloc (Nat.le_refl _) _).mono hb.size)⟩
           case measure => rw [HGK.out]; omega)
    · have ix := Tryd.opIx6
      go_wp2_with fail
      all_goals first
        | (go_ret; refine ⟨ret_bool ?_, hb.trans ?_⟩; (· rw [HD.out]; refine (List.any_eq_true.2 ⟨_, List.mem_of_getElem? (show opsL[6]? = some _ from rfl), ?_⟩).symm; simp [*]); exact (((Below.refl _ _).alloc (Nat.le_refl _) _).mono hb.size))
        | (go_roundg (15 - 7)
           case rel => exact ⟨7, by omega, rfl, rfl, opsL_snoc 6 _ rfl _ HX.out (by simp [*]), hb.trans (((Below.refl _ _).alloc (Nat.le_refl _) _).mono hb.size)⟩
           case measure => rw [HGK.out]; omega)
    · have ix := Tryd.opIx7
      go_wp2_with fail
      all_goals first
        | (go_ret; refine ⟨ret_bool ?_, hb.trans ?_⟩; (· rw [HD.out]; refine (List.any_eq_true.2 ⟨_, List.mem_of_getElem? (show opsL[7]? = some _ from rfl), ?_⟩).symm; simp [*]); exact (((Below.refl _ _).alloc (Nat.le_refl _) _).mono hb.size))
        | (go_roundg (15 - 8)
           case rel => exact ⟨8, by omega, rfl, rfl, opsL_snoc 7 _ rfl _ HX.out (by simp [*]), hb.trans (((Below.refl _ _).alloc (Nat.le_refl _) _).mono hb.size)⟩
           case measure => rw [HGK.out]; omega)
    · have ix := Tryd.opIx8
      go_wp2_with fail
      all_goals first
        | (go_ret; refine ⟨ret_bool ?_, hb.trans ?_⟩; (· rw [HD.out]; refine (List.any_eq_true.2 ⟨_, List.mem_of_getElem? (show opsL[8]? = some _ from rfl), ?_⟩).symm; simp [*]); exact (((Below.refl _ _).alloc (Nat.le_refl _) _).mono hb.size))
        | (go_roundg (15 - 9)
           case rel => exact ⟨9, by omega, rfl, rfl, opsL_snoc 8 _ rfl _ HX.out (by simp [*]), hb.trans (((Below.refl _ _).alloc (Nat.le_refl _) _).mono hb.size)⟩
           case measure => rw [HGK.out]; omega)
    · have ix := Tryd.opIx9
      go_wp2_with fail
      all_goals first
        | (go_ret; refine ⟨ret_bool ?_, hb.trans ?_⟩; (· rw [HD.out]; refine (List.any_eq_true.2 ⟨_, List.mem_of_getElem? (show opsL[9]? = some _ from rfl), ?_⟩).symm; simp [*]); exact (((Below.refl _ _).alloc (Nat.le_refl _) _).mono hb.size))
        | (go_roundg (15 - 10)
           case rel => exact ⟨10, by omega, rfl, rfl, opsL_snoc 9 _ rfl _ HX.out (by simp [*]), hb.trans (((Below.refl _ _).alloc (Nat.le_refl _) _).mono hb.size)⟩
           case measure => rw [HGK.out]; omega)
    · have ix := Tryd.opIx10
      go_wp2_with fail
      all_goals first
        | (go_ret; refine ⟨ret_bool ?_, hb.trans ?_⟩; (· rw [HD.out]; refine (List.any_eq_true.2 ⟨_, List.mem_of_getElem? (show opsL[10]? = some _ from rfl), ?_⟩).symm; simp [*]); exact (((Below.refl _ _).alloc (Nat.le_refl _) _).mono hb.size))
        | (go_roundg (15 - 11)
           case rel => exact ⟨11, by omega, rfl, rfl, opsL_snoc 10 _ rfl _ HX.out (by simp [*]), hb.trans (((Below.refl _ _).alloc (Nat.le_refl _) _).mono hb.size)⟩
           case measure => rw [HGK.out]; omega)
    · have ix := Tryd.opIx11
      go_wp2_with fail
      all_goals first
        | (go_ret; refine ⟨ret_bool ?_, hb.trans ?_⟩; (· rw [HD.out]; refine (List.any_eq_true.2 ⟨_, List.mem_of_getElem? (show opsL[11]? = some _ from rfl), ?_⟩).symm; simp [*]); exact (((Below.refl _ _).alloc (Nat.le_refl _) _).mono hb.size))
        | (go_roundg (15 - 12)
           case rel => exact ⟨12, by omega, rfl, rfl, opsL_snoc 11 _ rfl _ HX.out (by simp [*]), hb.trans (((Below.refl _ _).alloc (Nat.le_refl _) _).mono hb.size)⟩
           case measure => rw [HGK.out]; omega)
    · have ix := Tryd.opIx12
      go_wp2_with fail
      all_goals first
        | (go_ret; refine ⟨ret_bool ?_, hb.trans ?_⟩; (· rw [HD.out]; refine (List.any_eq_true.2 ⟨_, List.mem_of_getElem? (show opsL[12]? = some _ from rfl), ?_⟩).symm; simp [*]); exact (((Below.refl _ _).alloc (Nat.le_refl _) _).mono hb.size))
        | (go_roundg (15 - 13)
           case rel => exact ⟨13, by omega, rfl, rfl, opsL_snoc 12 _ rfl _ HX.out (by simp [*]), hb.trans (((Below.refl _ _).alloc (Nat.le_refl _) _).mono hb.size)⟩
           case measure => rw [HGK.out]; omega)
    · have ix := Tryd.opIx13
      go_wp2_with fail
      all_goals first
        | (go_ret; refine ⟨ret_bool ?_, hb.trans ?_⟩; (· rw [HD.out]; refine (List.any_eq_true.2 ⟨_, List.mem_of_getElem? (show opsL[13]? = some _ from rfl), ?_⟩).symm; simp [*]); exact (((Below.refl _ _).alloc (Nat.le_refl _) _).mono hb.size))
        | (go_roundg (15 - 14)
           case rel => exact ⟨14, by omega, rfl, rfl, opsL_snoc 13 _ rfl _ HX.out (by simp [*]), hb.trans (((Below.refl _ _).alloc (Nat.le_refl _) _).mono hb.size)⟩
           case measure => rw [HGK.out]; omega)
    · have ix := Tryd.opIx14
      go_wp2_with fail
      all_goals first
        | (go_ret; refine ⟨ret_bool ?_, hb.trans ?_⟩; (· rw [HD.out]; refine (List.any_eq_true.2 ⟨_, List.mem_of_getElem? (show opsL[14]? = some _ from rfl), ?_⟩).symm; simp [*]); exact (((Below.refl _ _).alloc (Nat.le_refl _) _).mono hb.size))
        | (go_roundg (15 - 15)
           case rel => exact ⟨15, by omega, rfl, rfl, opsL_snoc 14 _ rfl _ HX.out (by simp [*]), hb.trans (((Below.refl _ _).alloc (Nat.le_refl _) _).mono hb.size)⟩
           case measure => rw [HGK.out]; omega)
    · go_wp2_with fail
      go_ret
      exact ⟨ret_bool (by rw [HD.out]; exact HX.out.symm), hb⟩

set_option maxHeartbeats 4000000 in
theorem isOperator_2 (s : ByteArray) (w : World) (ho : OpsAt 0 w) : Calls Tryd.prog 35 #[.string s, .int .i64 2] w fun e w' => e = .returned (.bool (opB s 2)) ∧ Below w.heap.size w w' := by
  obtain ⟨tt, fr, hg⟩ := ho
  have HG := Lib.hid hg
  clear hg
  have HD : Hid (opB s 2 = opsL.any fun p => p.1 == s.toList && p.2 == 2) := rfl
  go_enter Tryd.func35, Tryd.ntmps35
  go_wp2_with (refine wpList_load_row rfl 63 _ rfl 0 rfl tt _ fr _ HG.out Tryd.underlying63 rfl (by kernel_rfl) ?_)
  go_loopg [8] 15 (fun g i wr => ∃ k : Nat, k ≤ 15 ∧ g = 15 - k ∧ i = .int .i64 k ∧ ((opsL.take k).any fun p => p.1 == s.toList && p.2 == 2) = false ∧ Below w.heap.size w wr)
  case atStart => exact ⟨0, by omega, rfl, rfl, rfl, Below.refl _ _⟩
  case round =>
    obtain ⟨k, hk, hgk, rfl, hX, hb⟩ := hrel
    have HGK := Lib.hid hgk
    have HX := Lib.hid hX
    clear hgk hX
    rcases (show k = 0 ∨ k = 1 ∨ k = 2 ∨ k = 3 ∨ k = 4 ∨ k = 5 ∨ k = 6 ∨ k = 7 ∨ k = 8 ∨ k = 9 ∨ k = 10 ∨ k = 11 ∨ k = 12 ∨ k = 13 ∨ k = 14 ∨ k = 15 from by omega) with rfl | rfl | rfl | rfl | rfl | rfl | rfl | rfl | rfl | rfl | rfl | rfl | rfl | rfl | rfl | rfl
    · have ix := Tryd.opIx0
      go_wp2_with fail
      all_goals first
        | (go_ret; refine ⟨ret_bool ?_, hb.trans ?_⟩; (· rw [HD.out]; refine (List.any_eq_true.2 ⟨_, List.mem_of_getElem? (show opsL[0]? = some _ from rfl), ?_⟩).symm; simp [*]); exact (((Below.refl _ _).alloc (Nat.le_refl _) _).mono hb.size))
        | (go_roundg (15 - 1)
           case rel => exact ⟨1, by omega, rfl, rfl, opsL_snoc 0 _ rfl _ HX.out (by simp [*]), hb.trans (((Below.refl _ _).alloc (Nat.le_refl _) _).mono hb.size)⟩
           case measure => rw [HGK.out]; omega)
    · have ix := Tryd.opIx1
      go_wp2_with fail
      all_goals first
        | (go_ret; refine ⟨ret_bool ?_, hb.trans ?_⟩; (· rw [HD.out]; refine (List.any_eq_true.2 ⟨_, List.mem_of_getElem? (show opsL[1]? = some _ from rfl), ?_⟩).symm; simp [*]); exact (((Below.refl _ _).alloc (Nat.le_refl _) _).mono hb.size))
        | (go_roundg (15 - 2)
           case rel => exact ⟨2, by omega, rfl, rfl, opsL_snoc 1 _ rfl _ HX.out (by simp [*]), hb.trans (((Below.refl _ _).alloc (Nat.le_refl _) _).mono hb.size)⟩
           case measure => rw [HGK.out]; omega)
    · have ix := Tryd.opIx2
      go_wp2_with fail
      all_goals first
        | (go_ret; refine ⟨ret_bool ?_, hb.trans ?_⟩; (· rw [HD.out]; refine (List.any_eq_true.2 ⟨_, List.mem_of_getElem? (show opsL[2]? = some _ from rfl), ?_⟩).symm; simp [*]); exact (((Below.refl _ _).alloc (Nat.le_refl _) _).mono hb.size))
        | (go_roundg (15 - 3)
           case rel => exact ⟨3, by omega, rfl, rfl, opsL_snoc 2 _ rfl _ HX.out (by simp [*]), hb.trans (((Below.refl _ _).alloc (Nat.le_refl _) _).mono hb.size)⟩
           case measure => rw [HGK.out]; omega)
    · have ix := Tryd.opIx3
      go_wp2_with fail
      all_goals first
        | (go_ret; refine ⟨ret_bool ?_, hb.trans ?_⟩; (· rw [HD.out]; refine (List.any_eq_true.2 ⟨_, List.mem_of_getElem? (show opsL[3]? = some _ from rfl), ?_⟩).symm; simp [*]); exact (((Below.refl _ _).alloc (Nat.le_refl _) _).mono hb.size))
        | (go_roundg (15 - 4)
           case rel => exact ⟨4, by omega, rfl, rfl, opsL_snoc 3 _ rfl _ HX.out (by simp [*]), hb.trans (((Below.refl _ _).alloc (Nat.le_refl _) _).mono hb.size)⟩
           case measure => rw [HGK.out]; omega)
    · have ix := Tryd.opIx4
      go_wp2_with fail
      all_goals first
        | (go_ret; refine ⟨ret_bool ?_, hb.trans ?_⟩; (· rw [HD.out]; refine (List.any_eq_true.2 ⟨_, List.mem_of_getElem? (show opsL[4]? = some _ from rfl), ?_⟩).symm; simp [*]); exact (((Below.refl _ _).alloc (Nat.le_refl _) _).mono hb.size))
        | (go_roundg (15 - 5)
           case rel => exact ⟨5, by omega, rfl, rfl, opsL_snoc 4 _ rfl _ HX.out (by simp [*]), hb.trans (((Below.refl _ _).alloc (Nat.le_refl _) _).mono hb.size)⟩
           case measure => rw [HGK.out]; omega)
    · have ix := Tryd.opIx5
      go_wp2_with fail
      all_goals first
        | (go_ret; refine ⟨ret_bool ?_, hb.trans ?_⟩; (· rw [HD.out]; refine (List.any_eq_true.2 ⟨_, List.mem_of_getElem? (show opsL[5]? = some _ from rfl), ?_⟩).symm; simp [*]); exact (((Below.refl _ _).alloc (Nat.le_refl _) _).mono hb.size))
        | (go_roundg (15 - 6)
           case rel => exact ⟨6, by omega, rfl, rfl, opsL_snoc 5 _ rfl _ HX.out (by simp [*]), hb.trans (((Below.refl _ _).alloc (Nat.le_refl _) _).mono hb.size)⟩
           case measure => rw [HGK.out]; omega)
    · have ix := Tryd.opIx6
      go_wp2_with fail
      all_goals first
        | (go_ret; refine ⟨ret_bool ?_, hb.trans ?_⟩; (· rw [HD.out]; refine (List.any_eq_true.2 ⟨_, List.mem_of_getElem? (show opsL[6]? = some _ from rfl), ?_⟩).symm; simp [*]); exact (((Below.refl _ _).alloc (Nat.le_refl _) _).mono hb.size))
        | (go_roundg (15 - 7)
           case rel => exact ⟨7, by omega, rfl, rfl, opsL_snoc 6 _ rfl _ HX.out (by simp [*]), hb.trans (((Below.refl _ _).alloc (Nat.le_refl _) _).mono hb.size)⟩
           case measure => rw [HGK.out]; omega)
    · have ix := Tryd.opIx7
      go_wp2_with fail
      all_goals first
        | (go_ret; refine ⟨ret_bool ?_, hb.trans ?_⟩; (· rw [HD.out]; refine (List.any_eq_true.2 ⟨_, List.mem_of_getElem? (show opsL[7]? = some _ from rfl), ?_⟩).symm; simp [*]); exact (((Below.refl _ _).alloc (Nat.le_refl _) _).mono hb.size))
        | (go_roundg (15 - 8)
           case rel => exact ⟨8, by omega, rfl, rfl, opsL_snoc 7 _ rfl _ HX.out (by simp [*]), hb.trans (((Below.refl _ _).alloc (Nat.le_refl _) _).mono hb.size)⟩
           case measure => rw [HGK.out]; omega)
    · have ix := Tryd.opIx8
      go_wp2_with fail
      all_goals first
        | (go_ret; refine ⟨ret_bool ?_, hb.trans ?_⟩; (· rw [HD.out]; refine (List.any_eq_true.2 ⟨_, List.mem_of_getElem? (show opsL[8]? = some _ from rfl), ?_⟩).symm; simp [*]); exact (((Below.refl _ _).alloc (Nat.le_refl _) _).mono hb.size))
        | (go_roundg (15 - 9)
           case rel => exact ⟨9, by omega, rfl, rfl, opsL_snoc 8 _ rfl _ HX.out (by simp [*]), hb.trans (((Below.refl _ _).alloc (Nat.le_refl _) _).mono hb.size)⟩
           case measure => rw [HGK.out]; omega)
    · have ix := Tryd.opIx9
      go_wp2_with fail
      all_goals first
        | (go_ret; refine ⟨ret_bool ?_, hb.trans ?_⟩; (· rw [HD.out]; refine (List.any_eq_true.2 ⟨_, List.mem_of_getElem? (show opsL[9]? = some _ from rfl), ?_⟩).symm; simp [*]); exact (((Below.refl _ _).alloc (Nat.le_refl _) _).mono hb.size))
        | (go_roundg (15 - 10)
           case rel => exact ⟨10, by omega, rfl, rfl, opsL_snoc 9 _ rfl _ HX.out (by simp [*]), hb.trans (((Below.refl _ _).alloc (Nat.le_refl _) _).mono hb.size)⟩
           case measure => rw [HGK.out]; omega)
    · have ix := Tryd.opIx10
      go_wp2_with fail
      all_goals first
        | (go_ret; refine ⟨ret_bool ?_, hb.trans ?_⟩; (· rw [HD.out]; refine (List.any_eq_true.2 ⟨_, List.mem_of_getElem? (show opsL[10]? = some _ from rfl), ?_⟩).symm; simp [*]); exact (((Below.refl _ _).alloc (Nat.le_refl _) _).mono hb.size))
        | (go_roundg (15 - 11)
           case rel => exact ⟨11, by omega, rfl, rfl, opsL_snoc 10 _ rfl _ HX.out (by simp [*]), hb.trans (((Below.refl _ _).alloc (Nat.le_refl _) _).mono hb.size)⟩
           case measure => rw [HGK.out]; omega)
    · have ix := Tryd.opIx11
      go_wp2_with fail
      all_goals first
        | (go_ret; refine ⟨ret_bool ?_, hb.trans ?_⟩; (· rw [HD.out]; refine (List.any_eq_true.2 ⟨_, List.mem_of_getElem? (show opsL[11]? = some _ from rfl), ?_⟩).symm; simp [*]); exact (((Below.refl _ _).alloc (Nat.le_refl _) _).mono hb.size))
        | (go_roundg (15 - 12)
           case rel => exact ⟨12, by omega, rfl, rfl, opsL_snoc 11 _ rfl _ HX.out (by simp [*]), hb.trans (((Below.refl _ _).alloc (Nat.le_refl _) _).mono hb.size)⟩
           case measure => rw [HGK.out]; omega)
    · have ix := Tryd.opIx12
      go_wp2_with fail
      all_goals first
        | (go_ret; refine ⟨ret_bool ?_, hb.trans ?_⟩; (· rw [HD.out]; refine (List.any_eq_true.2 ⟨_, List.mem_of_getElem? (show opsL[12]? = some _ from rfl), ?_⟩).symm; simp [*]); exact (((Below.refl _ _).alloc (Nat.le_refl _) _).mono hb.size))
        | (go_roundg (15 - 13)
           case rel => exact ⟨13, by omega, rfl, rfl, opsL_snoc 12 _ rfl _ HX.out (by simp [*]), hb.trans (((Below.refl _ _).alloc (Nat.le_refl _) _).mono hb.size)⟩
           case measure => rw [HGK.out]; omega)
    · have ix := Tryd.opIx13
      go_wp2_with fail
      all_goals first
        | (go_ret; refine ⟨ret_bool ?_, hb.trans ?_⟩; (· rw [HD.out]; refine (List.any_eq_true.2 ⟨_, List.mem_of_getElem? (show opsL[13]? = some _ from rfl), ?_⟩).symm; simp [*]); exact (((Below.refl _ _).alloc (Nat.le_refl _) _).mono hb.size))
        | (go_roundg (15 - 14)
           case rel => exact ⟨14, by omega, rfl, rfl, opsL_snoc 13 _ rfl _ HX.out (by simp [*]), hb.trans (((Below.refl _ _).alloc (Nat.le_refl _) _).mono hb.size)⟩
           case measure => rw [HGK.out]; omega)
    · have ix := Tryd.opIx14
      go_wp2_with fail
      all_goals first
        | (go_ret; refine ⟨ret_bool ?_, hb.trans ?_⟩; (· rw [HD.out]; refine (List.any_eq_true.2 ⟨_, List.mem_of_getElem? (show opsL[14]? = some _ from rfl), ?_⟩).symm; simp [*]); exact (((Below.refl _ _).alloc (Nat.le_refl _) _).mono hb.size))
        | (go_roundg (15 - 15)
           case rel => exact ⟨15, by omega, rfl, rfl, opsL_snoc 14 _ rfl _ HX.out (by simp [*]), hb.trans (((Below.refl _ _).alloc (Nat.le_refl _) _).mono hb.size)⟩
           case measure => rw [HGK.out]; omega)
    · go_wp2_with fail
      go_ret
      exact ⟨ret_bool (by rw [HD.out]; exact HX.out.symm), hb⟩
end Go.Proofs.YtldedhfbpongmaaDoor
