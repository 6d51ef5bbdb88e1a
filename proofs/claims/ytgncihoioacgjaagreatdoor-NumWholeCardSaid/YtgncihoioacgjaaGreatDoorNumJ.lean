import Derived.Test.YtgncihoioacgjaaGreatDoorNumI
import Derived.WalkMore
import Derived.Deep.QuietTactic
import Derived.BigQuiet
namespace Go.Proofs.YtgncihoioacgjaaGreatDoor
open Go.Instr Go.RowKit NumF
set_option linter.unusedVariables false
set_option maxHeartbeats 1000000
theorem special_01 (w : World) : Calls Tryz.prog 99 #[.string ⟨#[48, 46, 49]⟩] w fun e w' => e = .returned (.tuple #[.float .f64 0, .int .i64 0, .bool false]) ∧ w = w' := by
  go_enter Tryz.func99, Tryz.ntmps99
  go_wp2
  go_ret3
  exact ⟨rfl, rfl⟩
theorem lower_46 (w : World) : Calls Tryz.prog 85 #[.int .u8 46] w fun e w' => e = .returned (.int .u8 46) ∧ w = w' := by
  have h : bits .or .u8 46 32 = 46 := by decide
  go_enter Tryz.func85, Tryz.ntmps85
  go_wp2
  go_ret
  exact ⟨rfl, rfl⟩
theorem b01_0 : (⟨#[48, 46, 49]⟩ : ByteArray)[0] = 48 := rfl
theorem b01_1 : (⟨#[48, 46, 49]⟩ : ByteArray)[1] = 46 := rfl
theorem b01_2 : (⟨#[48, 46, 49]⟩ : ByteArray)[2] = 49 := rfl
set_option maxRecDepth 100000 in
theorem readFloat_01 (w : World) : Calls Tryz.prog 100 #[.string ⟨#[48, 46, 49]⟩] w fun e w' => e = .returned (.tuple #[.int .u64 1, .int .i64 (-1), .bool false, .bool false, .bool false, .int .i64 3, .bool true]) ∧ w = w' := by
  have b0 := b01_0
  have b1 := b01_1
  have b2 := b01_2
  go_enter Tryz.func100, Tryz.ntmps100
  go_wp2_with (first | (go_at_call 85; refine (lower_46 _).mono ?_; rintro e w' ⟨rfl, rfl⟩))
  go_step3
  go_wp2_with (first | (go_at_call 85; refine (lower_46 _).mono ?_; rintro e w' ⟨rfl, rfl⟩))
  go_step3
  go_wp2_with (first | (go_at_call 85; refine (lower_46 _).mono ?_; rintro e w' ⟨rfl, rfl⟩))
  refine wp_loop_rounds 4 ?_
  rw [rounds_succ]
  go_wp2
  rw [rounds_succ]
  go_wp2
  rw [rounds_succ]
  go_wp2
  rw [rounds_succ]
  go_wp2
  rw [Exit.noGoto_ret]
  exact bodyPost_ret (v := .tuple #[.int .u64 1, .int .i64 (-1), .bool false, .bool false, .bool false, .int .i64 3, .bool true]) (by simp [results, Tryz.results100, go_sem]) rfl ⟨rfl, rfl⟩
theorem one_f : floatOfInt .f64 1 = 4607182418800017408 := by decide +kernel
theorem tenth : floatBits .quo .f64 4607182418800017408 4621819117588971520 = some 4591870180066957722 := by decide +kernel
theorem exact_01 (w : World) (pb po cap : Nat) (h6 : w.cell? ⟨6, 0, none⟩ = some (.int .u64 52)) (h9 : w.cell? ⟨9, 0, none⟩ = some (.slice (some ⟨pb, po, none⟩) 23 cap))
    (hc : w.cell? ⟨pb, po + 1, none⟩ = some (.float .f64 4621819117588971520)) :
    Calls Tryz.prog 110 #[.int .u64 1, .int .i64 (-1), .bool false] w fun e w' => e = .returned (.tuple #[.float .f64 4591870180066957722, .bool true]) ∧ w = w' := by
  have e1 := one_f
  have hq := run_float_arith (P := Tryz.prog) w .quo 56 .f64 _ _ _ tenth
  go_enter Tryz.func110, Tryz.ntmps110
  go_wp2
  go_ret2
  exact ⟨rfl, rfl⟩
end Go.Proofs.YtgncihoioacgjaaGreatDoor
