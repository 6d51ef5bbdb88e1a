import Derived.Test.YtgncihoioacgjaaGreatDoorNumJ
namespace Go.Proofs.YtgncihoioacgjaaGreatDoor
open Go.Instr Go.RowKit NumF
set_option linter.unusedVariables false
set_option maxHeartbeats 1000000
/-- What awake's text reads of the tables. -/
structure Tabs (w : World) (pb po cap : Nat) : Prop where
  opt : w.cell? ⟨5, 0, none⟩ = some (.bool true)
  info : w.cell? ⟨6, 0, none⟩ = some (.int .u64 52)
  pows : w.cell? ⟨9, 0, none⟩ = some (.slice (some ⟨pb, po, none⟩) 23 cap)
  ten : w.cell? ⟨pb, po + 1, none⟩ = some (.float .f64 4621819117588971520)
set_option maxRecDepth 100000 in
theorem atof_01 (w : World) (pb po cap : Nat) (ht : Tabs w pb po cap) : Calls Tryz.prog 95 #[.string ⟨#[48, 46, 49]⟩] w fun e w' => e = .returned (.tuple #[.float .f64 4591870180066957722, .int .i64 3, .nilIface]) ∧ w = w' := by
  have h5 := ht.opt
  have hx := Lib.hid (exact_01 w pb po cap ht.info ht.pows ht.ten)
  clear ht
  go_enter Tryz.func95, Tryz.ntmps95
  go_wp2_with (first | (go_at_call 99; refine (special_01 _).mono ?_; rintro e w' ⟨rfl, rfl⟩) | (go_at_call 100; refine (readFloat_01 _).mono ?_; rintro e w' ⟨rfl, rfl⟩) | (go_at_call 108; go_in) | (go_at_call 110; refine hx.out.mono ?_; rintro e w' ⟨rfl, rfl⟩))
  go_ret3
  exact ⟨rfl, rfl⟩
theorem pfp_01 (w : World) (pb po cap : Nat) (ht : Tabs w pb po cap) : Calls Tryz.prog 84 #[.string ⟨#[48, 46, 49]⟩, .int .i64 64] w fun e w' => e = .returned (.tuple #[.float .f64 4591870180066957722, .int .i64 3, .nilIface]) ∧ w = w' := by
  go_enter Tryz.func84, Tryz.ntmps84
  go_wp2_with (first | (go_at_call 95; refine (atof_01 _ _ _ _ ht).mono ?_; rintro e w' ⟨rfl, rfl⟩))
  go_ret3
  exact ⟨rfl, rfl⟩
theorem iPF_01 (w : World) (pb po cap : Nat) (ht : Tabs w pb po cap) : Calls Tryz.prog 63 #[.string ⟨#[48, 46, 49]⟩, .int .i64 64] w fun e w' => e = .returned (.tuple #[.float .f64 4591870180066957722, .nilIface]) ∧ w = w' := by
  go_enter Tryz.func63, Tryz.ntmps63
  go_wp2_with (first | (go_at_call 84; refine (pfp_01 _ _ _ _ ht).mono ?_; rintro e w' ⟨rfl, rfl⟩))
  go_ret2
  exact ⟨rfl, rfl⟩
theorem PF_01 (w : World) (pb po cap : Nat) (ht : Tabs w pb po cap) : Calls Tryz.prog 44 #[.string ⟨#[48, 46, 49]⟩, .int .i64 64] w fun e w' => e = .returned (.tuple #[.float .f64 4591870180066957722, .nilIface]) ∧ w = w' := by
  go_enter Tryz.func44, Tryz.ntmps44
  go_wp2_with (first | (go_at_call 63; refine (iPF_01 _ _ _ _ ht).mono ?_; rintro e w' ⟨rfl, rfl⟩))
  go_ret2
  exact ⟨rfl, rfl⟩
end Go.Proofs.YtgncihoioacgjaaGreatDoor
