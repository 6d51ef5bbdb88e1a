import Derived.Test.YtgncihoioacgjaaGreatDoorNumL
namespace Go.Proofs.YtgncihoioacgjaaGreatDoor
open Go.Instr Go.RowKit NumF
set_option linter.unusedVariables false
set_option maxHeartbeats 1000000
theorem s0_0 : (⟨#[48]⟩ : ByteArray)[0] = 48 := rfl
theorem s1_0 : (⟨#[49]⟩ : ByteArray)[0] = 49 := rfl
theorem isDigits_0 (w : World) : Calls Tryz.prog 43 #[.string ⟨#[48]⟩] w fun e w' => e = .returned (.bool true) ∧ w = w' := by
  have h0 := s0_0
  go_enter Tryz.func43, Tryz.ntmps43
  go_wp2
  refine wp_loop_rounds 2 ?_
  rw [rounds_succ]
  go_wp2
  rw [rounds_succ]
  go_wp2
  go_ret
  exact ⟨rfl, rfl⟩
theorem isDigits_1 (w : World) : Calls Tryz.prog 43 #[.string ⟨#[49]⟩] w fun e w' => e = .returned (.bool true) ∧ w = w' := by
  have h0 := s1_0
  go_enter Tryz.func43, Tryz.ntmps43
  go_wp2
  refine wp_loop_rounds 2 ?_
  rw [rounds_succ]
  go_wp2
  rw [rounds_succ]
  go_wp2
  go_ret
  exact ⟨rfl, rfl⟩
theorem isWhole_0 (w : World) : Calls Tryz.prog 39 #[.string ⟨#[48]⟩] w fun e w' => e = .returned (.bool true) ∧ w = w' := by
  have h0 := s0_0
  go_enter Tryz.func39, Tryz.ntmps39
  go_wp2_with (first | (go_at_call 43; refine (isDigits_0 _).mono ?_; rintro e w' ⟨rfl, rfl⟩))
  go_ret
  exact ⟨rfl, rfl⟩
theorem cut01 (w : World) : Calls Tryz.prog 42 #[.string ⟨#[48, 46, 49]⟩, .string ⟨#[46]⟩] w fun e w' => e = .returned (.tuple #[.string ⟨#[48]⟩, .string ⟨#[49]⟩, .bool true]) ∧ ∃ n, w' = w.drewN n :=
  sCut_yes ⟨#[48, 46, 49]⟩ 1 (by decide +kernel) (by decide) (by decide) w
theorem drewYtgncihoioacgjaaGreatDoorcell (w : World) (n : Nat) (a : Addr) : (w.drewN n).cell? a = w.cell? a := rfl
theorem Tabs.drewN {w : World} {pb po cap : Nat} (h : Tabs w pb po cap) (n : Nat) : Tabs (w.drewN n) pb po cap := ⟨h.opt, h.info, h.pows, h.ten⟩
theorem ReadFloat_01 (w : World) (pb po cap : Nat) (ht : Tabs w pb po cap) : Calls Tryz.prog 22 #[.string ⟨#[48, 46, 49]⟩] w fun e w' => e = .returned (.tuple #[.int .u64 4591870180066957722, .bool true]) ∧ ∃ n, w' = w.drewN n := by
  have hb := bits_run 4591870180066957722
  go_enter Tryz.func22, Tryz.ntmps22
  go_wp2_with (first | (go_at_call 42; refine (cut01 _).mono ?_; rintro e w' ⟨rfl, n, rfl⟩) | (go_at_call 39; refine (isWhole_0 _).mono ?_; rintro e w' ⟨rfl, rfl⟩) | (go_at_call 43; refine (isDigits_1 _).mono ?_; rintro e w' ⟨rfl, rfl⟩) | (go_at_call 44; refine (PF_01 _ _ _ _ (ht.drewN _)).mono ?_; rintro e w' ⟨rfl, rfl⟩))
  go_ret2
  exact ⟨rfl, _, rfl⟩

theorem Tabs.below {w w1 : World} {pb po cap : Nat} (h : Tabs w pb po cap) (hb : Below w.heap.size w w1) : Tabs w1 pb po cap :=
  ⟨(hb.cell (World.block_lt_of_cell? _ _ h.opt)).trans h.opt, (hb.cell (World.block_lt_of_cell? _ _ h.info)).trans h.info, (hb.cell (World.block_lt_of_cell? _ _ h.pows)).trans h.pows, (hb.cell (World.block_lt_of_cell? _ _ h.ten)).trans h.ten⟩
theorem below_step {w w1 w2 : World} (h1 : Below w.heap.size w w1) (h2 : Below w1.heap.size w1 w2) : Below w.heap.size w w2 := h1.trans (h2.mono h1.size)
theorem fr_edge : fr .quo 4607182418800017408 9223372036854775808 = 18442240474082181120 := by decide +kernel
theorem div_edge : wrap64 ((-7 : Int).tdiv 2) = -3 := by decide +kernel
theorem eq_edge : FloatKind.f64.format.order 0 9223372036854775808 = some .eq := by decide +kernel
theorem awake_any (w : World) (pb po cap : Nat) (ht : Tabs w pb po cap) : Calls Tryz.prog 9 #[] w fun e w' => e = .returned (.bool true) ∧ Below w.heap.size w w' := by
  have c1 := fun w => Int_quo (-7) 2 (by decide) (by decide) w
  have c2 := fun w => Int_rem0 1 w
  have c3 := fun w => Float_quo 4607182418800017408 9223372036854775808 w
  have c4 := fun w => FloatIs_of ⟨#[61, 61]⟩ 0 9223372036854775808 _ 0 (cmpF_eq 0 9223372036854775808 _ eq_edge) w
  rw [div_edge] at c1
  rw [fr_edge] at c3
  have c1 := Lib.hid c1
  have c2 := Lib.hid c2
  have c3 := Lib.hid c3
  have c4 := Lib.hid c4
  go_enter Tryz.func9, Tryz.ntmps9
  go_wp2_with fail
  refine (c1.out _).mono ?_
  rintro e w1 ⟨rfl, b1⟩
  go_wp2_with fail
  refine (c2.out _).mono ?_
  rintro e w2 ⟨rfl, b2⟩
  go_wp2_with fail
  refine (c3.out _).mono ?_
  rintro e w3 ⟨rfl, b3⟩
  have t3 := Lib.hid (((ht.below b1).below b2).below b3)
  go_wp2_with fail
  refine (ReadFloat_01 _ _ _ _ t3.out).mono ?_
  rintro e w4 ⟨rfl, n, rfl⟩
  go_wp2_with fail
  refine (c4.out _).mono ?_
  rintro e w5 ⟨rfl, b5⟩
  go_wp2_with fail
  go_ret
  exact ⟨rfl, below_step b1 (below_step b2 (below_step b3 (below_step (below_drewN (Below.refl _ _) n) b5)))⟩
end Go.Proofs.YtgncihoioacgjaaGreatDoor
