import Derived.Test.YtgncihoioacgjaaGreatDoorNumY
import Derived.Deep.QuietTactic
import Derived.BigQuiet
import Derived.LoopTactic
import Derived.Laws.BitsAllLaws
namespace Go.Proofs.YtgncihoioacgjaaGreatDoor
open Go.Instr Go.RowKit NumF
set_option linter.unusedVariables false
set_option maxHeartbeats 1000000
theorem b2u_no (w : World) : Calls Tryz.prog 108 #[.bool false] w fun e w' => e = .returned (.int .u64 0) ∧ w' = w := by
  go_enter Tryz.func108, Tryz.ntmps108
  go_wp2
  go_ret
  exact ⟨rfl, rfl⟩
theorem b2i_any (b : Bool) (w : World) : Calls Tryz.prog 120 #[.bool b] w fun e w' => e = .returned (.int .i64 (if b then 1 else 0)) ∧ w = w' := by
  cases b
  all_goals
    go_enter Tryz.func120, Tryz.ntmps120
    go_wp2
    go_ret
    exact ⟨rfl, rfl⟩
theorem and863 : bits .and .i64 8 63 = 8 := by decide
set_option maxRecDepth 100000 in
/-- uscale where the product is whole: no bit is lost. -/
theorem uscale_whole (B : Nat) (X P Q H M M2 R U : Int) (w : World) (h1 : w.cell? ⟨B, 0, none⟩ = some (.int .u64 P)) (h2 : w.cell? ⟨B, 1, none⟩ = some (.int .u64 Q)) (h3 : w.cell? ⟨B, 2, none⟩ = some (.int .i64 8))
    (m1 : ∀ w, Calls Tryz.prog 131 #[.int .u64 X, .int .u64 P] w fun e w' => e = .returned (.tuple #[.int .u64 H, .int .u64 M]) ∧ w = w')
    (m2 : ∀ w, Calls Tryz.prog 131 #[.int .u64 X, .int .u64 Q] w fun e w' => e = .returned (.tuple #[.int .u64 M2, .int .u64 R]) ∧ w = w')
    (hH : H = U * 256) (hU : 0 ≤ U) (hU2 : U < 72057594037927936) (hM2 : 0 ≤ M2) (hM : M2 ≤ M) (hM3 : M ≤ M2 + 1) (hM4 : M < 18446744073709551616) :
    Calls Tryz.prog 119 #[.int .u64 X, .pointer (some ⟨B, 0, none⟩)] w fun e w' => e = .returned (.int .u64 U) ∧ ∃ n, w' = w.drewN n := by
  have e1 := and863
  have M1 := Lib.hid m1
  have M2' := Lib.hid m2
  clear m1 m2
  have q1 : decide (M < M2) = false := by simp; omega
  have q2 : decide (IntKind.u64.wrap (M - M2) > 1) = false := by rw [IntWalk.u64_in _ ⟨by omega, by omega⟩]; simp; omega
  have q3 : H / 256 = U := by omega
  have q4 : IntKind.u64.wrap (U * 256) = H := by rw [IntWalk.u64_in _ ⟨by omega, by omega⟩]; omega
  go_enter Tryz.func119, Tryz.ntmps119
  go_wp2_with fail
  refine (M1.out _).mono ?_
  rintro e w' ⟨rfl, rfl⟩
  go_wp2_with fail
  refine (M2'.out _).mono ?_
  rintro e w' ⟨rfl, rfl⟩
  go_wp2_with (go_at_call 108; refine (b2u_no _).mono ?_; rintro e w' ⟨rfl, rfl⟩)
  go_quiet ((go_at_call 108; refine Calls.quiet_of_same (b2u_no _)))
  go_wp2
  go_ret
  exact ⟨by rw [u64_or U 0 (by omega) (by omega) (by omega) (by omega)]; simp; omega, _, rfl⟩
theorem l2_1 (w : World) : Calls Tryz.prog 117 #[.int .i64 (-1)] w fun e w' => e = .returned (.int .i64 (-4)) ∧ w = w' := by
  go_enter Tryz.func117, Tryz.ntmps117
  go_wp2
  go_ret
  exact ⟨rfl, rfl⟩
theorem l2_2 (w : World) : Calls Tryz.prog 117 #[.int .i64 (-2)] w fun e w' => e = .returned (.int .i64 (-7)) ∧ w = w' := by
  go_enter Tryz.func117, Tryz.ntmps117
  go_wp2
  go_ret
  exact ⟨rfl, rfl⟩
theorem unmin_53 (w : World) : Calls Tryz.prog 121 #[.int .u64 9007199254740992] w fun e w' => e = .returned (.int .u64 36028797018963966) ∧ w = w' := by
  go_enter Tryz.func121, Tryz.ntmps121
  go_wp2
  go_ret
  exact ⟨rfl, rfl⟩
theorem round_any (W : Nat) (h : W < 72057594037927936) (w : World) : Calls Tryz.prog 123 #[.int .u64 ((W : Int) * 4)] w fun e w' => e = .returned (.int .u64 (W : Int)) ∧ w = w' := by
  have q : bits .and .u64 (W : Int) 1 = ((W &&& 1 : Nat) : Int) := u64_and_nat W 1 (by omega) (by omega)
  have e3 : W &&& 1 = W % 2 := Nat.and_one_is_mod W
  have q2 : (W : Int) * 4 / 4 = W := by omega
  go_enter Tryz.func123, Tryz.ntmps123
  go_wp2
  go_ret
  refine ⟨?_, rfl⟩
  show Ending.returned (.int .u64 (((W : Int) * 4 + 1 + (W : Int) % 2) / 4)) = _
  have : ((W : Int) * 4 + 1 + (W : Int) % 2) / 4 = W := by omega
  rw [this]
theorem ifrombits_run (n : Nat) (w : World) : (callFunc 109 #[.int .u64 (n : Int)]).run Tryz.prog w = .ok (.value (.float .f64 n)) w := by
  rw [run_callFunc_extern Tryz.func109 (by kernel_rfl) (by kernel_rfl) (by kernel_rfl) (show Extern.find Tryz.f109 = some Extern.MathFloatBits.float64frombits by kernel_rfl)]
  rfl
theorem and_52 (r : Nat) (h : r < 4503599627370496) : (4503599627370496 + r) &&& 4503599627370496 = 4503599627370496 := by
  have e : (4503599627370496 : Nat) = 2 ^ 52 := by decide
  rw [e] at h ⊢
  apply Nat.eq_of_testBit_eq
  intro i
  rw [Nat.testBit_and, Nat.testBit_two_pow]
  by_cases hi : 52 = i
  · subst hi
    rw [Nat.testBit_two_pow_add_eq, Nat.testBit_lt_two_pow h]; rfl
  · simp [hi]
theorem andNot_52 (r : Nat) (h : r < 4503599627370496) : (4503599627370496 + r) &&& (18446744073709551615 - 4503599627370496) = r := by
  have e : (4503599627370496 : Nat) = 2 ^ 52 := by decide
  have e2 : (18446744073709551615 - 2 ^ 52 : Nat) = 2 ^ 64 - (2 ^ 52 + 1) := by decide
  rw [e] at h ⊢
  rw [e2]
  apply Nat.eq_of_testBit_eq
  intro i
  rw [Nat.testBit_and, Nat.testBit_two_pow_sub_succ (by decide), Nat.testBit_two_pow]
  rcases Nat.lt_trichotomy i 52 with hi | hi | hi
  · rw [Nat.testBit_two_pow_add_gt hi]
    have : decide (i < 64) = true := by simp; omega
    have h2 : decide (52 = i) = false := by simp; omega
    simp [this, h2]
  · subst hi
    rw [Nat.testBit_lt_two_pow h]; simp
  · have a1 : (2 ^ 52 + r).testBit i = false := Nat.testBit_lt_two_pow (Nat.lt_of_lt_of_le (m := 2 ^ 53) (by omega) (Nat.pow_le_pow_right (by omega) (by omega)))
    have a2 : r.testBit i = false := Nat.testBit_lt_two_pow (Nat.lt_of_lt_of_le h (Nat.pow_le_pow_right (by omega) (by omega)))
    rw [a1, a2]; rfl
theorem or_52 (r k : Nat) (h : r < 4503599627370496) : r ||| (k * 4503599627370496) = k * 4503599627370496 + r := by
  have e : (4503599627370496 : Nat) = 2 ^ 52 := by decide
  rw [e] at h ⊢
  rw [Nat.or_comm, Nat.mul_comm k, Nat.two_pow_add_eq_or_of_lt h]
theorem pack_any (r ee : Nat) (h1 : r < 4503599627370496) (he : ee ≤ 60) (w : World) : Calls Tryz.prog 126 #[.int .u64 ((4503599627370496 + r : Nat) : Int), .int .i64 (-(ee : Int))] w fun e w' => e = .returned (.tuple #[.float .f64 ((1075 - ee) * 4503599627370496 + r), .nilIface]) ∧ w = w' := by
  have q1 : bits .and .u64 ((4503599627370496 + r : Nat) : Int) 4503599627370496 = 4503599627370496 := by
    have := u64_and_nat (4503599627370496 + r) 4503599627370496 (by omega) (by omega)
    rw [and_52 r h1] at this; exact this
  have q2 : bits .andNot .u64 ((4503599627370496 + r : Nat) : Int) 4503599627370496 = (r : Int) := by
    have := u64_andNot_nat (4503599627370496 + r) 4503599627370496 (by omega) (by omega)
    rw [andNot_52 r h1] at this; exact this
  have q3 : bits .or .u64 (r : Int) ((1075 - (ee : Int)) * 4503599627370496) = (((1075 - ee) * 4503599627370496 + r : Nat) : Int) := by
    have := u64_or_nat r ((1075 - ee) * 4503599627370496) (by omega) (by omega)
    rw [or_52 r _ h1] at this
    rw [← this]; congr 1; omega
  have q4 := ifrombits_run ((1075 - ee) * 4503599627370496 + r)
  have q5 : (1075 : Int) + -(ee : Int) = 1075 - ee := by omega
  have q6 : ((-(ee : Int)) ≥ 972) = False := by simp; omega
  generalize 4503599627370496 + r = m at *
  generalize (1075 - ee) * 4503599627370496 + r = v at *
  go_enter Tryz.func126, Tryz.ntmps126
  go_wp2
  go_ret2
  exact ⟨rfl, rfl⟩
def pre0 (w : World) : World := w.alloc (.cells #[.int .u64 0, .int .u64 0, .int .i64 0] 144)
def pre1 (w : World) (P Q : Int) : World := w.alloc (.cells #[.int .u64 P, .int .u64 Q, .int .i64 8] 144)
theorem prescale_1 (w : World) (c0 : w.cell? ⟨10, 694, none⟩ = some (.int .u64 14757395258967641293)) (c1 : w.cell? ⟨10, 695, none⟩ = some (.int .u64 3689348814741910323)) :
    Calls Tryz.prog 118 #[.pointer (some ⟨w.heap.size, 0, none⟩), .int .i64 (-7), .int .i64 (-1), .int .i64 (-4)] (pre0 w) fun e w' => (∃ v, e = .returned v) ∧ w' = pre1 w 14757395258967641293 3689348814741910323 := by
  have k0 : ∀ o, (w.alloc o).cell? ⟨10, 694, none⟩ = some (.int .u64 14757395258967641293) := fun o => (World.cell?_alloc_lt (h := World.block_lt_of_cell? _ _ c0) ..).trans c0
  have k1 : ∀ o, (w.alloc o).cell? ⟨10, 695, none⟩ = some (.int .u64 3689348814741910323) := fun o => (World.cell?_alloc_lt (h := World.block_lt_of_cell? _ _ c1) ..).trans c1
  unfold pre0
  go_enter Tryz.func118, Tryz.ntmps118
  go_wp2
  refine bodyPost_end (results_none rfl _ _ _) rfl ?_
  exact ⟨⟨_, rfl⟩, rfl⟩
theorem prescale_2 (w : World) (c0 : w.cell? ⟨10, 692, none⟩ = some (.int .u64 11805916207174113035)) (c1 : w.cell? ⟨10, 693, none⟩ = some (.int .u64 14019525496019259228)) :
    Calls Tryz.prog 118 #[.pointer (some ⟨w.heap.size, 0, none⟩), .int .i64 (-4), .int .i64 (-2), .int .i64 (-7)] (pre0 w) fun e w' => (∃ v, e = .returned v) ∧ w' = pre1 w 11805916207174113035 14019525496019259228 := by
  have k0 : ∀ o, (w.alloc o).cell? ⟨10, 692, none⟩ = some (.int .u64 11805916207174113035) := fun o => (World.cell?_alloc_lt (h := World.block_lt_of_cell? _ _ c0) ..).trans c0
  have k1 : ∀ o, (w.alloc o).cell? ⟨10, 693, none⟩ = some (.int .u64 14019525496019259228) := fun o => (World.cell?_alloc_lt (h := World.block_lt_of_cell? _ _ c1) ..).trans c1
  unfold pre0
  go_enter Tryz.func118, Tryz.ntmps118
  go_wp2
  refine bodyPost_end (results_none rfl _ _ _) rfl ?_
  exact ⟨⟨_, rfl⟩, rfl⟩
end Go.Proofs.YtgncihoioacgjaaGreatDoor
