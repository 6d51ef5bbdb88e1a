import Derived.Test.YtgncihoioacgjaaGreatDoorNumE
import Derived.Laws.BitsAllLaws
namespace Go.Proofs.YtgncihoioacgjaaGreatDoor
open Go.Instr Go.RowKit NumF
set_option linter.unusedVariables false
theorem ret_bool {a b : Bool} (h : a = b) : Ending.returned (.bool a) = .returned (.bool b) := by rw [h]
theorem ret_int {k : IntKind} {a b : Int} (h : a = b) : Ending.returned (.int k a) = .returned (.int k b) := by rw [h]
theorem and2047 (b : Nat) (hb : b < 18446744073709551616) : bits .and .u64 ((b : Int) / 4503599627370496) 2047 = ((b / 4503599627370496 % 2048 : Nat) : Int) := by
  have h := u64_and_nat (b / 4503599627370496) 2047 (by omega) (by omega)
  rw [nat_mask11] at h
  exact h
theorem wrap_u64 (n : Int) : IntKind.u64.wrap n = n % 18446744073709551616 := by
  simp [IntKind.wrap, IntKind.signed, IntKind.bits]
theorem isNan_yes (b : Nat) (hb : b < 18446744073709551616) (h : b / 4503599627370496 % 2048 = 2047) : (IntKind.u64.wrap ((b : Int) * 4096) != 0) = isNan b := by
  rw [wrap_u64]; unfold isNan
  rw [Bool.eq_iff_iff]; simp only [bne_iff_ne, ne_eq, decide_eq_true_eq]; omega
theorem isNan_no (b : Nat) (hb : b < 18446744073709551616) (h : ¬ b / 4503599627370496 % 2048 = 2047) : false = isNan b := by
  unfold isNan
  rw [Bool.eq_iff_iff]; simp only [Bool.false_eq_true, decide_eq_true_eq, false_iff]; omega
theorem NaYtgncihoioacgjaaGreatDoorany (b : Nat) (hb : b < 18446744073709551616) (w : World) : Calls Tryz.prog 37 #[.int .u64 (b : Int)] w fun e w' => e = .returned (.bool (isNan b)) ∧ w = w' := by
  have hm := and2047 b hb
  by_cases h : b / 4503599627370496 % 2048 = 2047
  · have h1 := Lib.hid (isNan_yes b hb h)
    have h2 : bits .and .u64 ((b : Int) / 4503599627370496) 2047 = 2047 := by rw [hm, h]; rfl
    clear hm h
    go_enter Tryz.func37, Tryz.ntmps37
    go_wp2
    go_ret
    exact ⟨ret_bool h1.out, rfl⟩
  · have h1 := Lib.hid (isNan_no b hb h)
    have h2 : (bits .and .u64 ((b : Int) / 4503599627370496) 2047 == 2047) = false := by rw [hm, beq_eq_false_iff_ne]; omega
    clear hm h
    go_enter Tryz.func37, Tryz.ntmps37
    go_wp2
    go_ret
    exact ⟨ret_bool h1.out, rfl⟩
theorem wrap64_eq (n : Int) : wrap64 n = (n + 9223372036854775808) % 18446744073709551616 - 9223372036854775808 := by unfold wrap64; omega
theorem pl_hi (b : Nat) (hb : b < 18446744073709551616) (h : ((b : Int) / 9223372036854775808 == 1) = true) : wrap64 (-wrap64 (IntKind.u64.wrap ((b : Int) * 2) / 2)) = pl b := by
  rw [wrap_u64, wrap64_eq, wrap64_eq]; unfold pl
  rw [beq_iff_eq] at h
  split <;> omega
theorem pl_lo (b : Nat) (hb : b < 18446744073709551616) (h : ((b : Int) / 9223372036854775808 == 1) = false) : wrap64 (IntKind.u64.wrap ((b : Int) * 2) / 2) = pl b := by
  rw [wrap_u64, wrap64_eq]; unfold pl
  rw [beq_eq_false_iff_ne] at h
  split <;> omega
theorem place_any (b : Nat) (hb : b < 18446744073709551616) (w : World) : Calls Tryz.prog 36 #[.int .u64 (b : Int)] w fun e w' => e = .returned (.int .i64 (pl b)) ∧ w = w' := by
  go_enter Tryz.func36, Tryz.ntmps36
  go_wp2
  · go_ret
    exact ⟨ret_int (pl_hi b hb ‹_›), rfl⟩
  · go_ret
    exact ⟨ret_int (pl_lo b hb ‹_›), rfl⟩
theorem rPlain_any (b : Nat) (hb : b < 18446744073709551616) (w : World) : Calls Tryz.prog 19 #[.int .u64 (b : Int)] w fun e w' => e = .returned (.int .u64 (plainB b)) ∧ w = w' := by
  unfold plainB
  cases hn : isNan b
  all_goals
    have hc := NaYtgncihoioacgjaaGreatDoorany b hb w
    rw [hn] at hc
    clear hn
    go_enter Tryz.func19, Tryz.ntmps19
    go_wp2_with (first | (go_at_call 37; refine hc.mono ?_; rintro e w' ⟨rfl, rfl⟩))
    go_ret
    exact ⟨rfl, rfl⟩
end Go.Proofs.YtgncihoioacgjaaGreatDoor
