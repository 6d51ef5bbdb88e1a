import Derived.Test.YtgncihoioacgjaaGreatDoorNumM
namespace Go.Proofs.YtgncihoioacgjaaGreatDoor
open Go.Instr Go.RowKit NumF
set_option linter.unusedVariables false
theorem wrap_ex (t : Int) : ∃ k, wrap64 t = t - 18446744073709551616 * k := ⟨(t + 9223372036854775808) / 18446744073709551616, by rw [wrap64_eq]; omega⟩
theorem wrap_back (m K : Int) (h1 : -9223372036854775808 ≤ m) (h2 : m ≤ 9223372036854775807) : wrap64 (m - 18446744073709551616 * K) = m := by rw [wrap64_eq]; omega
theorem div_law (m n : Int) (h1 : -9223372036854775808 ≤ m) (h2 : m ≤ 9223372036854775807) : wrap64 (wrap64 (wrap64 (m.tdiv n) * n) + m.tmod n) = m := by
  obtain ⟨k1, e1⟩ := wrap_ex (m.tdiv n)
  rw [e1]
  obtain ⟨k2, e2⟩ := wrap_ex ((m.tdiv n - 18446744073709551616 * k1) * n)
  rw [e2]
  have e3 : (m.tdiv n - 18446744073709551616 * k1) * n - 18446744073709551616 * k2 + m.tmod n = m - 18446744073709551616 * (k1 * n + k2) := by
    have := Int.tdiv_mul_add_tmod m n
    rw [Int.sub_mul, Int.mul_add, Int.mul_assoc]
    omega
  rw [e3]
  exact wrap_back m _ h1 h2
theorem plainB_nan (a : Nat) (h : isNan a = true) : plainB a = 9221120237041090561 := by unfold plainB; rw [h]; rfl
theorem plainB_num (a : Nat) (h : isNan a = false) : ((plainB a : Int) == 9221120237041090561) = false := by
  unfold plainB; rw [h]
  rw [beq_eq_false_iff_ne]
  intro e
  simp only [Bool.false_eq_true, if_false] at e
  have : a = 9221120237041090561 := by omega
  subst this
  exact absurd h (by decide)
theorem fr_add_comm (a b : Nat) : fr .add a b = fr .add b a := by unfold fr floatBits; simp only [show FloatKind.f64.format.add a b = FloatKind.f64.format.add b a from add_comm _ a b]
theorem fr_mul_comm (a b : Nat) : fr .mul a b = fr .mul b a := by unfold fr floatBits; simp only [show FloatKind.f64.format.mul a b = FloatKind.f64.format.mul b a from mul_comm _ a b]
theorem fr_add_nan (a b : Nat) (h : isNan a = true ∨ isNan b = true) : fr .add a b = 9221120237041090561 := by unfold fr floatBits; simp only [show FloatKind.f64.format.add a b = none from add_nan a b h]
theorem fr_mul_nan (a b : Nat) (h : isNan a = true ∨ isNan b = true) : fr .mul a b = 9221120237041090561 := by unfold fr floatBits; simp only [show FloatKind.f64.format.mul a b = none from mul_nan a b h]
end Go.Proofs.YtgncihoioacgjaaGreatDoor
