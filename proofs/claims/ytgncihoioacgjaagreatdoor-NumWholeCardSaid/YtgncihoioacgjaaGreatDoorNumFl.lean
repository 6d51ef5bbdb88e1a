import Derived.Test.YtgncihoioacgjaaGreatDoorNumD
import Derived.Laws.FloatArith
import Derived.Laws.Externs
namespace Go.Proofs.YtgncihoioacgjaaGreatDoor
open Go.Instr Go.RowKit NumF
set_option linter.unusedVariables false

theorem frombits_run (n : Nat) (w : World) : (callFunc 33 #[.int .u64 (n : Int)]).run Tryz.prog w = .ok (.value (.float .f64 n)) w := by
  rw [run_callFunc_extern Tryz.func33 (by kernel_rfl) (by kernel_rfl) (by kernel_rfl) (show Extern.find Tryz.f33 = some Extern.MathFloatBits.float64frombits by kernel_rfl)]
  rfl
theorem bits_run (n : Nat) (w : World) : (callFunc 34 #[.float .f64 n]).run Tryz.prog w = .ok (.value (.int .u64 (n : Int))) w := by
  rw [run_callFunc_extern Tryz.func34 (by kernel_rfl) (by kernel_rfl) (by kernel_rfl) (show Extern.find Tryz.f34 = some Extern.MathFloatBits.float64bits by kernel_rfl)]
  rfl

/-- Where an operation is invalid, a NaN is told, whose bits are left open. -/
theorem run_float_invalid (op : BinOp) (hop : op = .add ∨ op = .sub ∨ op = .mul ∨ op = .quo) (t : TypeId) (x y : Nat) (w : World) (h : floatBits op .f64 x y = none) :
    ∃ nb : Nat, nb < 18446744073709551616 ∧ isNan nb = true ∧ (binOp op t (.float .f64 x) (.float .f64 y)).run Tryz.prog w = .ok (.float .f64 nb) w.drew := by
  refine ⟨(Question.nanBits .f64 x y).cut (w.tape w.drawn (.nanBits .f64 x y)), ?_, ?_, ?_⟩
  · simp only [Question.cut]; omega
  · refine decide_eq_true ?_
    show 9218868437227405312 < Question.cut (.nanBits .f64 x y) _ % 9223372036854775808
    simp only [Question.cut]
    generalize w.tape w.drawn (.nanBits .f64 x y) = t
    have h1 : t / 2 % (2 ^ 52 - 1) < 4503599627370495 := Nat.mod_lt _ (by omega)
    generalize t / 2 % (2 ^ 52 - 1) = u at *
    rcases Nat.mod_two_eq_zero_or_one t with e | e <;> rw [e] <;> omega
  · unfold floatBits at h
    rcases hop with rfl | rfl | rfl | rfl <;> simp only at h <;> simp [binOp, Op.floatArith, h, choose, Sem.run, Question.forced] <;> rfl
/-- The one NaN's bits for any. -/
def plainB (b : Nat) : Nat := if isNan b then 9221120237041090561 else b

theorem order_self (b : Nat) (hb : b < 18446744073709551616) : (FloatKind.f64.format.order b b != some .eq) = isNan b := by
  cases h : isNan b with
  | true => rw [show FloatKind.f64.format.order b b = none from order_nan b b (.inl h)]; rfl
  | false => rw [show FloatKind.f64.format.order b b = some (compare (pl b) (pl b)) from order_places b b hb hb h h, compare_of_eq]; rfl

theorem Plain_any (b : Nat) (hb : b < 18446744073709551616) (w : World) : Calls Tryz.prog 18 #[.int .u64 (b : Int)] w fun e w' => e = .returned (.int .u64 (plainB b)) ∧ w = w' := by
  have hf := frombits_run b
  have ho := order_self b hb
  unfold plainB
  cases hn : isNan b
  all_goals
    rw [hn] at ho
    go_enter Tryz.func18, Tryz.ntmps18
    go_wp2
    go_ret
    exact ⟨rfl, rfl⟩
end Go.Proofs.YtgncihoioacgjaaGreatDoor
