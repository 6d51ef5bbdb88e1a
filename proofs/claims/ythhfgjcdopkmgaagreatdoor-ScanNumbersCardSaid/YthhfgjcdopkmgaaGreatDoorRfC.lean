/- The document's own scanner: what a digit in base 16 says; which texts are names. -/
import Derived.Test.YthhfgjcdopkmgaaGreatDoorRfB
set_option maxRecDepth 100000
namespace ScnT
def hexN (c : UInt8) : Nat := match hexB c with | some x => x.toNat | none => 16
theorem hexYthhfgjcdopkmgaaGreatDooreq : ∀ c : UInt8, hexN c = if 48 ≤ c.toNat ∧ c.toNat ≤ 57 then c.toNat - 48 else if 97 ≤ c.toNat ∧ c.toNat ≤ 102 then c.toNat - 87 else if 65 ≤ c.toNat ∧ c.toNat ≤ 70 then c.toNat - 55 else 16 := all256 (by decide)
/-- A name: letters and digits, a letter first. -/
def nameB (l : Bs) : Bool := l.all isLd && (isLt (lookB l 0) && ((l != [95]) && decide (l.length ≤ 40)))
end ScnT
namespace Go.Proofs.YthhfgjcdopkmgaaGreatDoor
open Go.Instr Go.RowKit ScnT
set_option linter.unusedVariables false
set_option linter.unusedSimpArgs false
theorem ret_u8 {a b : Int} (h : a = b) : Ending.returned (.int .u8 a) = .returned (.int .u8 b) := by rw [h]
set_option maxHeartbeats 2000000 in
theorem rfHalf_any (c : UInt8) (w : World) : Calls Tryz.prog 120 #[.int .u8 c.toNat] w fun e w' => e = .returned (.int .u8 (hexN c : Int)) ∧ w = w' := by
  have hlt := c.toNat_lt
  have HX := Lib.hid (hexYthhfgjcdopkmgaaGreatDooreq c)
  have HD := Lib.hid (fun w => rfDigit_any c w)
  have hd := dg_eq c
  by_cases h1 : 48 ≤ c.toNat ∧ c.toNat ≤ 57
  · have e : isDg c = true := by rw [hd]; simp [h1]
    rw [e] at HD
    obtain ⟨x, hx⟩ : ∃ x : Nat, c.toNat = x + 48 := ⟨c.toNat - 48, by omega⟩
    have HR : Hid (hexN c = x) := by show _ = _; rw [HX.out, if_pos h1]; omega
    rw [HR.out]
    rw [hx] at HD ⊢
    have x0 : x ≤ 9 := by omega
    clear e hd hlt h1 hx HX HR
    go_enter Tryz.func120, Tryz.ntmps120
    go_wp2_with (go_at_call 59; refine (HD.out _).mono ?_; rintro e w' ⟨rfl, rfl⟩)
    go_ret
    exact ⟨ret_u8 (by first | omega | (rw [IntKind.wrap_u8]; omega)), rfl⟩
  · have e : isDg c = false := by rw [hd]; simp; omega
    rw [e] at HD
    have HR : Hid (hexN c = if 97 ≤ c.toNat ∧ c.toNat ≤ 102 then c.toNat - 87 else if 65 ≤ c.toNat ∧ c.toNat ≤ 70 then c.toNat - 55 else 16) := by show _ = _; rw [HX.out, if_neg h1]
    rw [HR.out]
    generalize c.toNat = m at *
    clear e hd HX HR h1
    by_cases h2 : 97 ≤ m ∧ m ≤ 102
    · rw [if_pos h2]
      obtain ⟨x, rfl⟩ : ∃ x : Nat, m = x + 97 := ⟨m - 97, by omega⟩
      have x0 : x ≤ 5 := by omega
      have a1 : decide (97 ≤ ((x + 97 : Nat) : Int)) = true := by simp; omega
      have a2 : decide (((x + 97 : Nat) : Int) ≤ 102) = true := by simp; omega
      clear h2 hlt
      go_enter Tryz.func120, Tryz.ntmps120
      go_wp2_with (go_at_call 59; refine (HD.out _).mono ?_; rintro e w' ⟨rfl, rfl⟩)
      go_ret
      exact ⟨ret_u8 (by first | omega | (simp only [IntKind.wrap_u8]; omega)), rfl⟩
    · rw [if_neg h2]
      by_cases h3 : 65 ≤ m ∧ m ≤ 70
      · rw [if_pos h3]
        obtain ⟨x, rfl⟩ : ∃ x : Nat, m = x + 65 := ⟨m - 65, by omega⟩
        have x0 : x ≤ 5 := by omega
        have a1 : decide (97 ≤ ((x + 65 : Nat) : Int)) = false := by simp; omega
        have a2 : decide (65 ≤ ((x + 65 : Nat) : Int)) = true := by simp; omega
        have a3 : decide (((x + 65 : Nat) : Int) ≤ 70) = true := by simp; omega
        clear h2 h3 hlt
        go_enter Tryz.func120, Tryz.ntmps120
        go_wp2_with (go_at_call 59; refine (HD.out _).mono ?_; rintro e w' ⟨rfl, rfl⟩)
        go_ret
        exact ⟨ret_u8 (by first | omega | (simp only [IntKind.wrap_u8]; omega)), rfl⟩
      · rw [if_neg h3]
        have n2 : ¬ (97 ≤ (m : Int) ∧ (m : Int) ≤ 102) := by omega
        have n3 : ¬ (65 ≤ (m : Int) ∧ (m : Int) ≤ 70) := by omega
        clear h2 h3
        go_enter Tryz.func120, Tryz.ntmps120
        go_wp2_with (go_at_call 59; refine (HD.out _).mono ?_; rintro e w' ⟨rfl, rfl⟩)
        all_goals first | (exfalso; omega) | (go_ret; exact ⟨rfl, rfl⟩)
end Go.Proofs.YthhfgjcdopkmgaaGreatDoor
