/- The document's own scanner: names. -/
import Derived.Test.YthhfgjcdopkmgaaGreatDoorRfC
set_option maxRecDepth 100000
namespace Go.Proofs.YthhfgjcdopkmgaaGreatDoor
open Go.Instr Go.RowKit ScnT
set_option linter.unusedVariables false
set_option linter.unusedSimpArgs false
set_option maxHeartbeats 2000000 in
theorem rfName_any (S : ByteArray) (w : World) (hS : S.size ≤ 100000) (h0 : 0 < S.size) (hall : ∀ i (h : i < S.size), isLd S[i] = true) (hhead : isLt S[0] = true) :
    Calls Tryz.prog 56 #[.string S] w fun e w' => e = .returned (.bool ((S.data.toList != [95]) && decide (S.size ≤ 40))) ∧ w = w' := by
  have HA := Lib.hid (And.intro hall hhead)
  clear hall hhead
  obtain ⟨res, hr⟩ : ∃ res, ((S.data.toList != [95]) && decide (S.size ≤ 40)) = res := ⟨_, rfl⟩
  rw [hr]
  have HR := Lib.hid hr
  clear hr
  go_enter Tryz.func56, Tryz.ntmps56
  go_wp2_with fail
  go_loop [3] (fun v => ∃ i : Nat, i ≤ S.size ∧ v = .int .i64 i) (fun v => S.size - (intOf v).toNat)
  case atStart => exact ⟨0, by omega, rfl⟩
  case round =>
    obtain ⟨i, hi, rfl⟩ := hrel
    have i0 : (0 : Int) ≤ (i : Int) := by omega
    by_cases hlt : i < S.size
    · have t1 : (i : Int) < (S.size : Int) := by omega
      have HD : Hid (∀ w, Calls Tryz.prog 59 #[.int .u8 (S[i].toNat : Int)] w fun e w' => e = .returned (.bool (isDg S[i])) ∧ w = w') := fun w => rfDigit_any _ w
      have HLt : Hid (∀ w, Calls Tryz.prog 54 #[.int .u8 (S[i].toNat : Int)] w fun e w' => e = .returned (.bool (isLt S[i])) ∧ w = w') := fun w => rfLetter_any _ w
      have hp := HA.out.1 i hlt
      rw [ld_eq] at hp
      cases hlt2 : isLt S[i]
      · have hd : isDg S[i] = true := by rw [hlt2] at hp; simpa using hp
        have hne : i ≠ 0 := by
          rintro rfl
          rw [HA.out.2] at hlt2
          cases hlt2
        have t2 : ((i : Int) == 0) = false := by simp; omega
        rw [hlt2] at HLt
        rw [hd] at HD
        clear hp hlt2 hd
        go_wp2_with (first | (go_at_call 54; refine (HLt.out _).mono ?_; rintro e w' ⟨rfl, rfl⟩) | (go_at_call 59; refine (HD.out _).mono ?_; rintro e w' ⟨rfl, rfl⟩))
        go_round
        case rel => exact ⟨i + 1, by omega, by go_num⟩
        case measure => simp [intOf]; omega
      · rw [hlt2] at HLt
        clear hp hlt2
        go_wp2_with (first | (go_at_call 54; refine (HLt.out _).mono ?_; rintro e w' ⟨rfl, rfl⟩) | (go_at_call 59; refine (HD.out _).mono ?_; rintro e w' ⟨rfl, rfl⟩))
        go_round
        case rel => exact ⟨i + 1, by omega, by go_num⟩
        case measure => simp [intOf]; omega
    · have t1 : ¬ ((i : Int) < (S.size : Int)) := by omega
      have hl : S.toList.length = S.size := by rw [Lib.toList_data]; simp
      have e1 : ¬ S.toList = [] := by intro h; rw [h] at hl; simp at hl; omega
      have e2 : (!S.toList.isEmpty) = true := by cases hh : S.toList with | nil => exact absurd hh e1 | cons => rfl
      have hdl : S.toList = S.data.toList := Lib.toList_data S
      by_cases h95 : S.toList = [95]
      · have HE : Hid (false = res) := by show _ = _; rw [← HR.out, ← hdl, h95]; rfl
        clear hdl hl
        go_wp2_with fail
        go_ret
        exact ⟨ret_bool HE.out, rfl⟩
      · have e3 : (!S.toList == [95]) = true := by simpa using h95
        have HE : Hid (decide ((S.size : Int) ≤ 40) = res) := by
          show _ = _
          have h4 : (S.data.toList != [95]) = true := by rw [← hdl]; simpa using h95
          rw [← HR.out, h4, Bool.true_and]
          exact decide_eq_decide.2 (by omega)
        clear hdl hl
        go_wp2_with fail
        go_ret
        exact ⟨ret_bool (by first | exact HE.out | (rw [← HE.out]; simp [e2, e3]; done) | (rw [← HE.out]; simp_all)), rfl⟩
end Go.Proofs.YthhfgjcdopkmgaaGreatDoor
