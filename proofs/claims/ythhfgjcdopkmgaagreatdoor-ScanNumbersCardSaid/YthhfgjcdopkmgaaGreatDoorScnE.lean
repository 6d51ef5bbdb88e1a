/- The program's questions to bytes and to short texts. -/
import Derived.Test.YthhfgjcdopkmgaaGreatDoorScnD
import Derived.Test.YthhfgjcdopkmgaaGreatDoorRows
import Derived.WalkKit
import Derived.WalkLawsBesides
import Derived.WalkSpells
import Derived.Below
import Derived.Outline
import Derived.Lib.Hide
import Derived.Handy
import Derived.LoopTactic
import Derived.Deep.LoopGhost
import Derived.Lib.Strings
set_option maxRecDepth 100000
namespace ScnT
/-- A text as it lies in memory. -/
def mkS (l : Bs) : ByteArray := ⟨l.toArray⟩
@[simp] theorem mkS_list (l : Bs) : (mkS l).data.toList = l := by simp [mkS]
@[simp] theorem mkS_size (l : Bs) : (mkS l).size = l.length := by simp [mkS, ByteArray.size]
theorem mkS_of (s : ByteArray) : mkS s.data.toList = s := by cases s; simp [mkS]
theorem mkS_toList (l : Bs) : (mkS l).toList = l := by rw [Go.Lib.toList_data]; simp
theorem dg_eq (c : UInt8) : isDg c = (decide (48 ≤ c.toNat) && decide (c.toNat ≤ 57)) := by
  unfold isDg; rw [Bool.eq_iff_iff]; simp [UInt8.le_iff_toNat_le]
theorem lt_eq (c : UInt8) : isLt c = (decide (97 ≤ c.toNat) && decide (c.toNat ≤ 122) || (decide (65 ≤ c.toNat) && decide (c.toNat ≤ 90) || decide (c.toNat = 95))) := by
  unfold isLt; rw [Bool.eq_iff_iff]; simp [UInt8.le_iff_toNat_le, ← UInt8.toNat_inj]
theorem bl_eq (c : UInt8) : isBl c = (decide (c.toNat = 9) || decide (c.toNat = 13) || decide (c.toNat = 32)) := by
  unfold isBl; rw [Bool.eq_iff_iff]; simp [← UInt8.toNat_inj]
theorem pl_eq (c : UInt8) : isPl c = (decide (32 ≤ c.toNat) && (decide (c.toNat ≤ 126) && (decide (c.toNat ≠ 34) && decide (c.toNat ≠ 92)))) := by
  unfold isPl; rw [Bool.eq_iff_iff]; simp [UInt8.le_iff_toNat_le, ← UInt8.toNat_inj]
end ScnT
namespace Go.Proofs.YthhfgjcdopkmgaaGreatDoor
open Go.Instr Go.RowKit ScnT
set_option linter.unusedVariables false
theorem ret_bool {a b : Bool} (h : a = b) : Ending.returned (.bool a) = .returned (.bool b) := by rw [h]
theorem isDigit_any (c : UInt8) (w : World) : Calls Tryz.prog 114 #[.int .u8 c.toNat] w fun e w' => e = .returned (.bool (isDg c)) ∧ w = w' := by
  have hlt := c.toNat_lt
  have hd := Lib.hid (dg_eq c)
  generalize c.toNat = n at *
  by_cases h1 : 48 ≤ n <;> by_cases h2 : n ≤ 57
  all_goals try omega
  all_goals
    obtain ⟨b, e⟩ : ∃ b : Bool, Hid (isDg c = b) := ⟨_, rfl⟩
    have eb := e.out
    rw [hd.out] at eb
    simp [h1, h2] at eb
    subst eb
    go_enter Tryz.func114, Tryz.ntmps114
    go_wp2_with fail
    go_ret
    exact ⟨ret_bool (by rw [e.out] <;> first | rfl | (simp; done) | (simp; omega)), rfl⟩
theorem isLetter_any (c : UInt8) (w : World) : Calls Tryz.prog 112 #[.int .u8 c.toNat] w fun e w' => e = .returned (.bool (isLt c)) ∧ w = w' := by
  have hlt := c.toNat_lt
  have hd := Lib.hid (lt_eq c)
  generalize c.toNat = n at *
  by_cases h1 : 97 ≤ n <;> by_cases h2 : n ≤ 122 <;> by_cases h3 : 65 ≤ n <;> by_cases h4 : n ≤ 90 <;> by_cases h5 : n = 95
  all_goals try omega
  all_goals
    obtain ⟨b, e⟩ : ∃ b : Bool, Hid (isLt c = b) := ⟨_, rfl⟩
    have eb := e.out
    rw [hd.out] at eb
    simp [h1, h2, h3, h4, h5] at eb
    subst eb
    go_enter Tryz.func112, Tryz.ntmps112
    go_wp2_with fail
    go_ret
    exact ⟨ret_bool (by rw [e.out] <;> first | rfl | (simp; done) | (simp; omega)), rfl⟩
theorem isBlank_any (c : UInt8) (w : World) : Calls Tryz.prog 106 #[.int .u8 c.toNat] w fun e w' => e = .returned (.bool (isBl c)) ∧ w = w' := by
  have hlt := c.toNat_lt
  have hd := Lib.hid (bl_eq c)
  generalize c.toNat = n at *
  by_cases h1 : n = 9 <;> by_cases h2 : n = 13 <;> by_cases h3 : n = 32
  all_goals try omega
  all_goals
    obtain ⟨b, e⟩ : ∃ b : Bool, Hid (isBl c = b) := ⟨_, rfl⟩
    have eb := e.out
    rw [hd.out] at eb
    simp [h1, h2, h3] at eb
    subst eb
    go_enter Tryz.func106, Tryz.ntmps106
    go_wp2_with fail
    go_ret
    exact ⟨ret_bool (by rw [e.out] <;> first | rfl | (simp; done) | (simp; omega)), rfl⟩
theorem isPlain_any (c : UInt8) (w : World) : Calls Tryz.prog 205 #[.int .u8 c.toNat] w fun e w' => e = .returned (.bool (isPl c)) ∧ w = w' := by
  have hlt := c.toNat_lt
  have hd := Lib.hid (pl_eq c)
  generalize c.toNat = n at *
  by_cases h1 : 32 ≤ n <;> by_cases h2 : n ≤ 126 <;> by_cases h3 : n = 34 <;> by_cases h4 : n = 92
  all_goals try omega
  all_goals
    obtain ⟨b, e⟩ : ∃ b : Bool, Hid (isPl c = b) := ⟨_, rfl⟩
    have eb := e.out
    rw [hd.out] at eb
    simp [h1, h2, h3, h4] at eb
    subst eb
    go_enter Tryz.func205, Tryz.ntmps205
    go_wp2_with fail
    go_ret
    exact ⟨ret_bool (by rw [e.out] <;> first | rfl | (simp; done) | (simp; omega)), rfl⟩
theorem letterDigit_any (c : UInt8) (w : World) : Calls Tryz.prog 174 #[.int .u8 c.toNat] w fun e w' => e = .returned (.bool (isLd c)) ∧ w = w' := by
  have h1 := Lib.hid (isLetter_any c w)
  have h2 := Lib.hid (isDigit_any c w)
  have hd : Hid (isLd c = (isLt c || isDg c)) := rfl
  cases e1 : isLt c
  · rw [e1] at h1 hd
    clear e1
    go_enter Tryz.func174, Tryz.ntmps174
    go_wp2_with (first | (go_at_call 112; refine h1.out.mono ?_; rintro e w' ⟨rfl, rfl⟩) | (go_at_call 114; refine h2.out.mono ?_; rintro e w' ⟨rfl, rfl⟩))
    go_ret
    exact ⟨ret_bool (by rw [hd.out]; simp), rfl⟩
  · rw [e1] at h1 hd
    clear e1
    go_enter Tryz.func174, Tryz.ntmps174
    go_wp2_with (first | (go_at_call 112; refine h1.out.mono ?_; rintro e w' ⟨rfl, rfl⟩) | (go_at_call 114; refine h2.out.mono ?_; rintro e w' ⟨rfl, rfl⟩))
    go_ret
    exact ⟨ret_bool (by rw [hd.out]; simp), rfl⟩
theorem notEnd_any (c : UInt8) (w : World) : Calls Tryz.prog 108 #[.int .u8 c.toNat] w fun e w' => e = .returned (.bool (c != 10)) ∧ w = w' := by
  have hd : Hid ((c != 10) = !decide (c.toNat = 10)) := by show _ = _; rw [Bool.eq_iff_iff]; simp [← UInt8.toNat_inj]
  have hlt := c.toNat_lt
  generalize c.toNat = n at *
  by_cases h1 : n = 10
  all_goals
    obtain ⟨b, e⟩ : ∃ b : Bool, Hid ((c != 10) = b) := ⟨_, rfl⟩
    have eb := e.out
    rw [hd.out] at eb
    simp [h1] at eb
    subst eb
    go_enter Tryz.func108, Tryz.ntmps108
    go_wp2_with fail
    go_ret
    exact ⟨ret_bool (by rw [e.out] <;> first | rfl | (simp; done) | (simp; omega)), rfl⟩
set_option maxHeartbeats 1000000 in
theorem isForeignWord_any (s : ByteArray) (w : World) : Calls Tryz.prog 177 #[.string s] w fun e w' => e = .returned (.bool (foreignWords.contains s.data.toList)) ∧ w = w' := by
  have HD : Hid (foreignWords.contains s.data.toList = foreignWords.any fun l => s.toList == l) := by
    show _ = _
    rw [Lib.toList_data, List.contains_eq_any_beq]
  go_enter Tryz.func177, Tryz.ntmps177
  go_wp2_with fail
  all_goals
    go_ret
    refine ⟨ret_bool ?_, rfl⟩
    rw [HD.out]
    first | (simp [foreignWords, *]; done) | (exfalso; simp_all; done)
set_option maxHeartbeats 2000000 in
theorem isForeignSign_any (s : ByteArray) (w : World) : Calls Tryz.prog 181 #[.string s] w fun e w' => e = .returned (.bool (oddSigns.contains s.data.toList)) ∧ w = w' := by
  have HD : Hid (oddSigns.contains s.data.toList = oddSigns.any fun l => s.toList == l) := by
    show _ = _
    rw [Lib.toList_data, List.contains_eq_any_beq]
  go_enter Tryz.func181, Tryz.ntmps181
  go_wp2_with fail
  all_goals
    go_ret
    refine ⟨ret_bool ?_, rfl⟩
    rw [HD.out]
    first | (simp [oddSigns, *]; done) | (exfalso; simp_all; done)
set_option maxHeartbeats 4000000 in
theorem isSign_any (s : ByteArray) (w : World) : Calls Tryz.prog 182 #[.string s] w fun e w' => e = .returned (.bool (signs.contains s.data.toList)) ∧ w = w' := by
  have HD : Hid (signs.contains s.data.toList = signs.any fun l => s.toList == l) := by
    show _ = _
    rw [Lib.toList_data, List.contains_eq_any_beq]
  go_enter Tryz.func182, Tryz.ntmps182
  go_wp2_with fail
  all_goals
    go_ret
    refine ⟨ret_bool ?_, rfl⟩
    rw [HD.out]
    first | (simp [signs, *]; done) | (exfalso; simp_all; done)
end Go.Proofs.YthhfgjcdopkmgaaGreatDoor
