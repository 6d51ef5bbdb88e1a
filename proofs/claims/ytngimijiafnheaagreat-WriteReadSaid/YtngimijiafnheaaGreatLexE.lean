/- The program's questions to bytes and to short texts. -/
import Derived.Test.YtngimijiafnheaaGreatLexD
import Derived.Test.YtngimijiafnheaaGreatRows
import Derived.WalkKit
import Derived.WalkLawsBesides
import Derived.WalkSpells
import Derived.Below
import Derived.Outline
import Derived.Lib.Hide
import Derived.Handy
import Derived.LoopTactic
import Derived.Deep.LoopGhost
import Derived.Lib.Strings
set_option maxRecDepth 100000
namespace LexT
/-- A text as it lies in memory. -/
def mkS (l : Bs) : ByteArray := ⟨l.toArray⟩
@[simp] theorem mkS_list (l : Bs) : (mkS l).data.toList = l := by simp [mkS]
@[simp] theorem mkS_size (l : Bs) : (mkS l).size = l.length := by simp [mkS, ByteArray.size]
theorem mkS_of (s : ByteArray) : mkS s.data.toList = s := by cases s; simp [mkS]
theorem mkS_toList (l : Bs) : (mkS l).toList = l := by rw [Go.Lib.toList_data]; simp
theorem dg_eq (c : UInt8) : isDg c = (decide (48 ≤ c.toNat) && decide (c.toNat ≤ 57)) := by
  unfold isDg; rw [Bool.eq_iff_iff]; simp [UInt8.le_iff_toNat_le]
theorem lt_eq (c : UInt8) : isLt c = (decide (97 ≤ c.toNat) && decide (c.toNat ≤ 122) || (decide (65 ≤ c.toNat) && decide (c.toNat ≤ 90) || decide (c.toNat = 95))) := by
  unfold isLt; rw [Bool.eq_iff_iff]; simp [UInt8.le_iff_toNat_le, ← UInt8.toNat_inj]
theorem bl_eq (c : UInt8) : isBl c = (decide (c.toNat = 9) || decide (c.toNat = 10) || decide (c.toNat = 13) || decide (c.toNat = 32)) := by
  unfold isBl; rw [Bool.eq_iff_iff]; simp [← UInt8.toNat_inj]
theorem nl_eq (c : UInt8) : notNL c = !decide (c.toNat = 10) := by
  unfold notNL; rw [Bool.eq_iff_iff]; simp [← UInt8.toNat_inj]
theorem sg_eq (c : UInt8) : isSg c = (decide (c.toNat = 58) || decide (c.toNat = 59) || decide (c.toNat = 124) || decide (c.toNat = 40) || decide (c.toNat = 41) || decide (c.toNat = 44) || decide (c.toNat = 60) || decide (c.toNat = 62)) := by
  unfold isSg; rw [Bool.eq_iff_iff]; simp [← UInt8.toNat_inj]
theorem u8_ne {c : UInt8} {k : Nat} (hk : k < 256) (h : (c == UInt8.ofNat k) = false) : ((c.toNat : Int) == (k : Int)) = false := by
  rw [← Bool.not_eq_true, beq_iff_eq]
  intro hh
  have : c = UInt8.ofNat k := UInt8.toNat_inj.1 (by rw [UInt8.toNat_ofNat_of_lt' hk]; omega)
  rw [this] at h; simp at h
theorem u8_eq {c : UInt8} {k : Nat} (hk : k < 256) (h : (c == UInt8.ofNat k) = true) : ((c.toNat : Int) == (k : Int)) = true := by
  have : c = UInt8.ofNat k := by simpa using h
  rw [this, beq_iff_eq, UInt8.toNat_ofNat_of_lt' hk]
end LexT
namespace Go.Proofs.YtngimijiafnheaaGreat
open Go.Instr Go.RowKit LexT
set_option linter.unusedVariables false
theorem ret_bool {a b : Bool} (h : a = b) : Ending.returned (.bool a) = .returned (.bool b) := by rw [h]
theorem isDigit_any (c : UInt8) (w : World) : Calls Tryz.prog 118 #[.int .u8 c.toNat] w fun e w' => e = .returned (.bool (isDg c)) ∧ w = w' := by
  have hlt := c.toNat_lt
  have hd := Lib.hid (dg_eq c)
  generalize c.toNat = n at *
  by_cases h1 : 48 ≤ n <;> by_cases h2 : n ≤ 57
  all_goals try omega
  all_goals
    obtain ⟨b, e⟩ : ∃ b : Bool, Hid (isDg c = b) := ⟨_, rfl⟩
    have eb := e.out
    rw [hd.out] at eb
    simp [h1, h2] at eb
    subst eb
    go_enter Tryz.func118, Tryz.ntmps118
    go_wp2_with fail
    go_ret
    exact ⟨ret_bool (by rw [e.out] <;> first | rfl | (simp; done) | (simp; omega)), rfl⟩
theorem isLetter_any (c : UInt8) (w : World) : Calls Tryz.prog 86 #[.int .u8 c.toNat] w fun e w' => e = .returned (.bool (isLt c)) ∧ w = w' := by
  have hlt := c.toNat_lt
  have hd := Lib.hid (lt_eq c)
  generalize c.toNat = n at *
  by_cases h1 : 97 ≤ n <;> by_cases h2 : n ≤ 122 <;> by_cases h3 : 65 ≤ n <;> by_cases h4 : n ≤ 90 <;> by_cases h5 : n = 95
  all_goals try omega
  all_goals
    obtain ⟨b, e⟩ : ∃ b : Bool, Hid (isLt c = b) := ⟨_, rfl⟩
    have eb := e.out
    rw [hd.out] at eb
    simp [h1, h2, h3, h4, h5] at eb
    subst eb
    go_enter Tryz.func86, Tryz.ntmps86
    go_wp2_with fail
    go_ret
    exact ⟨ret_bool (by rw [e.out] <;> first | rfl | (simp; done) | (simp; omega)), rfl⟩
theorem isBlank_any (c : UInt8) (w : World) : Calls Tryz.prog 83 #[.int .u8 c.toNat] w fun e w' => e = .returned (.bool (isBl c)) ∧ w = w' := by
  have hlt := c.toNat_lt
  have hd := Lib.hid (bl_eq c)
  generalize c.toNat = n at *
  by_cases h1 : n = 9 <;> by_cases h2 : n = 10 <;> by_cases h3 : n = 13 <;> by_cases h4 : n = 32
  all_goals try omega
  all_goals
    obtain ⟨b, e⟩ : ∃ b : Bool, Hid (isBl c = b) := ⟨_, rfl⟩
    have eb := e.out
    rw [hd.out] at eb
    simp [h1, h2, h3, h4] at eb
    subst eb
    go_enter Tryz.func83, Tryz.ntmps83
    go_wp2_with fail
    go_ret
    exact ⟨ret_bool (by rw [e.out] <;> first | rfl | (simp; done) | (simp; omega)), rfl⟩
theorem notNL_any (c : UInt8) (w : World) : Calls Tryz.prog 106 #[.int .u8 c.toNat] w fun e w' => e = .returned (.bool (notNL c)) ∧ w = w' := by
  have hlt := c.toNat_lt
  have hd := Lib.hid (nl_eq c)
  generalize c.toNat = n at *
  by_cases h1 : n = 10
  all_goals try omega
  all_goals
    obtain ⟨b, e⟩ : ∃ b : Bool, Hid (notNL c = b) := ⟨_, rfl⟩
    have eb := e.out
    rw [hd.out] at eb
    simp [h1] at eb
    subst eb
    go_enter Tryz.func106, Tryz.ntmps106
    go_wp2_with fail
    go_ret
    exact ⟨ret_bool (by rw [e.out] <;> first | rfl | (simp; done) | (simp; omega)), rfl⟩
theorem isSign_any (c : UInt8) (w : World) : Calls Tryz.prog 91 #[.int .u8 c.toNat] w fun e w' => e = .returned (.bool (isSg c)) ∧ w = w' := by
  have hlt := c.toNat_lt
  have hd := Lib.hid (sg_eq c)
  generalize c.toNat = n at *
  by_cases h1 : n = 58 <;> by_cases h2 : n = 59 <;> by_cases h3 : n = 124 <;> by_cases h4 : n = 40 <;> by_cases h5 : n = 41 <;> by_cases h6 : n = 44 <;> by_cases h7 : n = 60 <;> by_cases h8 : n = 62
  all_goals try omega
  all_goals
    obtain ⟨b, e⟩ : ∃ b : Bool, Hid (isSg c = b) := ⟨_, rfl⟩
    have eb := e.out
    rw [hd.out] at eb
    simp [h1, h2, h3, h4, h5, h6, h7, h8] at eb
    subst eb
    go_enter Tryz.func91, Tryz.ntmps91
    go_wp2_with fail
    go_ret
    exact ⟨ret_bool (by rw [e.out] <;> first | rfl | (simp; done) | (simp; omega)), rfl⟩
theorem isOfName_any (c : UInt8) (w : World) : Calls Tryz.prog 107 #[.int .u8 c.toNat] w fun e w' => e = .returned (.bool (isLd c)) ∧ w = w' := by
  have h1 := Lib.hid (isLetter_any c w)
  have h2 := Lib.hid (isDigit_any c w)
  have hd : Hid (isLd c = (isLt c || isDg c)) := rfl
  cases e1 : isLt c <;> rw [e1] at h1 hd <;> clear e1
  all_goals
    go_enter Tryz.func107, Tryz.ntmps107
    go_wp2_with (first | (go_at_call 86; refine h1.out.mono ?_; rintro e w' ⟨rfl, rfl⟩) | (go_at_call 118; refine h2.out.mono ?_; rintro e w' ⟨rfl, rfl⟩))
    go_ret
    exact ⟨ret_bool (by rw [hd.out]; simp), rfl⟩
set_option maxHeartbeats 1000000 in
theorem isWord_any (s : ByteArray) (w : World) : Calls Tryz.prog 110 #[.string s] w fun e w' => e = .returned (.bool (words.contains s.data.toList)) ∧ w = w' := by
  have HD : Hid (words.contains s.data.toList = words.any fun l => s.toList == l) := by
    show _ = _
    rw [Lib.toList_data, List.contains_eq_any_beq]
  go_enter Tryz.func110, Tryz.ntmps110
  go_wp2_with fail
  all_goals
    go_ret
    refine ⟨ret_bool ?_, rfl⟩
    rw [HD.out]
    first | (simp [words, *]; done) | (exfalso; simp_all; done)
end Go.Proofs.YtngimijiafnheaaGreat
