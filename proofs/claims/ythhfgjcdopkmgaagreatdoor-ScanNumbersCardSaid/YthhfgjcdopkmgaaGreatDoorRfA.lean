/- The document's own scanner: letters, digits, and how far they go. -/
import Derived.Test.YthhfgjcdopkmgaaGreatDoorScnF
set_option maxRecDepth 100000
namespace ScnT
open Go Go.RowKit
/-- How far a kind of byte goes from a place on. -/
def tw (p : UInt8 → Bool) (S : ByteArray) (a : Nat) : Nat := ((restB S a).takeWhile p).length
theorem tw_list (p : UInt8 → Bool) (l : Bs) : (l.takeWhile p).length ≤ l.length := by
  induction l with
  | nil => simp
  | cons c l ih => rw [List.takeWhile_cons]; split <;> simp; omega
theorem tw_le (p : UInt8 → Bool) (S : ByteArray) (a : Nat) : tw p S a ≤ S.size - a := by
  have := tw_list p (restB S a)
  rw [rest_len] at this
  exact this
theorem tw_in {p : UInt8 → Bool} {S : ByteArray} {a : Nat} (i : Nat) (h : i < tw p S a) : ∃ hlt : a + i < S.size, p S[a + i] = true := by
  induction i generalizing a with
  | zero =>
    have hl := tw_le p S a
    have hlt : a < S.size := by omega
    refine ⟨hlt, ?_⟩
    unfold tw at h
    rw [rest_get S a hlt, List.takeWhile_cons] at h
    cases hp : p S[a]
    · rw [hp] at h; simp at h
    · rfl
  | succ i ih =>
    have hl := tw_le p S a
    have hlt : a < S.size := by omega
    have h2 : i < tw p S (a + 1) := by
      unfold tw at h ⊢
      rw [rest_get S a hlt, List.takeWhile_cons] at h
      cases hp : p S[a]
      · rw [hp] at h; simp at h
      · rw [hp] at h; simpa using h
    obtain ⟨h3, h4⟩ := ih h2
    have e : a + 1 + i = a + (i + 1) := by omega
    refine ⟨by omega, ?_⟩
    simp only [e] at h4
    exact h4
theorem tw_out {p : UInt8 → Bool} {S : ByteArray} (n : Nat) : ∀ a, n = tw p S a → (hlt : a + n < S.size) → p S[a + n] = false := by
  induction n with
  | zero =>
    intro a hn hlt
    unfold tw at hn
    have hlt' : a < S.size := by omega
    rw [rest_get S a hlt', List.takeWhile_cons] at hn
    rcases Bool.eq_false_or_eq_true (p S[a]) with hp | hp
    · rw [hp] at hn; simp at hn
    · exact hp
  | succ n ih =>
    intro a hn hlt
    have hlt' : a < S.size := by omega
    unfold tw at hn
    rw [rest_get S a hlt', List.takeWhile_cons] at hn
    cases hp : p S[a]
    · rw [hp] at hn; simp at hn
    · rw [hp] at hn
      have e : a + 1 + n = a + (n + 1) := by omega
      have := ih (a + 1) (by unfold tw; simpa using hn) (by omega)
      simp only [e] at this
      exact this
theorem tw_at {p : UInt8 → Bool} {S : ByteArray} {a j : Nat} (h1 : a ≤ j) (h2 : j < a + tw p S a) : ∃ hlt : j < S.size, p S[j] = true := by
  obtain ⟨i, rfl⟩ : ∃ i, j = a + i := ⟨j - a, by omega⟩
  exact tw_in i (by omega)
theorem tw_end {p : UInt8 → Bool} {S : ByteArray} {a j : Nat} (h : j = a + tw p S a) (hlt : j < S.size) : p S[j] = false := by
  subst h
  exact tw_out _ a rfl hlt
theorem ld_eq (c : UInt8) : isLd c = (isLt c || isDg c) := rfl
end ScnT
namespace Go.Proofs.YthhfgjcdopkmgaaGreatDoor
open Go.Instr Go.RowKit ScnT
set_option linter.unusedVariables false
set_option linter.unusedSimpArgs false
theorem ret_i64 {a b : Int} (h : a = b) : Ending.returned (.int .i64 a) = .returned (.int .i64 b) := by rw [h]
theorem rfDigit_any (c : UInt8) (w : World) : Calls Tryz.prog 59 #[.int .u8 c.toNat] w fun e w' => e = .returned (.bool (isDg c)) ∧ w = w' := by
  have hlt := c.toNat_lt
  have hd := Lib.hid (dg_eq c)
  generalize c.toNat = n at *
  by_cases h1 : 48 ≤ n <;> by_cases h2 : n ≤ 57
  all_goals try omega
  all_goals
    obtain ⟨b, e⟩ : ∃ b : Bool, Hid (isDg c = b) := ⟨_, rfl⟩
    have eb := e.out
    rw [hd.out] at eb
    simp [h1, h2] at eb
    subst eb
    go_enter Tryz.func59, Tryz.ntmps59
    go_wp2_with fail
    go_ret
    exact ⟨ret_bool (by rw [e.out] <;> first | rfl | (simp; done) | (simp; omega)), rfl⟩
theorem rfLetter_any (c : UInt8) (w : World) : Calls Tryz.prog 54 #[.int .u8 c.toNat] w fun e w' => e = .returned (.bool (isLt c)) ∧ w = w' := by
  have hlt := c.toNat_lt
  have hd := Lib.hid (lt_eq c)
  generalize c.toNat = n at *
  by_cases h1 : 97 ≤ n <;> by_cases h2 : n ≤ 122 <;> by_cases h3 : 65 ≤ n <;> by_cases h4 : n ≤ 90 <;> by_cases h5 : n = 95
  all_goals try omega
  all_goals
    obtain ⟨b, e⟩ : ∃ b : Bool, Hid (isLt c = b) := ⟨_, rfl⟩
    have eb := e.out
    rw [hd.out] at eb
    simp [h1, h2, h3, h4, h5] at eb
    subst eb
    go_enter Tryz.func54, Tryz.ntmps54
    go_wp2_with fail
    go_ret
    exact ⟨ret_bool (by rw [e.out] <;> first | rfl | (simp; done) | (simp; omega)), rfl⟩
set_option maxHeartbeats 2000000 in
theorem rfDigits_any (S : ByteArray) (a : Nat) (w : World) (hS : S.size ≤ 100000) (ha : a ≤ S.size) : Calls Tryz.prog 119 #[.string S, .int .i64 a] w fun e w' => e = .returned (.int .i64 ((a + tw isDg S a : Nat) : Int)) ∧ w = w' := by
  have HL := Lib.hid (tw_le isDg S a)
  go_enter Tryz.func119, Tryz.ntmps119
  go_wp2_with fail
  go_loop [1] (fun v => ∃ j : Nat, a ≤ j ∧ j ≤ a + tw isDg S a ∧ v = .int .i64 j) (fun v => S.size - (intOf v).toNat)
  case atStart => exact ⟨a, by omega, by omega, rfl⟩
  case round =>
    obtain ⟨j, hj0, hj, rfl⟩ := hrel
    have hl := HL.out
    have j0 : (0 : Int) ≤ (j : Int) := by omega
    by_cases h : j < a + tw isDg S a
    · obtain ⟨hlt, hp⟩ := tw_at hj0 h
      have t1 : (j : Int) < (S.size : Int) := by omega
      have HD : Hid (∀ w, Calls Tryz.prog 59 #[.int .u8 (S[j].toNat : Int)] w fun e w' => e = .returned (.bool (isDg S[j])) ∧ w = w') := fun w => rfDigit_any _ w
      rw [hp] at HD
      clear hp
      go_wp2_with (go_at_call 59; refine (HD.out _).mono ?_; rintro e w' ⟨rfl, rfl⟩)
      go_round
      case rel => exact ⟨j + 1, by omega, by omega, by go_num⟩
      case measure => simp [intOf]; omega
    · have he : j = a + tw isDg S a := by omega
      by_cases hlt : j < S.size
      · have hp := tw_end he hlt
        have t1 : (j : Int) < (S.size : Int) := by omega
        have HE := Lib.hid he
        clear he h
        have HD : Hid (∀ w, Calls Tryz.prog 59 #[.int .u8 (S[j].toNat : Int)] w fun e w' => e = .returned (.bool (isDg S[j])) ∧ w = w') := fun w => rfDigit_any _ w
        rw [hp] at HD
        clear hp
        go_wp2_with (go_at_call 59; refine (HD.out _).mono ?_; rintro e w' ⟨rfl, rfl⟩)
        go_ret
        exact ⟨ret_i64 (by have := HE.out; omega), rfl⟩
      · have t1 : ¬ ((j : Int) < (S.size : Int)) := by omega
        have HE := Lib.hid he
        clear he h
        go_wp2_with fail
        go_ret
        exact ⟨ret_i64 (by have := HE.out; omega), rfl⟩
set_option maxHeartbeats 2000000 in
theorem rfRun_any (S : ByteArray) (a : Nat) (w : World) (hS : S.size ≤ 100000) (ha : a ≤ S.size) : Calls Tryz.prog 55 #[.string S, .int .i64 a] w fun e w' => e = .returned (.int .i64 ((a + tw isLd S a : Nat) : Int)) ∧ w = w' := by
  have HL := Lib.hid (tw_le isLd S a)
  go_enter Tryz.func55, Tryz.ntmps55
  go_wp2_with fail
  go_loop [1] (fun v => ∃ j : Nat, a ≤ j ∧ j ≤ a + tw isLd S a ∧ v = .int .i64 j) (fun v => S.size - (intOf v).toNat)
  case atStart => exact ⟨a, by omega, by omega, rfl⟩
  case round =>
    obtain ⟨j, hj0, hj, rfl⟩ := hrel
    have hl := HL.out
    have j0 : (0 : Int) ≤ (j : Int) := by omega
    by_cases h : j < a + tw isLd S a
    · obtain ⟨hlt, hp⟩ := tw_at hj0 h
      have t1 : (j : Int) < (S.size : Int) := by omega
      have HD : Hid (∀ w, Calls Tryz.prog 59 #[.int .u8 (S[j].toNat : Int)] w fun e w' => e = .returned (.bool (isDg S[j])) ∧ w = w') := fun w => rfDigit_any _ w
      have HLt : Hid (∀ w, Calls Tryz.prog 54 #[.int .u8 (S[j].toNat : Int)] w fun e w' => e = .returned (.bool (isLt S[j])) ∧ w = w') := fun w => rfLetter_any _ w
      rw [ld_eq] at hp
      cases hlt2 : isLt S[j]
      · have hd : isDg S[j] = true := by rw [hlt2] at hp; simpa using hp
        rw [hlt2] at HLt
        rw [hd] at HD
        clear hp hlt2 hd
        go_wp2_with (first | (go_at_call 54; refine (HLt.out _).mono ?_; rintro e w' ⟨rfl, rfl⟩) | (go_at_call 59; refine (HD.out _).mono ?_; rintro e w' ⟨rfl, rfl⟩))
        go_round
        case rel => exact ⟨j + 1, by omega, by omega, by go_num⟩
        case measure => simp [intOf]; omega
      · rw [hlt2] at HLt
        clear hp hlt2
        go_wp2_with (first | (go_at_call 54; refine (HLt.out _).mono ?_; rintro e w' ⟨rfl, rfl⟩) | (go_at_call 59; refine (HD.out _).mono ?_; rintro e w' ⟨rfl, rfl⟩))
        go_round
        case rel => exact ⟨j + 1, by omega, by omega, by go_num⟩
        case measure => simp [intOf]; omega
    · have he : j = a + tw isLd S a := by omega
      by_cases hlt : j < S.size
      · have hp := tw_end he hlt
        have t1 : (j : Int) < (S.size : Int) := by omega
        have HE := Lib.hid he
        clear he h
        have HD : Hid (∀ w, Calls Tryz.prog 59 #[.int .u8 (S[j].toNat : Int)] w fun e w' => e = .returned (.bool (isDg S[j])) ∧ w = w') := fun w => rfDigit_any _ w
        have HLt : Hid (∀ w, Calls Tryz.prog 54 #[.int .u8 (S[j].toNat : Int)] w fun e w' => e = .returned (.bool (isLt S[j])) ∧ w = w') := fun w => rfLetter_any _ w
        rw [ld_eq, Bool.or_eq_false_iff] at hp
        rw [hp.1] at HLt
        rw [hp.2] at HD
        clear hp
        go_wp2_with (first | (go_at_call 54; refine (HLt.out _).mono ?_; rintro e w' ⟨rfl, rfl⟩) | (go_at_call 59; refine (HD.out _).mono ?_; rintro e w' ⟨rfl, rfl⟩))
        go_ret
        exact ⟨ret_i64 (by have := HE.out; omega), rfl⟩
      · have t1 : ¬ ((j : Int) < (S.size : Int)) := by omega
        have HE := Lib.hid he
        clear he h
        go_wp2_with fail
        go_ret
        exact ⟨ret_i64 (by have := HE.out; omega), rfl⟩
end Go.Proofs.YthhfgjcdopkmgaaGreatDoor
