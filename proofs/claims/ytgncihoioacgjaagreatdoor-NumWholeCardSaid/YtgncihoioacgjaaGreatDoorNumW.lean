import Derived.Test.YtgncihoioacgjaaGreatDoorNumV
import Derived.LoopTactic
namespace Go.Proofs.YtgncihoioacgjaaGreatDoor
open Go.Instr Go.RowKit NumF
set_option linter.unusedVariables false
set_option maxHeartbeats 1000000
theorem dg_nat (n : Nat) : (dg n).toNat = 48 + n % 10 := by
  unfold dg
  have : 48 + n % 10 < 256 := by omega
  simp [Nat.toUInt8, UInt8.ofNat, UInt8.toNat]; omega
theorem D_digit (k n : Nat) : ∀ c ∈ D k n, 48 ≤ c.toNat ∧ c.toNat ≤ 57 := by
  induction k generalizing n with
  | zero => intro c hc; simp [D] at hc; subst hc; rw [dg_nat]; omega
  | succ k ih =>
    intro c hc
    unfold D at hc
    split at hc
    · simp at hc; subst hc; rw [dg_nat]; omega
    · rcases List.mem_append.1 hc with h | h
      · exact ih _ c h
      · simp at h; subst h; rw [dg_nat]; omega
def V10 (l : List UInt8) : Nat := l.foldl (fun v c => 10 * v + (c.toNat - 48)) 0
theorem V10_snoc (l : List UInt8) (c : UInt8) : V10 (l ++ [c]) = 10 * V10 l + (c.toNat - 48) := by simp [V10]
theorem D_val (k n : Nat) (h : n < 10 ^ (k + 1)) : V10 (D k n) = n := by
  induction k generalizing n with
  | zero => simp [D, V10, dg_nat]; simp at h; omega
  | succ k ih =>
    unfold D
    split
    · simp [V10, dg_nat]; omega
    · rw [V10_snoc, ih _ (by rw [Nat.pow_succ] at h; omega), dg_nat]; omega
theorem D_zero (k : Nat) : D k 0 = [48] := by cases k <;> rfl
theorem D_pos (k n : Nat) : 0 < (D k n).length := by
  cases k with
  | zero => simp [D]
  | succ k => unfold D; split <;> simp
theorem D_head (k n : Nat) (h : n < 10 ^ (k + 1)) (h0 : n ≠ 0) : ∃ c r, D k n = c :: r ∧ 49 ≤ c.toNat ∧ c.toNat ≤ 57 := by
  induction k generalizing n with
  | zero => simp at h; exact ⟨_, _, rfl, by rw [dg_nat]; omega, by rw [dg_nat]; omega⟩
  | succ k ih =>
    unfold D
    split
    · exact ⟨_, _, rfl, by rw [dg_nat]; omega, by rw [dg_nat]; omega⟩
    · obtain ⟨c, r, e, h1, h2⟩ := ih (n / 10) (by rw [Nat.pow_succ] at h; omega) (by omega)
      rw [e]
      exact ⟨c, r ++ [dg n], rfl, h1, h2⟩
theorem isDigits_any (s : ByteArray) (hpos : 0 < s.size) (hm : s.size ≤ 9223372036854775807) (hd : ∀ (k : Nat) (h : k < s.size), 48 ≤ s[k].toNat ∧ s[k].toNat ≤ 57) (w : World) :
    Calls Tryz.prog 43 #[.string s] w fun e w' => e = .returned (.bool true) ∧ w = w' := by
  have HD := Lib.hid hd
  clear hd
  have hne : s.toList.isEmpty = false := by
    rw [Lib.toList_data]
    cases h : s.data.toList with
    | nil => have : s.data.toList.length = s.size := Array.length_toList; rw [h] at this; simp at this; omega
    | cons => rfl
  go_enter Tryz.func43, Tryz.ntmps43
  go_wp2
  go_loop [6] (fun i => ∃ k : Nat, k ≤ s.size ∧ i = .int .i64 k) (fun i => s.size - (intOf i).toNat)
  case atStart => exact ⟨0, by omega, rfl⟩
  case round =>
    obtain ⟨k, hk, rfl⟩ := hrel
    by_cases hlt : k < s.size
    · obtain ⟨h1, h2⟩ := HD.out k hlt
      have g1 : ¬ ((s[k].toNat : Int) < 48) := by omega
      have g2 : ¬ ((57 : Int) < (s[k].toNat : Int)) := by omega
      go_wp2
      go_round
      case rel => exact ⟨k + 1, by omega, by go_num⟩
      case measure => simp [intOf]; omega
    · go_wp2
      go_ret
      exact ⟨rfl, rfl⟩
theorem isWhole_any (s : ByteArray) (hpos : 0 < s.size) (hm : s.size ≤ 9223372036854775807) (hd : ∀ (k : Nat) (h : k < s.size), 48 ≤ s[k].toNat ∧ s[k].toNat ≤ 57) (h0 : 49 ≤ s[0].toNat ∨ s.size = 1) (w : World) :
    Calls Tryz.prog 39 #[.string s] w fun e w' => e = .returned (.bool true) ∧ w = w' := by
  have c := Lib.hid (isDigits_any s hpos hm hd)
  clear hd
  have hp : (0 : Int) < (s.size : Int) := by omega
  by_cases h1 : 49 ≤ s[0].toNat
  · have g1 : ((s[0].toNat : Int) != 48) = true := by rw [bne_iff_ne]; omega
    go_enter Tryz.func39, Tryz.ntmps39
    go_wp2_with (first | (go_at_call 43; refine (c.out _).mono ?_; rintro e w' ⟨rfl, rfl⟩))
    go_ret
    exact ⟨rfl, rfl⟩
  · have h2 : s.size = 1 := by omega
    have g2 : ((s.size : Int) == 1) = true := by rw [beq_iff_eq]; omega
    clear h0
    cases g1 : ((s[0].toNat : Int) != 48)
    all_goals
      go_enter Tryz.func39, Tryz.ntmps39
      go_wp2_with (first | (go_at_call 43; refine (c.out _).mono ?_; rintro e w' ⟨rfl, rfl⟩))
      go_ret
      exact ⟨rfl, rfl⟩
end Go.Proofs.YtgncihoioacgjaaGreatDoor
