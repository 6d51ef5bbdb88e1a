import Derived.Test.YtgncihoioacgjaaGreatDoorNumZ
import Derived.Test.YtgncihoioacgjaaGreatDoorNumShelf
import Derived.Laws.MathBits
namespace Go.Proofs.YtgncihoioacgjaaGreatDoor
open Go.Instr Go.RowKit NumF
set_option linter.unusedVariables false
set_option maxHeartbeats 1000000
theorem mul_h10 (t : Nat) (h : t < 1844674407370955162) (w : World) : Calls Tryz.prog 131 #[.int .u64 ((t * 10 : Nat) : Int), .int .u64 14757395258967641293] w fun e w' => e = .returned (.tuple #[.int .u64 ((t * 8 : Nat) : Int), .int .u64 ((t * 2 : Nat) : Int)]) ∧ w = w' := by
  refine (Tryz.bits_Mul64 (t * 10) 14757395258967641293 (by omega) (by omega) w).mono ?_
  rintro e w' ⟨rfl, rfl⟩
  have e1 : t * 10 * 14757395258967641293 / 18446744073709551616 = t * 8 := by omega
  have e2 : t * 10 * 14757395258967641293 % 18446744073709551616 = t * 2 := by omega
  rw [e1, e2]; exact ⟨rfl, rfl⟩
theorem mul_l10 (t : Nat) (h0 : 1 ≤ t) (h : t < 1844674407370955162) (w : World) : Calls Tryz.prog 131 #[.int .u64 ((t * 10 : Nat) : Int), .int .u64 3689348814741910323] w fun e w' => e = .returned (.tuple #[.int .u64 ((t * 2 - 1 : Nat) : Int), .int .u64 ((18446744073709551616 - t * 2 : Nat) : Int)]) ∧ w = w' := by
  refine (Tryz.bits_Mul64 (t * 10) 3689348814741910323 (by omega) (by omega) w).mono ?_
  rintro e w' ⟨rfl, rfl⟩
  have e1 : t * 10 * 3689348814741910323 / 18446744073709551616 = t * 2 - 1 := by omega
  have e2 : t * 10 * 3689348814741910323 % 18446744073709551616 = 18446744073709551616 - t * 2 := by omega
  rw [e1, e2]; exact ⟨rfl, rfl⟩
theorem mul_h100 (t : Nat) (h : t < 184467440737095516) (w : World) : Calls Tryz.prog 131 #[.int .u64 ((t * 100 : Nat) : Int), .int .u64 11805916207174113035] w fun e w' => e = .returned (.tuple #[.int .u64 ((t * 64 : Nat) : Int), .int .u64 ((t * 76 : Nat) : Int)]) ∧ w = w' := by
  refine (Tryz.bits_Mul64 (t * 100) 11805916207174113035 (by omega) (by omega) w).mono ?_
  rintro e w' ⟨rfl, rfl⟩
  have e1 : t * 100 * 11805916207174113035 / 18446744073709551616 = t * 64 := by omega
  have e2 : t * 100 * 11805916207174113035 % 18446744073709551616 = t * 76 := by omega
  rw [e1, e2]; exact ⟨rfl, rfl⟩
theorem mul_l100 (t : Nat) (h0 : 1 ≤ t) (h : t < 184467440737095516) (w : World) : Calls Tryz.prog 131 #[.int .u64 ((t * 100 : Nat) : Int), .int .u64 14019525496019259228] w fun e w' => e = .returned (.tuple #[.int .u64 ((t * 76 - 1 : Nat) : Int), .int .u64 ((18446744073709551616 - t * 16 : Nat) : Int)]) ∧ w = w' := by
  refine (Tryz.bits_Mul64 (t * 100) 14019525496019259228 (by omega) (by omega) w).mono ?_
  rintro e w' ⟨rfl, rfl⟩
  have e1 : t * 100 * 14019525496019259228 / 18446744073709551616 = t * 76 - 1 := by omega
  have e2 : t * 100 * 14019525496019259228 % 18446744073709551616 = 18446744073709551616 - t * 16 := by omega
  rw [e1, e2]; exact ⟨rfl, rfl⟩
theorem pre_cells (w : World) (P Q : Int) : (pre1 w P Q).cell? ⟨w.heap.size, 0, none⟩ = some (.int .u64 P) ∧ (pre1 w P Q).cell? ⟨w.heap.size, 1, none⟩ = some (.int .u64 Q) ∧ (pre1 w P Q).cell? ⟨w.heap.size, 2, none⟩ = some (.int .i64 8) := by
  unfold pre1
  refine ⟨?_, ?_, ?_⟩ <;> (rw [World.cell?_alloc_new]; rfl)
theorem uscale_10 (V : Nat) (h0 : 1 ≤ V) (h : V < 18014398509481984) (hV : V * 1280 < 18446744073709551616) (w : World) :
    Calls Tryz.prog 119 #[.int .u64 ((V * 1280 : Nat) : Int), .pointer (some ⟨w.heap.size, 0, none⟩)] (pre1 w 14757395258967641293 3689348814741910323) fun e w' => e = .returned (.int .u64 ((V : Int) * 4)) ∧ ∃ n, w' = (pre1 w 14757395258967641293 3689348814741910323).drewN n := by
  obtain ⟨c0, c1, c2⟩ := pre_cells w 14757395258967641293 3689348814741910323
  have e : V * 1280 = (V * 128) * 10 := by omega
  rw [e]
  exact uscale_whole w.heap.size _ _ _ _ _ _ _ _ _ c0 c1 c2 (mul_h10 (V * 128) (by omega)) (mul_l10 (V * 128) (by omega) (by omega)) (by omega) (by omega) (by omega) (by omega) (by omega) (by omega) (by omega)
theorem uscale_100 (V : Nat) (h0 : 1 ≤ V) (h : V < 18014398509481984) (hV : V * 1600 < 18446744073709551616) (w : World) :
    Calls Tryz.prog 119 #[.int .u64 ((V * 1600 : Nat) : Int), .pointer (some ⟨w.heap.size, 0, none⟩)] (pre1 w 11805916207174113035 14019525496019259228) fun e w' => e = .returned (.int .u64 ((V : Int) * 4)) ∧ ∃ n, w' = (pre1 w 11805916207174113035 14019525496019259228).drewN n := by
  obtain ⟨c0, c1, c2⟩ := pre_cells w 11805916207174113035 14019525496019259228
  have e : V * 1600 = (V * 16) * 100 := by omega
  rw [e]
  exact uscale_whole w.heap.size _ _ _ _ _ _ _ _ _ c0 c1 c2 (mul_h100 (V * 16) (by omega)) (mul_l100 (V * 16) (by omega) (by omega)) (by omega) (by omega) (by omega) (by omega) (by omega) (by omega) (by omega)
theorem mant_lo (a k : Nat) (h1 : 4503599627370496 ≤ a * 2 ^ k) (h2 : a * 2 ^ k < 9007199254740992) : N a = (1075 - k) * 4503599627370496 + (a * 2 ^ k - 4503599627370496) := by
  have h0 : a ≠ 0 := by rintro rfl; simp at h1
  have ha : a < 9007199254740992 := Nat.lt_of_le_of_lt (Nat.le_mul_of_pos_right a (Nat.two_pow_pos k)) h2
  have hl : (a * 2 ^ k).log2 = 52 := (Nat.log2_eq_iff (by omega)).2 ⟨h1, h2⟩
  rw [log2_mul_pow a k h0] at hl
  have hk : 52 - a.log2 = k := by omega
  have hK : K a = a * 2 ^ k := by unfold K; rw [hk]
  rw [YtgncihoioacgjaaGreatDooreq a h0 ha, hK]
  generalize a * 2 ^ k = V at *
  omega
theorem mant_hi (a k : Nat) (h1 : 9007199254740992 ≤ a * 2 ^ (k + 1)) (h2 : a * 2 ^ (k + 1) < 18014398509481984) : N a = (1075 - k) * 4503599627370496 + (a * 2 ^ k - 4503599627370496) := by
  refine mant_lo a k ?_ ?_ <;> (rw [Nat.pow_succ] at h1 h2; generalize 2 ^ k = q at *; have : a * (q * 2) = a * q * 2 := by rw [Nat.mul_assoc]
                                omega)
end Go.Proofs.YtgncihoioacgjaaGreatDoor
