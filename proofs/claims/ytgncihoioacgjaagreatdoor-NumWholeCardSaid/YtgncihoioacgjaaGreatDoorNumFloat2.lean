import Ieee.Arith
import Derived.Test.YtgncihoioacgjaaGreatDoorNumFloat
namespace NumF
open Ieee

/-- The float of a whole number. -/
def N (n : Nat) : Nat := double.nearest false n 0

theorem dbl_frac : double.fractionBits = 52 := rfl

theorem log2_mul_pow (n k : Nat) (h : n ≠ 0) : (n * 2 ^ k).log2 = n.log2 + k := by
  induction k with
  | zero => simp
  | succ k ih =>
    have h2 : n * 2 ^ k ≠ 0 := Nat.mul_ne_zero h (by have := Nat.two_pow_pos k; omega)
    rw [Nat.pow_succ, ← Nat.mul_assoc, Nat.mul_comm (n * 2 ^ k) 2, Nat.log2_two_mul h2, ih]; omega

theorem log2_le (n : Nat) (h0 : n ≠ 0) (h : n < 9007199254740992) : n.log2 ≤ 52 := by
  have := (Nat.log2_lt h0 (k := 53)).2 (by simpa using h)
  omega
theorem pow_log2 (n : Nat) (h0 : n ≠ 0) : 2 ^ n.log2 ≤ n ∧ n < 2 ^ (n.log2 + 1) := ⟨Nat.log2_self_le h0, Nat.lt_log2_self⟩

/-- n times 2^(52 - log2 n). -/
def K (n : Nat) : Nat := n * 2 ^ (52 - n.log2)
theorem K_bounds (n : Nat) (h0 : n ≠ 0) (h : n < 9007199254740992) : 4503599627370496 ≤ K n ∧ K n < 9007199254740992 := by
  have hl := log2_le n h0 h
  obtain ⟨h1, h2⟩ := pow_log2 n h0
  have e1 : 2 ^ n.log2 * 2 ^ (52 - n.log2) = 4503599627370496 := by rw [← Nat.pow_add, show n.log2 + (52 - n.log2) = 52 by omega]
  have e2 : 2 ^ (n.log2 + 1) * 2 ^ (52 - n.log2) = 9007199254740992 := by rw [← Nat.pow_add, show n.log2 + 1 + (52 - n.log2) = 53 by omega]
  have p := Nat.two_pow_pos (52 - n.log2)
  unfold K
  exact ⟨e1 ▸ Nat.mul_le_mul_right _ h1, e2 ▸ Nat.mul_lt_mul_of_pos_right h2 p⟩

theorem cut_exact (v d : Nat) : Toward.even.cut false (v * 2 ^ d) d = v := by
  unfold Toward.cut
  by_cases hv : v = 0
  · subst hv; simp
  have e : min d ((v * 2 ^ d).log2 + 2) = d := by rw [log2_mul_pow v d hv]; omega
  simp only [e, Nat.shiftLeft_eq, Nat.one_mul]
  have p := Nat.two_pow_pos d
  rw [Nat.mul_div_cancel _ p, Nat.mul_mod_left]
  have h1 : (decide (2 ^ d < 2 * 0)) = false := by simp
  have h2 : ((2 ^ d == 2 * 0) : Bool) = false := by rw [beq_eq_false_iff_ne]; omega
  rw [h1, h2]; simp

theorem nearest_int (n k : Nat) (h0 : n ≠ 0) (h : n < 9007199254740992) : double.nearest false (n * 2 ^ k) (-(k : Int)) = (1022 + n.log2) * 4503599627370496 + K n := by
  have hl := log2_le n h0 h
  have hb := K_bounds n h0 h
  have hm : n * 2 ^ k ≠ 0 := Nat.mul_ne_zero h0 (by have := Nat.two_pow_pos k; omega)
  unfold Format.nearest
  rw [if_neg hm]
  simp only [log2_mul_pow n k h0, double_least, dbl_frac]
  have e1 : max (-(k : Int) + ((n.log2 + k : Nat) : Int) - ((52 : Nat) : Int)) (-1074) = (n.log2 : Int) - 52 := by omega
  rw [e1]
  have e2 : Toward.even.cut false ((n * 2 ^ k) <<< (-(k : Int) - ((n.log2 : Int) - 52)).toNat) (((n.log2 : Int) - 52) - -(k : Int)).toNat = K n := by
    by_cases hk : k ≤ 52 - n.log2
    · have a1 : (-(k : Int) - ((n.log2 : Int) - 52)).toNat = 52 - n.log2 - k := by omega
      have a2 : (((n.log2 : Int) - 52) - -(k : Int)).toNat = 0 := by omega
      rw [a1, a2, Nat.shiftLeft_eq, Nat.mul_assoc, ← Nat.pow_add, show k + (52 - n.log2 - k) = 52 - n.log2 by omega]
      have := cut_exact (K n) 0
      simpa [K] using this
    · have a1 : (-(k : Int) - ((n.log2 : Int) - 52)).toNat = 0 := by omega
      have a2 : (((n.log2 : Int) - 52) - -(k : Int)).toNat = k - (52 - n.log2) := by omega
      rw [a1, a2, Nat.shiftLeft_eq, Nat.pow_zero, Nat.mul_one]
      have e : n * 2 ^ k = K n * 2 ^ (k - (52 - n.log2)) := by
        unfold K; rw [Nat.mul_assoc, ← Nat.pow_add, show 52 - n.log2 + (k - (52 - n.log2)) = k by omega]
      rw [e]; exact cut_exact _ _
  rw [e2]
  have e3 : ((n.log2 : Int) - 52 - -1074).toNat = 1022 + n.log2 := by omega
  rw [e3, double_binade, double_infRung]
  unfold Format.word
  simp only [Bool.false_eq_true, if_false]
  omega
theorem YtgncihoioacgjaaGreatDooreq (n : Nat) (h0 : n ≠ 0) (h : n < 9007199254740992) : N n = (1022 + n.log2) * 4503599627370496 + K n := by
  have := nearest_int n 0 h0 h
  simpa [N] using this
theorem YtgncihoioacgjaaGreatDoorzero : N 0 = 0 := by decide
theorem nearest_scale (n k : Nat) (h : n < 9007199254740992) : double.nearest false (n * 2 ^ k) (-(k : Int)) = N n := by
  by_cases h0 : n = 0
  · subst h0
    rw [Nat.zero_mul, YtgncihoioacgjaaGreatDoorzero]
    unfold Format.nearest Format.word
    simp
  · rw [nearest_int n k h0 h, YtgncihoioacgjaaGreatDooreq n h0 h]
theorem read_zero : double.read 0 = .number false 0 (-1074) := by decide
theorem read_N (n : Nat) (h : n < 9007199254740992) : ∃ k : Nat, double.read (N n) = .number false (n * 2 ^ k) (-(k : Int)) := by
  by_cases h0 : n = 0
  · subst h0
    obtain ⟨k, hk⟩ : ∃ k : Nat, k = 1074 := ⟨_, rfl⟩
    refine ⟨k, ?_⟩
    rw [YtgncihoioacgjaaGreatDoorzero, Nat.zero_mul, read_zero, hk]; rfl
  · have hb := K_bounds n h0 h
    have hl := log2_le n h0 h
    refine ⟨52 - n.log2, ?_⟩
    rw [YtgncihoioacgjaaGreatDooreq n h0 h]
    unfold Format.read
    simp only [double_binade, double_infRung, double_sign, double_least]
    have e1 : ((1022 + n.log2) * 4503599627370496 + K n) / 9223372036854775808 = 0 := by omega
    have e2 : ((1022 + n.log2) * 4503599627370496 + K n) % 9223372036854775808 = (1022 + n.log2) * 4503599627370496 + K n := by omega
    rw [e1, e2, if_neg (by omega), if_pos (by omega)]
    have e3 : 4503599627370496 + ((1022 + n.log2) * 4503599627370496 + K n) % 4503599627370496 = K n := by omega
    have e4 : ((1022 + n.log2) * 4503599627370496 + K n) / 4503599627370496 - 1 = 1022 + n.log2 := by omega
    rw [e3, e4]
    have e5 : (-1074 : Int) + ((1022 + n.log2 : Nat) : Int) = -((52 - n.log2 : Nat) : Int) := by omega
    rw [e5]; rfl
theorem YtgncihoioacgjaaGreatDooradd (a b : Nat) (h : a + b < 9007199254740992) : double.add (N a) (N b) = some (N (a + b)) := by
  obtain ⟨i, ha⟩ := read_N a (by omega)
  obtain ⟨j, hb⟩ := read_N b (by omega)
  unfold Format.add
  rw [ha, hb]
  simp only [Datum.sum, Option.map_some, Format.write]
  have e1 : min (-(i : Int)) (-(j : Int)) = -((max i j : Nat) : Int) := by omega
  rw [e1]
  have e2 : (-(i : Int) - -((max i j : Nat) : Int)).toNat = max i j - i := by omega
  have e3 : (-(j : Int) - -((max i j : Nat) : Int)).toNat = max i j - j := by omega
  rw [e2, e3]
  have e4 : signed false (a * 2 ^ i) (max i j - i) + signed false (b * 2 ^ j) (max i j - j) = (((a + b) * 2 ^ (max i j) : Nat) : Int) := by
    simp only [signed, Bool.false_eq_true, if_false, Nat.shiftLeft_eq]
    rw [Nat.mul_assoc, ← Nat.pow_add, Nat.mul_assoc, ← Nat.pow_add, show i + (max i j - i) = max i j by omega, show j + (max i j - j) = max i j by omega, ← Int.natCast_add, ← Nat.add_mul]
  rw [e4]
  have e5 : (if (((a + b) * 2 ^ (max i j) : Nat) : Int) = 0 then (false && false) else decide ((((a + b) * 2 ^ (max i j) : Nat) : Int) < 0)) = false := by
    split
    · rfl
    · exact decide_eq_false (by omega)
  rw [e5, Int.natAbs_natCast]
  rw [nearest_scale (a + b) (max i j) h]
theorem YtgncihoioacgjaaGreatDoormul (a b : Nat) (ha' : a < 9007199254740992) (hb' : b < 9007199254740992) (h : a * b < 9007199254740992) : double.mul (N a) (N b) = some (N (a * b)) := by
  obtain ⟨i, ha⟩ := read_N a ha'
  obtain ⟨j, hb⟩ := read_N b hb'
  unfold Format.mul
  rw [ha, hb]
  simp only [Datum.product, Option.map_some, Format.write, Bool.false_bne]
  have e : a * 2 ^ i * (b * 2 ^ j) = a * b * 2 ^ (i + j) := by rw [Nat.pow_add]; ac_rfl
  have e2 : -(i : Int) + -(j : Int) = -((i + j : Nat) : Int) := by omega
  rw [e, e2, nearest_scale (a * b) (i + j) h]
/-- An exact quotient. -/
theorem YtgncihoioacgjaaGreatDoordiv (a t : Nat) (ht : t ≠ 0) (ht' : t < 9007199254740992) (ha : a < 9007199254740992) (h : a * t < 9007199254740992) : double.div (N (a * t)) (N t) = some (N a) := by
  obtain ⟨i, e1⟩ := read_N (a * t) h
  obtain ⟨j, e2⟩ := read_N t ht'
  unfold Format.div
  rw [e1, e2]
  have p1 := Nat.two_pow_pos j
  have hn : t * 2 ^ j ≠ 0 := Nat.mul_ne_zero ht (by omega)
  simp only [Datum.quotient, hn, if_false, dbl_frac, Bool.false_bne]
  generalize hmore : 52 + 2 + (t * 2 ^ j).log2 - (a * t * 2 ^ i).log2 = more
  by_cases ha0 : a = 0
  · subst ha0
    have z : (0 * t * 2 ^ i) <<< more = 0 := by simp [Nat.shiftLeft_eq]
    rw [z]
    simp only [Nat.zero_div, Nat.zero_mod, Option.map_some, Format.write]
    rw [YtgncihoioacgjaaGreatDoorzero]
    unfold Format.nearest Format.word
    simp
  · have hat : a * t ≠ 0 := Nat.mul_ne_zero ha0 ht
    rw [log2_mul_pow t j ht, log2_mul_pow (a * t) i hat] at hmore
    have hl := log2_le (a * t) hat h
    have hq : j ≤ i + more := by omega
    have z : (a * t * 2 ^ i) <<< more = a * 2 ^ (i + more - j) * (t * 2 ^ j) := by
      rw [Nat.shiftLeft_eq, Nat.mul_assoc (a * t), ← Nat.pow_add]
      have : 2 ^ (i + more) = 2 ^ (i + more - j) * 2 ^ j := by rw [← Nat.pow_add, show i + more - j + j = i + more by omega]
      rw [this]; ac_rfl
    rw [z, Nat.mul_div_cancel _ (Nat.pos_of_ne_zero hn), Nat.mul_mod_left]
    simp only [Option.map_some, Format.write]
    have w1 : 2 * (a * 2 ^ (i + more - j)) + (0 != 0 : Bool).toNat = a * 2 ^ (i + more - j + 1) := by
      rw [Nat.pow_succ]; simp; ac_rfl
    have w2 : -(i : Int) - -(j : Int) - (more : Int) - 1 = -((i + more - j + 1 : Nat) : Int) := by omega
    rw [w1, w2, nearest_scale a _ ha]
theorem N10 : N 10 = 4621819117588971520 := by decide
theorem N100 : N 100 = 4636737291354636288 := by decide
end NumF
