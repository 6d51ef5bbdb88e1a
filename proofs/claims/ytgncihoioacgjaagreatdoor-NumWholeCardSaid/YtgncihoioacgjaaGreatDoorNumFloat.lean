import Ieee.Arith
/- The order of float64 words is the order of their places; sums and products hang on no order. -/
namespace NumF
open Ieee

/-- A magnitude in units of the least one, by its rung. -/
def V (r : Nat) : Nat := if r < 4503599627370496 then r else (4503599627370496 + r % 4503599627370496) * 2 ^ (r / 4503599627370496 - 1)

theorem V_low (r : Nat) (h : r < 4503599627370496) : V r = r := by simp [V, h]
theorem V_ge (r : Nat) (h : ¬ r < 4503599627370496) : 4503599627370496 * 2 ^ (r / 4503599627370496 - 1) ≤ V r := by
  simp only [V, h, if_false]
  exact Nat.mul_le_mul_right _ (by omega)
theorem V_lt (r : Nat) (h : ¬ r < 4503599627370496) : V r < 4503599627370496 * 2 ^ (r / 4503599627370496) := by
  simp only [V, h, if_false]
  have h1 : r / 4503599627370496 = (r / 4503599627370496 - 1) + 1 := by omega
  rw [h1, Nat.pow_succ, Nat.add_sub_cancel]
  have h2 : (4503599627370496 + r % 4503599627370496) < 4503599627370496 * 2 := by omega
  have h3 : 0 < 2 ^ (r / 4503599627370496 - 1) := Nat.two_pow_pos _
  calc (4503599627370496 + r % 4503599627370496) * 2 ^ (r / 4503599627370496 - 1)
      < (4503599627370496 * 2) * 2 ^ (r / 4503599627370496 - 1) := Nat.mul_lt_mul_of_pos_right h2 h3
    _ = 4503599627370496 * (2 ^ (r / 4503599627370496 - 1) * 2) := by rw [Nat.mul_assoc, Nat.mul_comm 2]

theorem V_mono {r s : Nat} (h : r < s) : V r < V s := by
  by_cases hs : s < 4503599627370496
  · rw [V_low s hs, V_low r (by omega)]; exact h
  · have p1 : 1 ≤ 2 ^ (s / 4503599627370496 - 1) := Nat.one_le_two_pow
    by_cases hr : r < 4503599627370496
    · rw [V_low r hr]
      have := V_ge s hs
      have : 4503599627370496 * 1 ≤ 4503599627370496 * 2 ^ (s / 4503599627370496 - 1) := Nat.mul_le_mul_left _ p1
      omega
    · by_cases hq : r / 4503599627370496 = s / 4503599627370496
      · simp only [V, hr, hs, if_false, hq]
        exact Nat.mul_lt_mul_of_pos_right (by omega) (by omega)
      · have hl : r / 4503599627370496 ≤ s / 4503599627370496 - 1 := by
          have : r / 4503599627370496 ≤ s / 4503599627370496 := Nat.div_le_div_right (by omega)
          omega
        have h1 := V_lt r hr
        have h2 := V_ge s hs
        have h3 : 2 ^ (r / 4503599627370496) ≤ 2 ^ (s / 4503599627370496 - 1) := Nat.pow_le_pow_right (by omega) hl
        have h4 := Nat.mul_le_mul_left 4503599627370496 h3
        omega

/-- The place of a word among all, both zeros at one. -/
def pl (b : Nat) : Int := if b < 9223372036854775808 then (b : Int) else - ((b : Int) - 9223372036854775808)
def isNan (b : Nat) : Bool := decide (9218868437227405312 < b % 9223372036854775808)

theorem double_binade : double.binade = 4503599627370496 := by decide
theorem double_infRung : double.infRung = 9218868437227405312 := by decide
theorem double_sign : double.signWeight = 9223372036854775808 := by decide
theorem double_least : double.leastPlace = -1074 := by decide

theorem read_num (b : Nat) (h : b % 9223372036854775808 < 9218868437227405312) :
    ∃ m i, double.read b = .number (b / 9223372036854775808 % 2 == 1) m (-1074 + (i : Nat)) ∧ m * 2 ^ i = V (b % 9223372036854775808) := by
  unfold Format.read
  simp only [double_binade, double_infRung, double_sign, double_least]
  by_cases h1 : b % 9223372036854775808 < 4503599627370496
  · simp only [h1, if_true]
    exact ⟨_, 0, rfl, by rw [V_low _ h1]; simp⟩
  · simp only [h1, if_false, h, if_true]
    exact ⟨_, _, rfl, by simp only [V, h1, if_false]⟩

theorem read_inf (b : Nat) (h : b % 9223372036854775808 = 9218868437227405312) : double.read b = .infinity (b / 9223372036854775808 % 2 == 1) := by
  unfold Format.read
  simp only [double_binade, double_infRung, double_sign, double_least, h]
  simp
theorem read_nan (b : Nat) (h : 9218868437227405312 < b % 9223372036854775808) : ∃ s f, double.read b = .nan s f := by
  unfold Format.read
  simp only [double_binade, double_infRung, double_sign, double_least]
  rw [if_neg (by omega), if_neg (by omega), if_neg (by omega)]
  exact ⟨_, _, rfl⟩

theorem compare_of_lt {a b : Int} (h : a < b) : compare a b = .lt := by
  show compareOfLessAndEq a b = .lt
  unfold compareOfLessAndEq; rw [if_pos h]
theorem compare_of_eq (a : Int) : compare a a = .eq := by
  show compareOfLessAndEq a a = .eq
  unfold compareOfLessAndEq; rw [if_neg (by omega), if_pos rfl]
theorem compare_of_gt {a b : Int} (h : b < a) : compare a b = .gt := by
  show compareOfLessAndEq a b = .gt
  unfold compareOfLessAndEq; rw [if_neg (by omega), if_neg (by omega)]
/-- Two pairs that stand alike compare alike. -/
theorem compare_alike {a b c d : Int} (h1 : a < b ↔ c < d) (h2 : b < a ↔ d < c) : compare a b = compare c d := by
  by_cases x : a < b
  · rw [compare_of_lt x, compare_of_lt (h1.1 x)]
  · by_cases y : b < a
    · rw [compare_of_gt y, compare_of_gt (h2.1 y)]
    · obtain rfl : a = b := by omega
      have : ¬ c < d := fun z => x (h1.2 z)
      have : ¬ d < c := fun z => y (h2.2 z)
      obtain rfl : c = d := by omega
      rw [compare_of_eq, compare_of_eq]

theorem signed_eq (s : Bool) (m k : Nat) : signed s m k = (if s then -1 else 1) * ((m * 2 ^ k : Nat) : Int) := by
  cases s <;> simp [signed, Nat.shiftLeft_eq]

theorem mul_lt_iff (a b k : Int) (hk : 0 < k) : a * k < b * k ↔ a < b :=
  ⟨fun h => Int.lt_of_mul_lt_mul_right h (by omega), fun h => Int.mul_lt_mul_of_pos_right h hk⟩

theorem order_num (s t : Bool) (m n i j : Nat) :
    Datum.order (.number s m (-1074 + (i : Int))) (.number t n (-1074 + (j : Int))) =
      some (compare ((if s then -1 else 1) * ((m * 2 ^ i : Nat) : Int)) ((if t then -1 else 1) * ((n * 2 ^ j : Nat) : Int))) := by
  simp only [Datum.order]
  congr 1
  simp only [signed_eq]
  have e1 : (min (-1074 + (i : Int)) (-1074 + (j : Int))) = -1074 + ((min i j : Nat) : Int) := by omega
  rw [e1]
  have e2 : (-1074 + (i : Int) - (-1074 + ((min i j : Nat) : Int))).toNat = i - min i j := by omega
  have e3 : (-1074 + (j : Int) - (-1074 + ((min i j : Nat) : Int))).toNat = j - min i j := by omega
  rw [e2, e3]
  have p : (0 : Int) < ((2 ^ (min i j) : Nat) : Int) := by have := Nat.two_pow_pos (min i j); omega
  have f1 : ((m * 2 ^ i : Nat) : Int) = ((m * 2 ^ (i - min i j) : Nat) : Int) * ((2 ^ (min i j) : Nat) : Int) := by
    rw [← Int.natCast_mul, Nat.mul_assoc, ← Nat.pow_add]; congr 3; omega
  have f2 : ((n * 2 ^ j : Nat) : Int) = ((n * 2 ^ (j - min i j) : Nat) : Int) * ((2 ^ (min i j) : Nat) : Int) := by
    rw [← Int.natCast_mul, Nat.mul_assoc, ← Nat.pow_add]; congr 3; omega
  rw [f1, f2, ← Int.mul_assoc, ← Int.mul_assoc]
  exact compare_alike (mul_lt_iff _ _ _ p).symm (mul_lt_iff _ _ _ p).symm

theorem V_iff (r s : Nat) : V r < V s ↔ r < s :=
  ⟨fun h => by
    by_cases e : r = s
    · subst e; omega
    · by_cases g : s < r
      · have := V_mono g; omega
      · omega, V_mono⟩
theorem V_zero : V 0 = 0 := by rw [V_low _ (by omega)]

/-- A word's sign, rung and place. -/
theorem pl_eq (b : Nat) (hb : b < 18446744073709551616) : pl b = (if b / 9223372036854775808 % 2 == 1 then -1 else 1) * ((b % 9223372036854775808 : Nat) : Int) := by
  unfold pl
  by_cases h : b < 9223372036854775808
  · have e : b / 9223372036854775808 = 0 := by omega
    have e2 : b % 9223372036854775808 = b := by omega
    simp [h, e, e2]
  · have e : b / 9223372036854775808 = 1 := by omega
    have e2 : b % 9223372036854775808 = b - 9223372036854775808 := by omega
    simp [h, e, e2]; omega

theorem sign_lt (x y : Bool) (p q : Nat) (P Q : Nat) (h1 : p < q ↔ P < Q) (h2 : q < p ↔ Q < P) (h3 : p = 0 ↔ P = 0) (h4 : q = 0 ↔ Q = 0) :
    (((if x then -1 else 1) * (p : Int)) < ((if y then -1 else 1) * (q : Int))) ↔ (((if x then -1 else 1) * (P : Int)) < ((if y then -1 else 1) * (Q : Int))) := by
  cases x <;> cases y <;> simp <;> omega
theorem V_eq_zero (r : Nat) : V r = 0 ↔ r = 0 := by
  constructor
  · intro h
    by_cases e : r = 0
    · exact e
    · have := V_mono (show 0 < r by omega); rw [V_zero] at this; omega
  · rintro rfl; exact V_zero

theorem order_places (a b : Nat) (ha : a < 18446744073709551616) (hb : b < 18446744073709551616) (na : isNan a = false) (nb : isNan b = false) :
    double.order a b = some (compare (pl a) (pl b)) := by
  simp only [isNan, decide_eq_false_iff_not, Nat.not_lt] at na nb
  rw [pl_eq a ha, pl_eq b hb]
  unfold Format.order
  by_cases h1 : a % 9223372036854775808 = 9218868437227405312
  · rw [read_inf a h1, h1]
    by_cases h2 : b % 9223372036854775808 = 9218868437227405312
    · rw [read_inf b h2, h2]
      simp only [Datum.order]
      cases (a / 9223372036854775808 % 2 == 1) <;> cases (b / 9223372036854775808 % 2 == 1) <;> decide
    · obtain ⟨m, i, e, hv⟩ := read_num b (by omega)
      rw [e]
      simp only [Datum.order]
      have : b % 9223372036854775808 < 9218868437227405312 := by omega
      cases (a / 9223372036854775808 % 2 == 1) <;> cases (b / 9223372036854775808 % 2 == 1) <;> simp
      · rw [compare_of_gt (by omega)]
      · rw [compare_of_gt (by omega)]
      · rw [compare_of_lt (by omega)]
      · rw [compare_of_lt (by omega)]
  · obtain ⟨m, i, e, hv⟩ := read_num a (by omega)
    rw [e]
    by_cases h2 : b % 9223372036854775808 = 9218868437227405312
    · rw [read_inf b h2, h2]
      have : a % 9223372036854775808 < 9218868437227405312 := by omega
      simp only [Datum.order]
      cases (a / 9223372036854775808 % 2 == 1) <;> cases (b / 9223372036854775808 % 2 == 1) <;> simp
      · rw [compare_of_lt (by omega)]
      · rw [compare_of_gt (by omega)]
      · rw [compare_of_lt (by omega)]
      · rw [compare_of_gt (by omega)]
    · obtain ⟨n, j, e', hw⟩ := read_num b (by omega)
      rw [e', order_num, hv, hw]
      congr 1
      refine compare_alike (sign_lt _ _ _ _ _ _ (V_iff _ _) (V_iff _ _) (V_eq_zero _) (V_eq_zero _)) (sign_lt _ _ _ _ _ _ (V_iff _ _) (V_iff _ _) (V_eq_zero _) (V_eq_zero _))

theorem order_nan (a b : Nat) (h : isNan a = true ∨ isNan b = true) : double.order a b = none := by
  unfold Format.order
  rcases h with h | h <;> obtain ⟨s, f, e⟩ := read_nan _ (by simpa [isNan] using h)
  · rw [e]; cases double.read b <;> rfl
  · rw [e]; cases double.read a <;> rfl

theorem sum_comm (x y : Datum) : x.sum y = y.sum x := by
  cases x with
  | nan => cases y <;> rfl
  | infinity s =>
    cases y with
    | nan => rfl
    | infinity t => cases s <;> cases t <;> rfl
    | number => rfl
  | number s m i =>
    cases y with
    | nan => rfl
    | infinity t => rfl
    | number t n j =>
      simp only [Datum.sum]
      rw [Int.min_comm i j, Int.add_comm, Bool.and_comm]
theorem product_comm (x y : Datum) : x.product y = y.product x := by
  cases x with
  | nan => cases y <;> rfl
  | infinity s =>
    cases y with
    | nan => rfl
    | infinity t => simp only [Datum.product, Bool.xor_comm]
    | number t n j => simp only [Datum.product]
  | number s m i =>
    cases y with
    | nan => rfl
    | infinity t => simp only [Datum.product, Bool.xor_comm]
    | number t n j => simp only [Datum.product, Bool.xor_comm, Nat.mul_comm, Int.add_comm]
theorem add_comm (f : Format) (a b : Nat) : f.add a b = f.add b a := by unfold Format.add; rw [sum_comm]
theorem mul_comm (f : Format) (a b : Nat) : f.mul a b = f.mul b a := by unfold Format.mul; rw [product_comm]
theorem add_nan (a b : Nat) (h : isNan a = true ∨ isNan b = true) : double.add a b = none := by
  unfold Format.add
  rcases h with h | h <;> obtain ⟨s, f, e⟩ := read_nan _ (by simpa [isNan] using h)
  · rw [e]; cases double.read b <;> rfl
  · rw [e]; cases double.read a <;> rfl
theorem mul_nan (a b : Nat) (h : isNan a = true ∨ isNan b = true) : double.mul a b = none := by
  unfold Format.mul
  rcases h with h | h <;> obtain ⟨s, f, e⟩ := read_nan _ (by simpa [isNan] using h)
  · rw [e]; cases double.read b <;> rfl
  · rw [e]; cases double.read a <;> rfl
end NumF
