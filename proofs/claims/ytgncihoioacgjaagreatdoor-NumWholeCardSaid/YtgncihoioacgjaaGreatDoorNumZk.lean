import Derived.Test.YtgncihoioacgjaaGreatDoorNumZj
namespace Go.Proofs.YtgncihoioacgjaaGreatDoor
open Go.Instr Go.RowKit NumF
set_option linter.unusedVariables false
set_option maxHeartbeats 1000000
theorem out_1 (a b : Int) (w : World) (pb po cap : Nat) (ht : Tabz w pb po cap) (h : a < 0) :
    Calls Tryz.prog 8 #[.int .i64 a, .int .i64 b] w fun e w' => e = .returned (.bool true) ∧ Below w.heap.size w w' := by
  have q1 : decide (a < 0) = true := by simp; omega
  have H := Lib.hid ht
  clear ht h
  go_enter Tryz.func8, Tryz.ntmps8
  go_wp2_with fail
  refine (awake_any _ _ _ _ H.out.base).mono ?_
  rintro e w1 ⟨rfl, b1⟩
  go_wp2_with fail
  go_ret
  exact ⟨rfl, b1⟩
theorem out_2 (a b : Int) (w : World) (pb po cap : Nat) (ht : Tabz w pb po cap) (h : 0 ≤ a) (h2 : 9007199254740992 ≤ a) :
    Calls Tryz.prog 8 #[.int .i64 a, .int .i64 b] w fun e w' => e = .returned (.bool true) ∧ Below w.heap.size w w' := by
  have q1 : decide (a < 0) = false := by simp; omega
  have q2 : decide (a ≥ 9007199254740992) = true := by simp; omega
  have H := Lib.hid ht
  clear ht h h2
  go_enter Tryz.func8, Tryz.ntmps8
  go_wp2_with fail
  refine (awake_any _ _ _ _ H.out.base).mono ?_
  rintro e w1 ⟨rfl, b1⟩
  go_wp2_with fail
  go_ret
  exact ⟨rfl, b1⟩
theorem out_3 (a b : Int) (w : World) (pb po cap : Nat) (ht : Tabz w pb po cap) (h : 0 ≤ a) (h2 : a < 9007199254740992) (h3 : b < 0) :
    Calls Tryz.prog 8 #[.int .i64 a, .int .i64 b] w fun e w' => e = .returned (.bool true) ∧ Below w.heap.size w w' := by
  have q1 : decide (a < 0) = false := by simp; omega
  have q2 : decide (a ≥ 9007199254740992) = false := by simp; omega
  have q3 : decide (b < 0) = true := by simp; omega
  have H := Lib.hid ht
  clear ht h h2 h3
  go_enter Tryz.func8, Tryz.ntmps8
  go_wp2_with fail
  refine (awake_any _ _ _ _ H.out.base).mono ?_
  rintro e w1 ⟨rfl, b1⟩
  go_wp2_with fail
  go_ret
  exact ⟨rfl, b1⟩
theorem out_4 (a b : Int) (w : World) (pb po cap : Nat) (ht : Tabz w pb po cap) (h : 0 ≤ a) (h2 : a < 9007199254740992) (h3 : 0 ≤ b) (h4 : 9007199254740992 ≤ b) :
    Calls Tryz.prog 8 #[.int .i64 a, .int .i64 b] w fun e w' => e = .returned (.bool true) ∧ Below w.heap.size w w' := by
  have q1 : decide (a < 0) = false := by simp; omega
  have q2 : decide (a ≥ 9007199254740992) = false := by simp; omega
  have q3 : decide (b < 0) = false := by simp; omega
  have q4 : decide (b ≥ 9007199254740992) = true := by simp; omega
  have H := Lib.hid ht
  clear ht h h2 h3 h4
  go_enter Tryz.func8, Tryz.ntmps8
  go_wp2_with fail
  refine (awake_any _ _ _ _ H.out.base).mono ?_
  rintro e w1 ⟨rfl, b1⟩
  go_wp2_with fail
  go_ret
  exact ⟨rfl, b1⟩
theorem met_of (a b : Nat) (ha : a < 9007199254740992) (hb : b < 9007199254740992) (w : World) (pb po cap : Nat) (ht : Tabz w pb po cap) :
    Met (a : Int) (b : Int) (N a) (N b) (fr .add (N a) (N b)) (fr .mul (N a) (N b)) ⟨(D 15 a).toArray⟩ ⟨(D 15 b).toArray⟩ w pb po cap where
  tz := ht
  za := D_length 15 a
  zb := D_length 15 b
  xa := text_D a ha
  xb := text_D b hb
  fa := fun w h => by rw [txt_dot1]; exact ReadFloat_txt a 1 (.inl rfl) ha w pb po cap h
  fb := fun w h => by rw [txt_dot2]; exact ReadFloat_txt b 2 (.inr rfl) hb w pb po cap h
  ia := ReadInt_D a ha
  ca := FromInt_any a (by omega)
  cb := FromInt_any b (by omega)
  add := Float_add (N a) (N b)
  mul := Float_mul (N a) (N b)
theorem whole_any (a b : Int) (w : World) (pb po cap : Nat) (ht : Tabz w pb po cap) :
    Calls Tryz.prog 8 #[.int .i64 a, .int .i64 b] w fun e w' => e = .returned (.bool true) ∧ Below w.heap.size w w' := by
  by_cases h1 : a < 0
  · exact out_1 a b w pb po cap ht h1
  by_cases h2 : 9007199254740992 ≤ a
  · exact out_2 a b w pb po cap ht (by omega) h2
  by_cases h3 : b < 0
  · exact out_3 a b w pb po cap ht (by omega) (by omega) h3
  by_cases h4 : 9007199254740992 ≤ b
  · exact out_4 a b w pb po cap ht (by omega) (by omega) (by omega) h4
  obtain ⟨x, rfl⟩ : ∃ x : Nat, a = x := ⟨a.toNat, by omega⟩
  obtain ⟨y, rfl⟩ : ∃ y : Nat, b = y := ⟨b.toNat, by omega⟩
  have hx : x < 9007199254740992 := by omega
  have hy : y < 9007199254740992 := by omega
  have hM := met_of x y hx hy w pb po cap ht
  by_cases h0 : y = 0
  · subst h0
    refine whole_0 (x : Int) _ _ _ _ _ _ w pb po cap (by omega) (by omega) hM ?_ ?_
    · exact fr_add x 0 hx
    · exact fr_mul x 0 hx hy (by omega)
  have hM2 : (9007199254740991 : Int) / (y : Int) = ((9007199254740991 / y : Nat) : Int) := by simp
  have hadd : x + y < 9007199254740992 → ∀ w, Calls Tryz.prog 24 #[.int .i64 ((x : Int) + (y : Int))] w fun e w' => e = .returned (.int .u64 ((fr .add (N x) (N y) : Nat) : Int)) ∧ w = w' := by
    intro h w
    rw [fr_add x y h]
    exact FromInt_any (x + y) (by omega) w
  have hmul : x * y < 9007199254740992 → ∀ w, Calls Tryz.prog 24 #[.int .i64 ((x * y : Nat) : Int)] w fun e w' => e = .returned (.int .u64 ((fr .mul (N x) (N y) : Nat) : Int)) ∧ w = w' := by
    intro h w
    rw [fr_mul x y hx hy h]
    exact FromInt_any (x * y) (by omega) w
  by_cases hs : (x : Int) + (y : Int) < 9007199254740992
  · by_cases hq : x ≤ 9007199254740991 / y
    · have hxy : x * y ≤ 9007199254740991 := (Nat.le_div_iff_mul_le (by omega)).1 hq
      exact whole_11 _ _ _ _ _ _ _ _ w pb po cap (by omega) (by omega) (by omega) (by omega) hM hs (hadd (by omega)) ((x * y : Nat) : Int) (Int.natCast_mul x y).symm (by omega) (by omega) (by rw [hM2]; omega) (hmul (by omega))
    · exact whole_10 _ _ _ _ _ _ _ _ w pb po cap (by omega) (by omega) (by omega) (by omega) hM hs (hadd (by omega)) (by rw [hM2]; omega)
  · by_cases hq : x ≤ 9007199254740991 / y
    · have hxy : x * y ≤ 9007199254740991 := (Nat.le_div_iff_mul_le (by omega)).1 hq
      exact whole_01 _ _ _ _ _ _ _ _ w pb po cap (by omega) (by omega) (by omega) (by omega) hM hs ((x * y : Nat) : Int) (Int.natCast_mul x y).symm (by omega) (by omega) (by rw [hM2]; omega) (hmul (by omega))
    · exact whole_00 _ _ _ _ _ _ _ _ w pb po cap (by omega) (by omega) (by omega) (by omega) hM hs (by rw [hM2]; omega)
end Go.Proofs.YtgncihoioacgjaaGreatDoor
