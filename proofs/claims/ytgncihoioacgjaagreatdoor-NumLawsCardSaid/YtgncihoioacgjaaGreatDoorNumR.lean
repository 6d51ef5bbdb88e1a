import Derived.Test.YtgncihoioacgjaaGreatDoorNumP
namespace Go.Proofs.YtgncihoioacgjaaGreatDoor
open Go.Instr Go.RowKit NumF
set_option linter.unusedVariables false
set_option maxHeartbeats 1000000
set_option maxRecDepth 100000
theorem NumLaws_An (a b : Nat) (ha : a < 18446744073709551616) (hb : b < 18446744073709551616) (na : isNan a = true) (ho : FloatKind.f64.format.order a b = none) (m : Int) (hm1 : -9223372036854775808 ≤ m) (hm2 : m ≤ 9223372036854775807) (n : Int) (hn : ¬ n = 0) (w : World) (pb po cap : Nat) (ht : Tabs w pb po cap) :
    Calls Tryz.prog 7 #[.int .u64 (a : Int), .int .u64 (b : Int), .int .i64 m, .int .i64 n] w fun e w' => e = .returned (.bool true) ∧ Below w.heap.size w w' := by
  have C1 := Float_add a b
  rw [fr_add_nan a b (.inl na)] at C1
  have C2 := Float_add b a
  rw [fr_add_nan b a (.inr na)] at C2
  have C3 := Float_mul a b
  rw [fr_mul_nan a b (.inl na)] at C3
  have C4 := Float_mul b a
  rw [fr_mul_nan b a (.inr na)] at C4
  have D1 : ∀ w, Calls Tryz.prog 16 #[.string ⟨#[60]⟩, .int .u64 (a : Int), .int .u64 (b : Int)] w fun e w' => e = .returned (.tuple #[.bool false, .int .i64 0]) ∧ Below w.heap.size w w' := FloatIs_of _ a b _ _ (cmpF_lt a b _ ho)
  have D2 : ∀ w, Calls Tryz.prog 16 #[.string ⟨#[61, 61]⟩, .int .u64 (a : Int), .int .u64 (b : Int)] w fun e w' => e = .returned (.tuple #[.bool false, .int .i64 0]) ∧ Below w.heap.size w w' := FloatIs_of _ a b _ _ (cmpF_eq a b _ ho)
  have D3 : ∀ w, Calls Tryz.prog 16 #[.string ⟨#[62]⟩, .int .u64 (a : Int), .int .u64 (b : Int)] w fun e w' => e = .returned (.tuple #[.bool false, .int .i64 0]) ∧ Below w.heap.size w w' := FloatIs_of _ a b _ _ (cmpF_gt a b _ ho)
  have D4 : ∀ w, Calls Tryz.prog 16 #[.string ⟨#[33, 61]⟩, .int .u64 (a : Int), .int .u64 (b : Int)] w fun e w' => e = .returned (.tuple #[.bool true, .int .i64 0]) ∧ Below w.heap.size w w' := FloatIs_of _ a b _ _ (cmpF_ne a b _ ho)
  have hpa := plainB_nan a na
  have hn1 : (n == 0) = false := by simpa using hn
  have hn2 : (n != 0) = true := by simpa using hn
  have I1 := Int_quo m n hn hn1
  have I2 := Int_rem m n hn hn1
  have I3 := Int_mul (wrap64 (m.tdiv n)) n
  have I4 := Int_add (wrap64 (wrap64 (m.tdiv n) * n)) (m.tmod n)
  rw [div_law m n hm1 hm2] at I4
  have C1 := Lib.hid C1
  have C2 := Lib.hid C2
  have C3 := Lib.hid C3
  have C4 := Lib.hid C4
  have D1 := Lib.hid D1
  have D2 := Lib.hid D2
  have D3 := Lib.hid D3
  have D4 := Lib.hid D4
  have I1 := Lib.hid I1
  have I2 := Lib.hid I2
  have I3 := Lib.hid I3
  have I4 := Lib.hid I4
  have H0 := Lib.hid (awake_any w pb po cap ht)
  clear ht ho na hm1 hm2
  go_enter Tryz.func7, Tryz.ntmps7
  go_wp2_with fail
  refine H0.out.mono ?_
  rintro e w0 ⟨rfl, b0⟩
  go_wp2_with fail
  refine (C1.out _).mono ?_
  rintro e w1 ⟨rfl, b1⟩
  go_wp2_with fail
  refine (C2.out _).mono ?_
  rintro e w2 ⟨rfl, b2⟩
  go_wp2_with fail
  refine (C3.out _).mono ?_
  rintro e w3 ⟨rfl, b3⟩
  go_wp2_with fail
  refine (C4.out _).mono ?_
  rintro e w4 ⟨rfl, b4⟩
  go_wp2_with fail
  refine (D1.out _).mono ?_
  rintro e w5 ⟨rfl, b5⟩
  go_wp2_with fail
  refine (D2.out _).mono ?_
  rintro e w6 ⟨rfl, b6⟩
  go_wp2_with fail
  refine (D3.out _).mono ?_
  rintro e w7 ⟨rfl, b7⟩
  go_wp2_with fail
  refine (D4.out _).mono ?_
  rintro e w8 ⟨rfl, b8⟩
  go_wp2_with (first | (go_at_call 18; refine (Plain_any _ (by assumption) _).mono ?_; rintro e w' ⟨rfl, rfl⟩))
  refine (I1.out _).mono ?_
  rintro e w9 ⟨rfl, b9⟩
  go_wp2_with fail
  refine (I2.out _).mono ?_
  rintro e w10 ⟨rfl, b10⟩
  go_wp2_with fail
  refine (I3.out _).mono ?_
  rintro e w11 ⟨rfl, b11⟩
  go_wp2_with fail
  refine (I4.out _).mono ?_
  rintro e w12 ⟨rfl, b12⟩
  go_wp2_with fail
  go_ret
  exact ⟨rfl, below_step b0 (below_step b1 (below_step b2 (below_step b3 (below_step b4 (below_step b5 (below_step b6 (below_step b7 (below_step b8 (below_step b9 (below_step b10 (below_step b11 b12)))))))))))⟩
theorem NumLaws_Bn (a b : Nat) (ha : a < 18446744073709551616) (hb : b < 18446744073709551616) (na : isNan a = false) (nb : isNan b = true) (ho : FloatKind.f64.format.order a b = none) (m : Int) (hm1 : -9223372036854775808 ≤ m) (hm2 : m ≤ 9223372036854775807) (n : Int) (hn : ¬ n = 0) (w : World) (pb po cap : Nat) (ht : Tabs w pb po cap) :
    Calls Tryz.prog 7 #[.int .u64 (a : Int), .int .u64 (b : Int), .int .i64 m, .int .i64 n] w fun e w' => e = .returned (.bool true) ∧ Below w.heap.size w w' := by
  have C1 := Float_add a b
  rw [fr_add_nan a b (.inr nb)] at C1
  have C2 := Float_add b a
  rw [fr_add_nan b a (.inl nb)] at C2
  have C3 := Float_mul a b
  rw [fr_mul_nan a b (.inr nb)] at C3
  have C4 := Float_mul b a
  rw [fr_mul_nan b a (.inl nb)] at C4
  have D1 : ∀ w, Calls Tryz.prog 16 #[.string ⟨#[60]⟩, .int .u64 (a : Int), .int .u64 (b : Int)] w fun e w' => e = .returned (.tuple #[.bool false, .int .i64 0]) ∧ Below w.heap.size w w' := FloatIs_of _ a b _ _ (cmpF_lt a b _ ho)
  have D2 : ∀ w, Calls Tryz.prog 16 #[.string ⟨#[61, 61]⟩, .int .u64 (a : Int), .int .u64 (b : Int)] w fun e w' => e = .returned (.tuple #[.bool false, .int .i64 0]) ∧ Below w.heap.size w w' := FloatIs_of _ a b _ _ (cmpF_eq a b _ ho)
  have D3 : ∀ w, Calls Tryz.prog 16 #[.string ⟨#[62]⟩, .int .u64 (a : Int), .int .u64 (b : Int)] w fun e w' => e = .returned (.tuple #[.bool false, .int .i64 0]) ∧ Below w.heap.size w w' := FloatIs_of _ a b _ _ (cmpF_gt a b _ ho)
  have D4 : ∀ w, Calls Tryz.prog 16 #[.string ⟨#[33, 61]⟩, .int .u64 (a : Int), .int .u64 (b : Int)] w fun e w' => e = .returned (.tuple #[.bool true, .int .i64 0]) ∧ Below w.heap.size w w' := FloatIs_of _ a b _ _ (cmpF_ne a b _ ho)
  have hpa := plainB_num a na
  have hpb := plainB_nan b nb
  have hn1 : (n == 0) = false := by simpa using hn
  have hn2 : (n != 0) = true := by simpa using hn
  have I1 := Int_quo m n hn hn1
  have I2 := Int_rem m n hn hn1
  have I3 := Int_mul (wrap64 (m.tdiv n)) n
  have I4 := Int_add (wrap64 (wrap64 (m.tdiv n) * n)) (m.tmod n)
  rw [div_law m n hm1 hm2] at I4
  have C1 := Lib.hid C1
  have C2 := Lib.hid C2
  have C3 := Lib.hid C3
  have C4 := Lib.hid C4
  have D1 := Lib.hid D1
  have D2 := Lib.hid D2
  have D3 := Lib.hid D3
  have D4 := Lib.hid D4
  have I1 := Lib.hid I1
  have I2 := Lib.hid I2
  have I3 := Lib.hid I3
  have I4 := Lib.hid I4
  have H0 := Lib.hid (awake_any w pb po cap ht)
  clear ht ho na nb hm1 hm2
  go_enter Tryz.func7, Tryz.ntmps7
  go_wp2_with fail
  refine H0.out.mono ?_
  rintro e w0 ⟨rfl, b0⟩
  go_wp2_with fail
  refine (C1.out _).mono ?_
  rintro e w1 ⟨rfl, b1⟩
  go_wp2_with fail
  refine (C2.out _).mono ?_
  rintro e w2 ⟨rfl, b2⟩
  go_wp2_with fail
  refine (C3.out _).mono ?_
  rintro e w3 ⟨rfl, b3⟩
  go_wp2_with fail
  refine (C4.out _).mono ?_
  rintro e w4 ⟨rfl, b4⟩
  go_wp2_with fail
  refine (D1.out _).mono ?_
  rintro e w5 ⟨rfl, b5⟩
  go_wp2_with fail
  refine (D2.out _).mono ?_
  rintro e w6 ⟨rfl, b6⟩
  go_wp2_with fail
  refine (D3.out _).mono ?_
  rintro e w7 ⟨rfl, b7⟩
  go_wp2_with fail
  refine (D4.out _).mono ?_
  rintro e w8 ⟨rfl, b8⟩
  go_wp2_with (first | (go_at_call 18; refine (Plain_any _ (by assumption) _).mono ?_; rintro e w' ⟨rfl, rfl⟩))
  refine (I1.out _).mono ?_
  rintro e w9 ⟨rfl, b9⟩
  go_wp2_with fail
  refine (I2.out _).mono ?_
  rintro e w10 ⟨rfl, b10⟩
  go_wp2_with fail
  refine (I3.out _).mono ?_
  rintro e w11 ⟨rfl, b11⟩
  go_wp2_with fail
  refine (I4.out _).mono ?_
  rintro e w12 ⟨rfl, b12⟩
  go_wp2_with fail
  go_ret
  exact ⟨rfl, below_step b0 (below_step b1 (below_step b2 (below_step b3 (below_step b4 (below_step b5 (below_step b6 (below_step b7 (below_step b8 (below_step b9 (below_step b10 (below_step b11 b12)))))))))))⟩
theorem NumLaws_Ln (a b : Nat) (ha : a < 18446744073709551616) (hb : b < 18446744073709551616) (na : isNan a = false) (nb : isNan b = false) (ho : FloatKind.f64.format.order a b = some .lt) (m : Int) (hm1 : -9223372036854775808 ≤ m) (hm2 : m ≤ 9223372036854775807) (n : Int) (hn : ¬ n = 0) (w : World) (pb po cap : Nat) (ht : Tabs w pb po cap) :
    Calls Tryz.prog 7 #[.int .u64 (a : Int), .int .u64 (b : Int), .int .i64 m, .int .i64 n] w fun e w' => e = .returned (.bool true) ∧ Below w.heap.size w w' := by
  have C1 := Float_add a b
  have C2 := Float_add b a
  rw [fr_add_comm b a] at C2
  have C3 := Float_mul a b
  have C4 := Float_mul b a
  rw [fr_mul_comm b a] at C4
  have D1 : ∀ w, Calls Tryz.prog 16 #[.string ⟨#[60]⟩, .int .u64 (a : Int), .int .u64 (b : Int)] w fun e w' => e = .returned (.tuple #[.bool true, .int .i64 0]) ∧ Below w.heap.size w w' := FloatIs_of _ a b _ _ (cmpF_lt a b _ ho)
  have D2 : ∀ w, Calls Tryz.prog 16 #[.string ⟨#[61, 61]⟩, .int .u64 (a : Int), .int .u64 (b : Int)] w fun e w' => e = .returned (.tuple #[.bool false, .int .i64 0]) ∧ Below w.heap.size w w' := FloatIs_of _ a b _ _ (cmpF_eq a b _ ho)
  have D3 : ∀ w, Calls Tryz.prog 16 #[.string ⟨#[62]⟩, .int .u64 (a : Int), .int .u64 (b : Int)] w fun e w' => e = .returned (.tuple #[.bool false, .int .i64 0]) ∧ Below w.heap.size w w' := FloatIs_of _ a b _ _ (cmpF_gt a b _ ho)
  have D4 : ∀ w, Calls Tryz.prog 16 #[.string ⟨#[33, 61]⟩, .int .u64 (a : Int), .int .u64 (b : Int)] w fun e w' => e = .returned (.tuple #[.bool true, .int .i64 0]) ∧ Below w.heap.size w w' := FloatIs_of _ a b _ _ (cmpF_ne a b _ ho)
  have hpa := plainB_num a na
  have hpb := plainB_num b nb
  have hn1 : (n == 0) = false := by simpa using hn
  have hn2 : (n != 0) = true := by simpa using hn
  have I1 := Int_quo m n hn hn1
  have I2 := Int_rem m n hn hn1
  have I3 := Int_mul (wrap64 (m.tdiv n)) n
  have I4 := Int_add (wrap64 (wrap64 (m.tdiv n) * n)) (m.tmod n)
  rw [div_law m n hm1 hm2] at I4
  have C1 := Lib.hid C1
  have C2 := Lib.hid C2
  have C3 := Lib.hid C3
  have C4 := Lib.hid C4
  have D1 := Lib.hid D1
  have D2 := Lib.hid D2
  have D3 := Lib.hid D3
  have D4 := Lib.hid D4
  have I1 := Lib.hid I1
  have I2 := Lib.hid I2
  have I3 := Lib.hid I3
  have I4 := Lib.hid I4
  have H0 := Lib.hid (awake_any w pb po cap ht)
  clear ht ho na nb hm1 hm2
  go_enter Tryz.func7, Tryz.ntmps7
  go_wp2_with fail
  refine H0.out.mono ?_
  rintro e w0 ⟨rfl, b0⟩
  go_wp2_with fail
  refine (C1.out _).mono ?_
  rintro e w1 ⟨rfl, b1⟩
  go_wp2_with fail
  refine (C2.out _).mono ?_
  rintro e w2 ⟨rfl, b2⟩
  go_wp2_with fail
  refine (C3.out _).mono ?_
  rintro e w3 ⟨rfl, b3⟩
  go_wp2_with fail
  refine (C4.out _).mono ?_
  rintro e w4 ⟨rfl, b4⟩
  go_wp2_with fail
  refine (D1.out _).mono ?_
  rintro e w5 ⟨rfl, b5⟩
  go_wp2_with fail
  refine (D2.out _).mono ?_
  rintro e w6 ⟨rfl, b6⟩
  go_wp2_with fail
  refine (D3.out _).mono ?_
  rintro e w7 ⟨rfl, b7⟩
  go_wp2_with fail
  refine (D4.out _).mono ?_
  rintro e w8 ⟨rfl, b8⟩
  go_wp2_with (first | (go_at_call 18; refine (Plain_any _ (by assumption) _).mono ?_; rintro e w' ⟨rfl, rfl⟩))
  refine (I1.out _).mono ?_
  rintro e w9 ⟨rfl, b9⟩
  go_wp2_with fail
  refine (I2.out _).mono ?_
  rintro e w10 ⟨rfl, b10⟩
  go_wp2_with fail
  refine (I3.out _).mono ?_
  rintro e w11 ⟨rfl, b11⟩
  go_wp2_with fail
  refine (I4.out _).mono ?_
  rintro e w12 ⟨rfl, b12⟩
  go_wp2_with fail
  go_ret
  exact ⟨rfl, below_step b0 (below_step b1 (below_step b2 (below_step b3 (below_step b4 (below_step b5 (below_step b6 (below_step b7 (below_step b8 (below_step b9 (below_step b10 (below_step b11 b12)))))))))))⟩
theorem NumLaws_En (a b : Nat) (ha : a < 18446744073709551616) (hb : b < 18446744073709551616) (na : isNan a = false) (nb : isNan b = false) (ho : FloatKind.f64.format.order a b = some .eq) (m : Int) (hm1 : -9223372036854775808 ≤ m) (hm2 : m ≤ 9223372036854775807) (n : Int) (hn : ¬ n = 0) (w : World) (pb po cap : Nat) (ht : Tabs w pb po cap) :
    Calls Tryz.prog 7 #[.int .u64 (a : Int), .int .u64 (b : Int), .int .i64 m, .int .i64 n] w fun e w' => e = .returned (.bool true) ∧ Below w.heap.size w w' := by
  have C1 := Float_add a b
  have C2 := Float_add b a
  rw [fr_add_comm b a] at C2
  have C3 := Float_mul a b
  have C4 := Float_mul b a
  rw [fr_mul_comm b a] at C4
  have D1 : ∀ w, Calls Tryz.prog 16 #[.string ⟨#[60]⟩, .int .u64 (a : Int), .int .u64 (b : Int)] w fun e w' => e = .returned (.tuple #[.bool false, .int .i64 0]) ∧ Below w.heap.size w w' := FloatIs_of _ a b _ _ (cmpF_lt a b _ ho)
  have D2 : ∀ w, Calls Tryz.prog 16 #[.string ⟨#[61, 61]⟩, .int .u64 (a : Int), .int .u64 (b : Int)] w fun e w' => e = .returned (.tuple #[.bool true, .int .i64 0]) ∧ Below w.heap.size w w' := FloatIs_of _ a b _ _ (cmpF_eq a b _ ho)
  have D3 : ∀ w, Calls Tryz.prog 16 #[.string ⟨#[62]⟩, .int .u64 (a : Int), .int .u64 (b : Int)] w fun e w' => e = .returned (.tuple #[.bool false, .int .i64 0]) ∧ Below w.heap.size w w' := FloatIs_of _ a b _ _ (cmpF_gt a b _ ho)
  have D4 : ∀ w, Calls Tryz.prog 16 #[.string ⟨#[33, 61]⟩, .int .u64 (a : Int), .int .u64 (b : Int)] w fun e w' => e = .returned (.tuple #[.bool false, .int .i64 0]) ∧ Below w.heap.size w w' := FloatIs_of _ a b _ _ (cmpF_ne a b _ ho)
  have hpa := plainB_num a na
  have hpb := plainB_num b nb
  have hn1 : (n == 0) = false := by simpa using hn
  have hn2 : (n != 0) = true := by simpa using hn
  have I1 := Int_quo m n hn hn1
  have I2 := Int_rem m n hn hn1
  have I3 := Int_mul (wrap64 (m.tdiv n)) n
  have I4 := Int_add (wrap64 (wrap64 (m.tdiv n) * n)) (m.tmod n)
  rw [div_law m n hm1 hm2] at I4
  have C1 := Lib.hid C1
  have C2 := Lib.hid C2
  have C3 := Lib.hid C3
  have C4 := Lib.hid C4
  have D1 := Lib.hid D1
  have D2 := Lib.hid D2
  have D3 := Lib.hid D3
  have D4 := Lib.hid D4
  have I1 := Lib.hid I1
  have I2 := Lib.hid I2
  have I3 := Lib.hid I3
  have I4 := Lib.hid I4
  have H0 := Lib.hid (awake_any w pb po cap ht)
  clear ht ho na nb hm1 hm2
  go_enter Tryz.func7, Tryz.ntmps7
  go_wp2_with fail
  refine H0.out.mono ?_
  rintro e w0 ⟨rfl, b0⟩
  go_wp2_with fail
  refine (C1.out _).mono ?_
  rintro e w1 ⟨rfl, b1⟩
  go_wp2_with fail
  refine (C2.out _).mono ?_
  rintro e w2 ⟨rfl, b2⟩
  go_wp2_with fail
  refine (C3.out _).mono ?_
  rintro e w3 ⟨rfl, b3⟩
  go_wp2_with fail
  refine (C4.out _).mono ?_
  rintro e w4 ⟨rfl, b4⟩
  go_wp2_with fail
  refine (D1.out _).mono ?_
  rintro e w5 ⟨rfl, b5⟩
  go_wp2_with fail
  refine (D2.out _).mono ?_
  rintro e w6 ⟨rfl, b6⟩
  go_wp2_with fail
  refine (D3.out _).mono ?_
  rintro e w7 ⟨rfl, b7⟩
  go_wp2_with fail
  refine (D4.out _).mono ?_
  rintro e w8 ⟨rfl, b8⟩
  go_wp2_with (first | (go_at_call 18; refine (Plain_any _ (by assumption) _).mono ?_; rintro e w' ⟨rfl, rfl⟩))
  refine (I1.out _).mono ?_
  rintro e w9 ⟨rfl, b9⟩
  go_wp2_with fail
  refine (I2.out _).mono ?_
  rintro e w10 ⟨rfl, b10⟩
  go_wp2_with fail
  refine (I3.out _).mono ?_
  rintro e w11 ⟨rfl, b11⟩
  go_wp2_with fail
  refine (I4.out _).mono ?_
  rintro e w12 ⟨rfl, b12⟩
  go_wp2_with fail
  go_ret
  exact ⟨rfl, below_step b0 (below_step b1 (below_step b2 (below_step b3 (below_step b4 (below_step b5 (below_step b6 (below_step b7 (below_step b8 (below_step b9 (below_step b10 (below_step b11 b12)))))))))))⟩
theorem NumLaws_Gn (a b : Nat) (ha : a < 18446744073709551616) (hb : b < 18446744073709551616) (na : isNan a = false) (nb : isNan b = false) (ho : FloatKind.f64.format.order a b = some .gt) (m : Int) (hm1 : -9223372036854775808 ≤ m) (hm2 : m ≤ 9223372036854775807) (n : Int) (hn : ¬ n = 0) (w : World) (pb po cap : Nat) (ht : Tabs w pb po cap) :
    Calls Tryz.prog 7 #[.int .u64 (a : Int), .int .u64 (b : Int), .int .i64 m, .int .i64 n] w fun e w' => e = .returned (.bool true) ∧ Below w.heap.size w w' := by
  have C1 := Float_add a b
  have C2 := Float_add b a
  rw [fr_add_comm b a] at C2
  have C3 := Float_mul a b
  have C4 := Float_mul b a
  rw [fr_mul_comm b a] at C4
  have D1 : ∀ w, Calls Tryz.prog 16 #[.string ⟨#[60]⟩, .int .u64 (a : Int), .int .u64 (b : Int)] w fun e w' => e = .returned (.tuple #[.bool false, .int .i64 0]) ∧ Below w.heap.size w w' := FloatIs_of _ a b _ _ (cmpF_lt a b _ ho)
  have D2 : ∀ w, Calls Tryz.prog 16 #[.string ⟨#[61, 61]⟩, .int .u64 (a : Int), .int .u64 (b : Int)] w fun e w' => e = .returned (.tuple #[.bool false, .int .i64 0]) ∧ Below w.heap.size w w' := FloatIs_of _ a b _ _ (cmpF_eq a b _ ho)
  have D3 : ∀ w, Calls Tryz.prog 16 #[.string ⟨#[62]⟩, .int .u64 (a : Int), .int .u64 (b : Int)] w fun e w' => e = .returned (.tuple #[.bool true, .int .i64 0]) ∧ Below w.heap.size w w' := FloatIs_of _ a b _ _ (cmpF_gt a b _ ho)
  have D4 : ∀ w, Calls Tryz.prog 16 #[.string ⟨#[33, 61]⟩, .int .u64 (a : Int), .int .u64 (b : Int)] w fun e w' => e = .returned (.tuple #[.bool true, .int .i64 0]) ∧ Below w.heap.size w w' := FloatIs_of _ a b _ _ (cmpF_ne a b _ ho)
  have hpa := plainB_num a na
  have hpb := plainB_num b nb
  have hn1 : (n == 0) = false := by simpa using hn
  have hn2 : (n != 0) = true := by simpa using hn
  have I1 := Int_quo m n hn hn1
  have I2 := Int_rem m n hn hn1
  have I3 := Int_mul (wrap64 (m.tdiv n)) n
  have I4 := Int_add (wrap64 (wrap64 (m.tdiv n) * n)) (m.tmod n)
  rw [div_law m n hm1 hm2] at I4
  have C1 := Lib.hid C1
  have C2 := Lib.hid C2
  have C3 := Lib.hid C3
  have C4 := Lib.hid C4
  have D1 := Lib.hid D1
  have D2 := Lib.hid D2
  have D3 := Lib.hid D3
  have D4 := Lib.hid D4
  have I1 := Lib.hid I1
  have I2 := Lib.hid I2
  have I3 := Lib.hid I3
  have I4 := Lib.hid I4
  have H0 := Lib.hid (awake_any w pb po cap ht)
  clear ht ho na nb hm1 hm2
  go_enter Tryz.func7, Tryz.ntmps7
  go_wp2_with fail
  refine H0.out.mono ?_
  rintro e w0 ⟨rfl, b0⟩
  go_wp2_with fail
  refine (C1.out _).mono ?_
  rintro e w1 ⟨rfl, b1⟩
  go_wp2_with fail
  refine (C2.out _).mono ?_
  rintro e w2 ⟨rfl, b2⟩
  go_wp2_with fail
  refine (C3.out _).mono ?_
  rintro e w3 ⟨rfl, b3⟩
  go_wp2_with fail
  refine (C4.out _).mono ?_
  rintro e w4 ⟨rfl, b4⟩
  go_wp2_with fail
  refine (D1.out _).mono ?_
  rintro e w5 ⟨rfl, b5⟩
  go_wp2_with fail
  refine (D2.out _).mono ?_
  rintro e w6 ⟨rfl, b6⟩
  go_wp2_with fail
  refine (D3.out _).mono ?_
  rintro e w7 ⟨rfl, b7⟩
  go_wp2_with fail
  refine (D4.out _).mono ?_
  rintro e w8 ⟨rfl, b8⟩
  go_wp2_with (first | (go_at_call 18; refine (Plain_any _ (by assumption) _).mono ?_; rintro e w' ⟨rfl, rfl⟩))
  refine (I1.out _).mono ?_
  rintro e w9 ⟨rfl, b9⟩
  go_wp2_with fail
  refine (I2.out _).mono ?_
  rintro e w10 ⟨rfl, b10⟩
  go_wp2_with fail
  refine (I3.out _).mono ?_
  rintro e w11 ⟨rfl, b11⟩
  go_wp2_with fail
  refine (I4.out _).mono ?_
  rintro e w12 ⟨rfl, b12⟩
  go_wp2_with fail
  go_ret
  exact ⟨rfl, below_step b0 (below_step b1 (below_step b2 (below_step b3 (below_step b4 (below_step b5 (below_step b6 (below_step b7 (below_step b8 (below_step b9 (below_step b10 (below_step b11 b12)))))))))))⟩
end Go.Proofs.YtgncihoioacgjaaGreatDoor
