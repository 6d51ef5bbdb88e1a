import Derived.Test.YtgncihoioacgjaaGreatDoorNumZi
namespace Go.Proofs.YtgncihoioacgjaaGreatDoor
open Go.Instr Go.RowKit NumF
set_option linter.unusedVariables false
set_option maxHeartbeats 1000000
/-- What the walk meets, each callee by its contract; the texts and numbers as variables. -/
structure Met (a b : Int) (va vb S P : Nat) (sa sb : ByteArray) (w : World) (pb po cap : Nat) : Prop where
  tz : Tabz w pb po cap
  za : sa.size ≤ 16
  zb : sb.size ≤ 16
  xa : ∀ w, Calls Tryz.prog 27 #[.int .i64 a] w fun e w' => e = .returned (.string sa) ∧ Below w.heap.size w w'
  xb : ∀ w, Calls Tryz.prog 27 #[.int .i64 b] w fun e w' => e = .returned (.string sb) ∧ Below w.heap.size w w'
  fa : ∀ w, Tabz w pb po cap → Calls Tryz.prog 22 #[.string (sa ++ ⟨#[46, 48]⟩)] w fun e w' => e = .returned (.tuple #[.int .u64 (va : Int), .bool true]) ∧ Below w.heap.size w w'
  fb : ∀ w, Tabz w pb po cap → Calls Tryz.prog 22 #[.string (sb ++ ⟨#[46, 48, 48]⟩)] w fun e w' => e = .returned (.tuple #[.int .u64 (vb : Int), .bool true]) ∧ Below w.heap.size w w'
  ia : ∀ w, Calls Tryz.prog 20 #[.string sa] w fun e w' => e = .returned (.tuple #[.int .i64 a, .bool true]) ∧ Below w.heap.size w w'
  ca : ∀ w, Calls Tryz.prog 24 #[.int .i64 a] w fun e w' => e = .returned (.int .u64 (va : Int)) ∧ w = w'
  cb : ∀ w, Calls Tryz.prog 24 #[.int .i64 b] w fun e w' => e = .returned (.int .u64 (vb : Int)) ∧ w = w'
  add : ∀ w, Calls Tryz.prog 14 #[.string ⟨#[43]⟩, .int .u64 (va : Int), .int .u64 (vb : Int)] w fun e w' => e = .returned (.tuple #[.int .u64 (S : Int), .int .i64 0]) ∧ Below w.heap.size w w'
  mul : ∀ w, Calls Tryz.prog 14 #[.string ⟨#[42]⟩, .int .u64 (va : Int), .int .u64 (vb : Int)] w fun e w' => e = .returned (.tuple #[.int .u64 (P : Int), .int .i64 0]) ∧ Below w.heap.size w w'
set_option maxRecDepth 100000 in
theorem whole_0 (a : Int) (va vb S P : Nat) (sa sb : ByteArray) (w : World) (pb po cap : Nat) (ha0 : 0 ≤ a) (ha : a < 9007199254740992) (hM : Met a 0 va vb S P sa sb w pb po cap) (hS : S = va) (hP : P = vb) :
    Calls Tryz.prog 8 #[.int .i64 a, .int .i64 0] w fun e w' => e = .returned (.bool true) ∧ Below w.heap.size w w' := by
  have q1 : decide (a < 0) = false := by simp; omega
  have q2 : decide (a ≥ 9007199254740992) = false := by simp; omega
  have za := hM.za
  have zb := hM.zb
  have H := Lib.hid hM
  clear hM
  go_enter Tryz.func8, Tryz.ntmps8
  go_wp2_with fail
  refine (awake_any _ _ _ _ H.out.tz.base).mono ?_
  rintro e w1 ⟨rfl, b1⟩
  have t1 := Lib.hid (H.out.tz.below b1)
  go_wp2_with fail
  refine (H.out.xa _).mono ?_
  rintro e w2 ⟨rfl, b2⟩
  have t2 := Lib.hid (t1.out.below b2)
  go_wp2_with fail
  refine (H.out.fa _ t2.out).mono ?_
  rintro e w3 ⟨rfl, b3⟩
  have t3 := Lib.hid (t2.out.below b3)
  go_wp2_with fail
  refine (H.out.xb _).mono ?_
  rintro e w4 ⟨rfl, b4⟩
  have t4 := Lib.hid (t3.out.below b4)
  go_wp2_with fail
  refine (H.out.fb _ t4.out).mono ?_
  rintro e w5 ⟨rfl, b5⟩
  go_wp2_with fail
  refine (H.out.xa _).mono ?_
  rintro e w6 ⟨rfl, b6⟩
  go_wp2_with fail
  refine (H.out.ia _).mono ?_
  rintro e w7 ⟨rfl, b7⟩
  go_wp2_with fail
  refine (H.out.add _).mono ?_
  rintro e w8 ⟨rfl, b8⟩
  go_wp2_with (first | (go_at_call 24; refine (H.out.ca _).mono ?_; rintro e w' ⟨rfl, rfl⟩) | (go_at_call 24; refine (H.out.cb _).mono ?_; rintro e w' ⟨rfl, rfl⟩))
  refine (H.out.mul _).mono ?_
  rintro e w9 ⟨rfl, b9⟩
  go_wp2_with (first | (go_at_call 24; refine (H.out.cb _).mono ?_; rintro e w' ⟨rfl, rfl⟩))
  go_ret
  exact ⟨rfl, below_step b1 (below_step b2 (below_step b3 (below_step b4 (below_step b5 (below_step b6 (below_step b7 (below_step b8 b9)))))))⟩
set_option maxRecDepth 100000 in
theorem whole_00 (a b : Int) (va vb S P : Nat) (sa sb : ByteArray) (w : World) (pb po cap : Nat) (ha0 : 0 ≤ a) (ha : a < 9007199254740992) (hb0 : 0 < b) (hb : b < 9007199254740992) (hM : Met a b va vb S P sa sb w pb po cap) (hs : ¬ a + b < 9007199254740992) (hq : 9007199254740991 / b < a) :
    Calls Tryz.prog 8 #[.int .i64 a, .int .i64 b] w fun e w' => e = .returned (.bool true) ∧ Below w.heap.size w w' := by
  have q1 : decide (a < 0) = false := by simp; omega
  have q2 : decide (a ≥ 9007199254740992) = false := by simp; omega
  have q3 : decide (b < 0) = false := by simp; omega
  have q4 : decide (b ≥ 9007199254740992) = false := by simp; omega
  have r1 : decide (b > 0) = true := by simp; omega
  have q5 : decide (a + b < 9007199254740992) = false := by simp; omega
  clear hs
  have r2 : decide (a > 9007199254740991 / b) = true := by simp; omega
  clear hq
  have za := hM.za
  have zb := hM.zb
  have H := Lib.hid hM
  clear hM
  go_enter Tryz.func8, Tryz.ntmps8
  go_wp2_with fail
  refine (awake_any _ _ _ _ H.out.tz.base).mono ?_
  rintro e w1 ⟨rfl, b1⟩
  have t1 := Lib.hid (H.out.tz.below b1)
  go_wp2_with fail
  refine (H.out.xa _).mono ?_
  rintro e w2 ⟨rfl, b2⟩
  have t2 := Lib.hid (t1.out.below b2)
  go_wp2_with fail
  refine (H.out.fa _ t2.out).mono ?_
  rintro e w3 ⟨rfl, b3⟩
  have t3 := Lib.hid (t2.out.below b3)
  go_wp2_with fail
  refine (H.out.xb _).mono ?_
  rintro e w4 ⟨rfl, b4⟩
  have t4 := Lib.hid (t3.out.below b4)
  go_wp2_with fail
  refine (H.out.fb _ t4.out).mono ?_
  rintro e w5 ⟨rfl, b5⟩
  go_wp2_with fail
  refine (H.out.xa _).mono ?_
  rintro e w6 ⟨rfl, b6⟩
  go_wp2_with fail
  refine (H.out.ia _).mono ?_
  rintro e w7 ⟨rfl, b7⟩
  go_wp2_with fail
  refine (H.out.add _).mono ?_
  rintro e w8 ⟨rfl, b8⟩
  go_wp2_with (first | (go_at_call 24; refine (H.out.ca _).mono ?_; rintro e w' ⟨rfl, rfl⟩) | (go_at_call 24; refine (H.out.cb _).mono ?_; rintro e w' ⟨rfl, rfl⟩))
  refine (H.out.mul _).mono ?_
  rintro e w9 ⟨rfl, b9⟩
  go_wp2_with (fail)
  go_ret
  exact ⟨rfl, below_step b1 (below_step b2 (below_step b3 (below_step b4 (below_step b5 (below_step b6 (below_step b7 (below_step b8 b9)))))))⟩
set_option maxRecDepth 100000 in
theorem whole_01 (a b : Int) (va vb S P : Nat) (sa sb : ByteArray) (w : World) (pb po cap : Nat) (ha0 : 0 ≤ a) (ha : a < 9007199254740992) (hb0 : 0 < b) (hb : b < 9007199254740992) (hM : Met a b va vb S P sa sb w pb po cap) (hs : ¬ a + b < 9007199254740992) (p : Int) (hp : a * b = p) (hp1 : 0 ≤ p) (hp2 : p < 9007199254740992) (hq : a ≤ 9007199254740991 / b) (hP : ∀ w, Calls Tryz.prog 24 #[.int .i64 p] w fun e w' => e = .returned (.int .u64 (P : Int)) ∧ w = w') :
    Calls Tryz.prog 8 #[.int .i64 a, .int .i64 b] w fun e w' => e = .returned (.bool true) ∧ Below w.heap.size w w' := by
  have q1 : decide (a < 0) = false := by simp; omega
  have q2 : decide (a ≥ 9007199254740992) = false := by simp; omega
  have q3 : decide (b < 0) = false := by simp; omega
  have q4 : decide (b ≥ 9007199254740992) = false := by simp; omega
  have r1 : decide (b > 0) = true := by simp; omega
  have q5 : decide (a + b < 9007199254740992) = false := by simp; omega
  clear hs
  have r2 : decide (a > 9007199254740991 / b) = false := by simp; omega
  have Hp := Lib.hid hP
  clear hP
  clear hq
  have za := hM.za
  have zb := hM.zb
  have H := Lib.hid hM
  clear hM
  go_enter Tryz.func8, Tryz.ntmps8
  go_wp2_with fail
  refine (awake_any _ _ _ _ H.out.tz.base).mono ?_
  rintro e w1 ⟨rfl, b1⟩
  have t1 := Lib.hid (H.out.tz.below b1)
  go_wp2_with fail
  refine (H.out.xa _).mono ?_
  rintro e w2 ⟨rfl, b2⟩
  have t2 := Lib.hid (t1.out.below b2)
  go_wp2_with fail
  refine (H.out.fa _ t2.out).mono ?_
  rintro e w3 ⟨rfl, b3⟩
  have t3 := Lib.hid (t2.out.below b3)
  go_wp2_with fail
  refine (H.out.xb _).mono ?_
  rintro e w4 ⟨rfl, b4⟩
  have t4 := Lib.hid (t3.out.below b4)
  go_wp2_with fail
  refine (H.out.fb _ t4.out).mono ?_
  rintro e w5 ⟨rfl, b5⟩
  go_wp2_with fail
  refine (H.out.xa _).mono ?_
  rintro e w6 ⟨rfl, b6⟩
  go_wp2_with fail
  refine (H.out.ia _).mono ?_
  rintro e w7 ⟨rfl, b7⟩
  go_wp2_with fail
  refine (H.out.add _).mono ?_
  rintro e w8 ⟨rfl, b8⟩
  go_wp2_with (first | (go_at_call 24; refine (H.out.ca _).mono ?_; rintro e w' ⟨rfl, rfl⟩) | (go_at_call 24; refine (H.out.cb _).mono ?_; rintro e w' ⟨rfl, rfl⟩))
  refine (H.out.mul _).mono ?_
  rintro e w9 ⟨rfl, b9⟩
  go_wp2_with (first | (go_at_call 24; refine (Hp.out _).mono ?_; rintro e w' ⟨rfl, rfl⟩))
  go_ret
  exact ⟨rfl, below_step b1 (below_step b2 (below_step b3 (below_step b4 (below_step b5 (below_step b6 (below_step b7 (below_step b8 b9)))))))⟩
set_option maxRecDepth 100000 in
theorem whole_10 (a b : Int) (va vb S P : Nat) (sa sb : ByteArray) (w : World) (pb po cap : Nat) (ha0 : 0 ≤ a) (ha : a < 9007199254740992) (hb0 : 0 < b) (hb : b < 9007199254740992) (hM : Met a b va vb S P sa sb w pb po cap) (hs : a + b < 9007199254740992) (hS : ∀ w, Calls Tryz.prog 24 #[.int .i64 (a + b)] w fun e w' => e = .returned (.int .u64 (S : Int)) ∧ w = w') (hq : 9007199254740991 / b < a) :
    Calls Tryz.prog 8 #[.int .i64 a, .int .i64 b] w fun e w' => e = .returned (.bool true) ∧ Below w.heap.size w w' := by
  have q1 : decide (a < 0) = false := by simp; omega
  have q2 : decide (a ≥ 9007199254740992) = false := by simp; omega
  have q3 : decide (b < 0) = false := by simp; omega
  have q4 : decide (b ≥ 9007199254740992) = false := by simp; omega
  have r1 : decide (b > 0) = true := by simp; omega
  have q5 : decide (a + b < 9007199254740992) = true := by simp; omega
  have Hs := Lib.hid hS
  clear hS
  clear hs
  have r2 : decide (a > 9007199254740991 / b) = true := by simp; omega
  clear hq
  have za := hM.za
  have zb := hM.zb
  have H := Lib.hid hM
  clear hM
  go_enter Tryz.func8, Tryz.ntmps8
  go_wp2_with fail
  refine (awake_any _ _ _ _ H.out.tz.base).mono ?_
  rintro e w1 ⟨rfl, b1⟩
  have t1 := Lib.hid (H.out.tz.below b1)
  go_wp2_with fail
  refine (H.out.xa _).mono ?_
  rintro e w2 ⟨rfl, b2⟩
  have t2 := Lib.hid (t1.out.below b2)
  go_wp2_with fail
  refine (H.out.fa _ t2.out).mono ?_
  rintro e w3 ⟨rfl, b3⟩
  have t3 := Lib.hid (t2.out.below b3)
  go_wp2_with fail
  refine (H.out.xb _).mono ?_
  rintro e w4 ⟨rfl, b4⟩
  have t4 := Lib.hid (t3.out.below b4)
  go_wp2_with fail
  refine (H.out.fb _ t4.out).mono ?_
  rintro e w5 ⟨rfl, b5⟩
  go_wp2_with fail
  refine (H.out.xa _).mono ?_
  rintro e w6 ⟨rfl, b6⟩
  go_wp2_with fail
  refine (H.out.ia _).mono ?_
  rintro e w7 ⟨rfl, b7⟩
  go_wp2_with fail
  refine (H.out.add _).mono ?_
  rintro e w8 ⟨rfl, b8⟩
  go_wp2_with (first | (go_at_call 24; refine (H.out.ca _).mono ?_; rintro e w' ⟨rfl, rfl⟩) | (go_at_call 24; refine (H.out.cb _).mono ?_; rintro e w' ⟨rfl, rfl⟩) | (go_at_call 24; refine (Hs.out _).mono ?_; rintro e w' ⟨rfl, rfl⟩))
  refine (H.out.mul _).mono ?_
  rintro e w9 ⟨rfl, b9⟩
  go_wp2_with (fail)
  go_ret
  exact ⟨rfl, below_step b1 (below_step b2 (below_step b3 (below_step b4 (below_step b5 (below_step b6 (below_step b7 (below_step b8 b9)))))))⟩
set_option maxRecDepth 100000 in
theorem whole_11 (a b : Int) (va vb S P : Nat) (sa sb : ByteArray) (w : World) (pb po cap : Nat) (ha0 : 0 ≤ a) (ha : a < 9007199254740992) (hb0 : 0 < b) (hb : b < 9007199254740992) (hM : Met a b va vb S P sa sb w pb po cap) (hs : a + b < 9007199254740992) (hS : ∀ w, Calls Tryz.prog 24 #[.int .i64 (a + b)] w fun e w' => e = .returned (.int .u64 (S : Int)) ∧ w = w') (p : Int) (hp : a * b = p) (hp1 : 0 ≤ p) (hp2 : p < 9007199254740992) (hq : a ≤ 9007199254740991 / b) (hP : ∀ w, Calls Tryz.prog 24 #[.int .i64 p] w fun e w' => e = .returned (.int .u64 (P : Int)) ∧ w = w') :
    Calls Tryz.prog 8 #[.int .i64 a, .int .i64 b] w fun e w' => e = .returned (.bool true) ∧ Below w.heap.size w w' := by
  have q1 : decide (a < 0) = false := by simp; omega
  have q2 : decide (a ≥ 9007199254740992) = false := by simp; omega
  have q3 : decide (b < 0) = false := by simp; omega
  have q4 : decide (b ≥ 9007199254740992) = false := by simp; omega
  have r1 : decide (b > 0) = true := by simp; omega
  have q5 : decide (a + b < 9007199254740992) = true := by simp; omega
  have Hs := Lib.hid hS
  clear hS
  clear hs
  have r2 : decide (a > 9007199254740991 / b) = false := by simp; omega
  have Hp := Lib.hid hP
  clear hP
  clear hq
  have za := hM.za
  have zb := hM.zb
  have H := Lib.hid hM
  clear hM
  go_enter Tryz.func8, Tryz.ntmps8
  go_wp2_with fail
  refine (awake_any _ _ _ _ H.out.tz.base).mono ?_
  rintro e w1 ⟨rfl, b1⟩
  have t1 := Lib.hid (H.out.tz.below b1)
  go_wp2_with fail
  refine (H.out.xa _).mono ?_
  rintro e w2 ⟨rfl, b2⟩
  have t2 := Lib.hid (t1.out.below b2)
  go_wp2_with fail
  refine (H.out.fa _ t2.out).mono ?_
  rintro e w3 ⟨rfl, b3⟩
  have t3 := Lib.hid (t2.out.below b3)
  go_wp2_with fail
  refine (H.out.xb _).mono ?_
  rintro e w4 ⟨rfl, b4⟩
  have t4 := Lib.hid (t3.out.below b4)
  go_wp2_with fail
  refine (H.out.fb _ t4.out).mono ?_
  rintro e w5 ⟨rfl, b5⟩
  go_wp2_with fail
  refine (H.out.xa _).mono ?_
  rintro e w6 ⟨rfl, b6⟩
  go_wp2_with fail
  refine (H.out.ia _).mono ?_
  rintro e w7 ⟨rfl, b7⟩
  go_wp2_with fail
  refine (H.out.add _).mono ?_
  rintro e w8 ⟨rfl, b8⟩
  go_wp2_with (first | (go_at_call 24; refine (H.out.ca _).mono ?_; rintro e w' ⟨rfl, rfl⟩) | (go_at_call 24; refine (H.out.cb _).mono ?_; rintro e w' ⟨rfl, rfl⟩) | (go_at_call 24; refine (Hs.out _).mono ?_; rintro e w' ⟨rfl, rfl⟩))
  refine (H.out.mul _).mono ?_
  rintro e w9 ⟨rfl, b9⟩
  go_wp2_with (first | (go_at_call 24; refine (Hp.out _).mono ?_; rintro e w' ⟨rfl, rfl⟩))
  go_ret
  exact ⟨rfl, below_step b1 (below_step b2 (below_step b3 (below_step b4 (below_step b5 (below_step b6 (below_step b7 (below_step b8 b9)))))))⟩
end Go.Proofs.YtgncihoioacgjaaGreatDoor
