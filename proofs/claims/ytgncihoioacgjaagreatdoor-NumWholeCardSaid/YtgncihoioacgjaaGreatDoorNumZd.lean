import Derived.Test.YtgncihoioacgjaaGreatDoorNumZb
import Derived.Test.YtgncihoioacgjaaGreatDoorNumM
namespace Go.Proofs.YtgncihoioacgjaaGreatDoor
open Go.Instr Go.RowKit NumF
set_option linter.unusedVariables false
set_option maxHeartbeats 1000000
/-- What strconv reads of its tables. -/
structure Tabz (w : World) (pb po cap : Nat) : Prop where
  base : Tabs w pb po cap
  hun : w.cell? ⟨pb, po + 2, none⟩ = some (.float .f64 4636737291354636288)
  h1 : w.cell? ⟨10, 694, none⟩ = some (.int .u64 14757395258967641293)
  l1 : w.cell? ⟨10, 695, none⟩ = some (.int .u64 3689348814741910323)
  h2 : w.cell? ⟨10, 692, none⟩ = some (.int .u64 11805916207174113035)
  l2 : w.cell? ⟨10, 693, none⟩ = some (.int .u64 14019525496019259228)
theorem Tabz.below {w w1 : World} {pb po cap : Nat} (h : Tabz w pb po cap) (hb : Below w.heap.size w w1) : Tabz w1 pb po cap :=
  ⟨h.base.below hb, (hb.cell (World.block_lt_of_cell? _ _ h.hun)).trans h.hun, (hb.cell (World.block_lt_of_cell? _ _ h.h1)).trans h.h1, (hb.cell (World.block_lt_of_cell? _ _ h.l1)).trans h.l1, (hb.cell (World.block_lt_of_cell? _ _ h.h2)).trans h.h2, (hb.cell (World.block_lt_of_cell? _ _ h.l2)).trans h.l2⟩
theorem Tabz.pw {w : World} {pb po cap : Nat} (h : Tabz w pb po cap) : Pows w pb po cap := ⟨h.base.info, h.base.pows, h.base.ten, h.hun⟩
theorem pf_1 (w : World) (pb po cap : Nat) (ht : Tabz w pb po cap) (d a : Nat) (hd : d = a * 10) (ha : a < 9007199254740992) (h1 : 4503599627370496 ≤ d) :
    Calls Tryz.prog 111 #[.int .u64 (d : Int), .int .i64 (-1), .int .u64 0] w fun e w' => e = .returned (.tuple #[.float .f64 (N a), .nilIface]) ∧ Below w.heap.size w w' := by
  by_cases b1 : d < 9007199254740992
  · exact pf_10_53 w ht.h1 ht.l1 d a hd ha (by omega) (by omega)
  by_cases b2 : d < 18014398509481984
  · exact pf_10_54 w ht.h1 ht.l1 d a hd ha (by omega) (by omega)
  by_cases b3 : d < 36028797018963968
  · exact pf_10_55 w ht.h1 ht.l1 d a hd ha (by omega) (by omega)
  by_cases b4 : d < 72057594037927936
  · exact pf_10_56 w ht.h1 ht.l1 d a hd ha (by omega) (by omega)
  · exact pf_10_57 w ht.h1 ht.l1 d a hd ha (by omega) (by omega)
theorem pf_2 (w : World) (pb po cap : Nat) (ht : Tabz w pb po cap) (d a : Nat) (hd : d = a * 100) (ha : a < 9007199254740992) (h1 : 4503599627370496 ≤ d) :
    Calls Tryz.prog 111 #[.int .u64 (d : Int), .int .i64 (-2), .int .u64 0] w fun e w' => e = .returned (.tuple #[.float .f64 (N a), .nilIface]) ∧ Below w.heap.size w w' := by
  by_cases b1 : d < 9007199254740992
  · exact pf_100_53 w ht.h2 ht.l2 d a hd ha (by omega) (by omega)
  by_cases b2 : d < 18014398509481984
  · exact pf_100_54 w ht.h2 ht.l2 d a hd ha (by omega) (by omega)
  by_cases b3 : d < 36028797018963968
  · exact pf_100_55 w ht.h2 ht.l2 d a hd ha (by omega) (by omega)
  by_cases b4 : d < 72057594037927936
  · exact pf_100_56 w ht.h2 ht.l2 d a hd ha (by omega) (by omega)
  by_cases b5 : d < 144115188075855872
  · exact pf_100_57 w ht.h2 ht.l2 d a hd ha (by omega) (by omega)
  by_cases b6 : d < 288230376151711744
  · exact pf_100_58 w ht.h2 ht.l2 d a hd ha (by omega) (by omega)
  by_cases b7 : d < 576460752303423488
  · exact pf_100_59 w ht.h2 ht.l2 d a hd ha (by omega) (by omega)
  · exact pf_100_60 w ht.h2 ht.l2 d a hd ha (by omega) (by omega)
set_option maxRecDepth 100000 in
theorem atof_exact (s : ByteArray) (L z n : Nat) (m : Nat → Nat) (ht : Txt s L z n m) (d : Nat) (hd : d = n * 10 ^ z) (w : World) (h5 : w.cell? ⟨5, 0, none⟩ = some (.bool true))
    (hex : Calls Tryz.prog 110 #[.int .u64 (d : Int), .int .i64 (-(z : Int)), .bool false] w fun e w' => e = .returned (.tuple #[.float .f64 (N n), .bool true]) ∧ w = w') :
    Calls Tryz.prog 95 #[.string s] w fun e w' => e = .returned (.tuple #[.float .f64 (N n), .int .i64 ((L + 1 + z : Nat) : Int), .nilIface]) ∧ Below w.heap.size w w' := by
  have hr := readFloat_any s L z n m ht w
  rw [← hd] at hr
  have hpos : 0 < s.size := by rw [ht.size]; omega
  have hsp := Lib.hid (special_any s hpos (by have := ht.head hpos; omega) ((ht.dig 0 ht.L1 hpos).2) w)
  have hd0 : ((d : Int) == 0) = false := by
    rw [beq_eq_false_iff_ne, hd]
    have := ht.n1
    have : 0 < n * 10 ^ z := Nat.mul_pos this (Nat.pow_pos (by omega))
    omega
  have hz1 := ht.z1
  have hz2 := ht.z2
  obtain ⟨Z, hZ⟩ : ∃ Z : Int, Z = -(z : Int) := ⟨_, rfl⟩
  obtain ⟨I, hI⟩ : ∃ I : Int, I = ((L + 1 + z : Nat) : Int) := ⟨_, rfl⟩
  rw [← hZ, ← hI] at hr
  rw [← hZ] at hex
  rw [← hI]
  have q1 : decide (Z > 310) = false := by simp; omega
  have q2 : decide (Z < -345) = false := by simp; omega
  have hr := Lib.hid hr
  have hex := Lib.hid hex
  clear ht hd hZ hI hz1 hz2
  go_enter Tryz.func95, Tryz.ntmps95
  go_wp2_with (first | (go_at_call 99; refine hsp.out.mono ?_; rintro e w' ⟨rfl, rfl⟩) | (go_at_call 100; refine hr.out.mono ?_; rintro e w' ⟨rfl, rfl⟩) | (go_at_call 108; refine (b2u_no _).mono ?_; rintro e w' ⟨rfl, rfl⟩) | (go_at_call 110; refine hex.out.mono ?_; rintro e w' ⟨rfl, rfl⟩))
  go_ret3
  exact ⟨rfl, Below.refl _ _⟩
set_option maxRecDepth 100000 in
theorem atof_scaled (s : ByteArray) (L z n : Nat) (m : Nat → Nat) (ht : Txt s L z n m) (d : Nat) (hd : d = n * 10 ^ z) (w : World) (h5 : w.cell? ⟨5, 0, none⟩ = some (.bool true))
    (hex : Calls Tryz.prog 110 #[.int .u64 (d : Int), .int .i64 (-(z : Int)), .bool false] w fun e w' => e = .returned (.tuple #[.float .f64 0, .bool false]) ∧ w = w')
    (hpf : Calls Tryz.prog 111 #[.int .u64 (d : Int), .int .i64 (-(z : Int)), .int .u64 0] w fun e w' => e = .returned (.tuple #[.float .f64 (N n), .nilIface]) ∧ Below w.heap.size w w') :
    Calls Tryz.prog 95 #[.string s] w fun e w' => e = .returned (.tuple #[.float .f64 (N n), .int .i64 ((L + 1 + z : Nat) : Int), .nilIface]) ∧ Below w.heap.size w w' := by
  have hr := readFloat_any s L z n m ht w
  rw [← hd] at hr
  have hpos : 0 < s.size := by rw [ht.size]; omega
  have hsp := Lib.hid (special_any s hpos (by have := ht.head hpos; omega) ((ht.dig 0 ht.L1 hpos).2) w)
  have hd0 : ((d : Int) == 0) = false := by
    rw [beq_eq_false_iff_ne, hd]
    have := ht.n1
    have : 0 < n * 10 ^ z := Nat.mul_pos this (Nat.pow_pos (by omega))
    omega
  have hz1 := ht.z1
  have hz2 := ht.z2
  obtain ⟨Z, hZ⟩ : ∃ Z : Int, Z = -(z : Int) := ⟨_, rfl⟩
  obtain ⟨I, hI⟩ : ∃ I : Int, I = ((L + 1 + z : Nat) : Int) := ⟨_, rfl⟩
  rw [← hZ, ← hI] at hr
  rw [← hZ] at hex
  rw [← hZ] at hpf
  rw [← hI]
  have q1 : decide (Z > 310) = false := by simp; omega
  have q2 : decide (Z < -345) = false := by simp; omega
  have hr := Lib.hid hr
  have hex := Lib.hid hex
  have hpf := Lib.hid hpf
  clear ht hd hZ hI hz1 hz2
  go_enter Tryz.func95, Tryz.ntmps95
  go_wp2_with (first | (go_at_call 99; refine hsp.out.mono ?_; rintro e w' ⟨rfl, rfl⟩) | (go_at_call 100; refine hr.out.mono ?_; rintro e w' ⟨rfl, rfl⟩) | (go_at_call 108; refine (b2u_no _).mono ?_; rintro e w' ⟨rfl, rfl⟩) | (go_at_call 110; refine hex.out.mono ?_; rintro e w' ⟨rfl, rfl⟩) | (go_at_call 111; refine hpf.out.mono ?_; rintro e w1 ⟨rfl, hb⟩))
  go_ret3
  exact ⟨rfl, hb⟩
end Go.Proofs.YtgncihoioacgjaaGreatDoor
