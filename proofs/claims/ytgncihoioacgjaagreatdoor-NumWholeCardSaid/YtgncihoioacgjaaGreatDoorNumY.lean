import Derived.Test.YtgncihoioacgjaaGreatDoorNumX
import Derived.Test.YtgncihoioacgjaaGreatDoorNumFloat2
namespace Go.Proofs.YtgncihoioacgjaaGreatDoor
open Go.Instr Go.RowKit NumF
set_option linter.unusedVariables false
set_option maxHeartbeats 1000000
theorem special_any (s : ByteArray) (hpos : 0 < s.size) (h1 : 48 ≤ s[0].toNat) (h2 : s[0].toNat ≤ 57) (w : World) : Calls Tryz.prog 99 #[.string s] w fun e w' => e = .returned (.tuple #[.float .f64 0, .int .i64 0, .bool false]) ∧ w = w' := by
  have hne : ¬ s = ByteArray.empty := by rintro rfl; simp at hpos
  have hneB : decide (s = ByteArray.empty) = false := decide_eq_false hne
  have g1 : ((s[0].toNat : Int) == 43) = false := by rw [beq_eq_false_iff_ne]; omega
  have g2 : ((s[0].toNat : Int) == 45) = false := by rw [beq_eq_false_iff_ne]; omega
  have g3 : ((s[0].toNat : Int) == 105) = false := by rw [beq_eq_false_iff_ne]; omega
  have g4 : ((s[0].toNat : Int) == 73) = false := by rw [beq_eq_false_iff_ne]; omega
  have g5 : ((s[0].toNat : Int) == 110) = false := by rw [beq_eq_false_iff_ne]; omega
  have g6 : ((s[0].toNat : Int) == 78) = false := by rw [beq_eq_false_iff_ne]; omega
  go_enter Tryz.func99, Tryz.ntmps99
  go_wp2
  go_ret3
  exact ⟨rfl, rfl⟩
theorem flt_of_nat (d : Nat) : floatOfInt .f64 (d : Int) = N d := by
  unfold floatOfInt FloatKind.nearest FloatKind.encode N
  have h1 : decide ((d : Int) < 0) = false := decide_eq_false (by omega)
  simp only [h1, Int.natAbs_natCast]
  rfl
/-- What strconv's exact way reads. -/
structure Pows (w : World) (pb po cap : Nat) : Prop where
  info : w.cell? ⟨6, 0, none⟩ = some (.int .u64 52)
  pows : w.cell? ⟨9, 0, none⟩ = some (.slice (some ⟨pb, po, none⟩) 23 cap)
  ten : w.cell? ⟨pb, po + 1, none⟩ = some (.float .f64 4621819117588971520)
  hun : w.cell? ⟨pb, po + 2, none⟩ = some (.float .f64 4636737291354636288)
theorem exact_1 (w : World) (pb po cap a : Nat) (hp : Pows w pb po cap) (ha : a * 10 < 4503599627370496) :
    Calls Tryz.prog 110 #[.int .u64 ((a * 10 : Nat) : Int), .int .i64 (-1), .bool false] w fun e w' => e = .returned (.tuple #[.float .f64 (N a), .bool true]) ∧ w = w' := by
  have h6 := hp.info
  have h9 := hp.pows
  have hc := hp.ten
  clear hp
  have e1 := flt_of_nat (a * 10)
  have q := YtgncihoioacgjaaGreatDoordiv a 10 (by omega) (by omega) (by omega) (by omega)
  rw [N10] at q
  have hq := run_float_arith (P := Tryz.prog) w .quo 56 .f64 (N (a * 10)) 4621819117588971520 (N a) q
  clear q
  have hs : ((a * 10 : Nat) : Int) / 4503599627370496 = 0 := by omega
  generalize a * 10 = d at *
  have hd : (d : Int) < 4503599627370496 := by omega
  go_enter Tryz.func110, Tryz.ntmps110
  go_wp2
  go_ret2
  exact ⟨rfl, rfl⟩
theorem exact_2 (w : World) (pb po cap a : Nat) (hp : Pows w pb po cap) (ha : a * 100 < 4503599627370496) :
    Calls Tryz.prog 110 #[.int .u64 ((a * 100 : Nat) : Int), .int .i64 (-2), .bool false] w fun e w' => e = .returned (.tuple #[.float .f64 (N a), .bool true]) ∧ w = w' := by
  have h6 := hp.info
  have h9 := hp.pows
  have hc := hp.hun
  clear hp
  have e1 := flt_of_nat (a * 100)
  have q := YtgncihoioacgjaaGreatDoordiv a 100 (by omega) (by omega) (by omega) (by omega)
  rw [N100] at q
  have hq := run_float_arith (P := Tryz.prog) w .quo 56 .f64 (N (a * 100)) 4636737291354636288 (N a) q
  clear q
  have hs : ((a * 100 : Nat) : Int) / 4503599627370496 = 0 := by omega
  generalize a * 100 = d at *
  have hd : (d : Int) < 4503599627370496 := by omega
  go_enter Tryz.func110, Tryz.ntmps110
  go_wp2
  go_ret2
  exact ⟨rfl, rfl⟩
theorem exact_no (w : World) (d : Nat) (p : Int) (h6 : w.cell? ⟨6, 0, none⟩ = some (.int .u64 52)) (hd : 4503599627370496 ≤ d) (hd2 : d < 18446744073709551616) :
    Calls Tryz.prog 110 #[.int .u64 (d : Int), .int .i64 p, .bool false] w fun e w' => e = .returned (.tuple #[.float .f64 0, .bool false]) ∧ w = w' := by
  have hs : ((d : Int) / 4503599627370496 != 0) = true := by rw [bne_iff_ne]; omega
  go_enter Tryz.func110, Tryz.ntmps110
  go_wp2
  go_ret2
  exact ⟨rfl, rfl⟩
end Go.Proofs.YtgncihoioacgjaaGreatDoor
