import Derived.Test.YtgncihoioacgjaaGreatDoorNumW
import Derived.WalkMore
namespace Go.Proofs.YtgncihoioacgjaaGreatDoor
open Go.Instr Go.RowKit NumF
set_option linter.unusedVariables false
set_option maxHeartbeats 2000000
/-- A text of digits, a point and noughts: L digits that say n, the first one no 0; z noughts. -/
structure Txt (s : ByteArray) (L z n : Nat) (m : Nat → Nat) : Prop where
  size : s.size = L + 1 + z
  L1 : 1 ≤ L
  L2 : L ≤ 16
  z1 : 1 ≤ z
  z2 : z ≤ 2
  dig : ∀ (k : Nat) (_ : k < L) (h : k < s.size), 48 ≤ s[k].toNat ∧ s[k].toNat ≤ 57
  head : ∀ (h : 0 < s.size), 49 ≤ s[0].toNat
  dot : ∀ (h : L < s.size), s[L] = 46
  zero : ∀ (j : Nat) (h : L + 1 + j < s.size), s[L + 1 + j] = 48
  m0 : m 0 = 0
  step : ∀ (k : Nat) (_ : k < L) (h : k < s.size), m (k + 1) = 10 * m k + (s[k].toNat - 48)
  mL : m L = n
  le : ∀ k, k ≤ L → m k ≤ n
  n1 : 1 ≤ n
  n2 : n < 9007199254740992
theorem vint {k : IntKind} {a b : Int} (h : a = b) : Value.int k a = Value.int k b := by rw [h]
set_option maxRecDepth 100000 in
theorem readFloat_any (s : ByteArray) (L z n : Nat) (m : Nat → Nat) (ht : Txt s L z n m) (w : World) :
    Calls Tryz.prog 100 #[.string s] w fun e w' => e = .returned (.tuple #[.int .u64 ((n * 10 ^ z : Nat) : Int), .int .i64 (-(z : Int)), .bool false, .bool false, .bool false, .int .i64 ((L + 1 + z : Nat) : Int), .bool true]) ∧ w = w' := by
  have hsz := ht.size
  have hL1 := ht.L1
  have hL2 := ht.L2
  have hz1 := ht.z1
  have hz2 := ht.z2
  have hpos : 0 < s.size := by omega
  have hd0 := ht.dig 0 (by omega) hpos
  have hh0 := ht.head hpos
  have g1 : ((s[0].toNat : Int) == 43) = false := by rw [beq_eq_false_iff_ne]; omega
  have g2 : ((s[0].toNat : Int) == 45) = false := by rw [beq_eq_false_iff_ne]; omega
  have g3 : ((s[0].toNat : Int) == 48) = false := by rw [beq_eq_false_iff_ne]; omega
  have g4 : (2 : Int) < (s.size : Int) := by omega
  have hszI : (s.size : Int) ≤ 19 := by omega
  have hne : ¬ s = ByteArray.empty := by rintro rfl; simp at hpos
  have hneB : decide (s = ByteArray.empty) = false := decide_eq_false hne
  have Hsz := Lib.hid hsz
  clear hsz
  go_enter Tryz.func100, Tryz.ntmps100
  go_wp2_with fail
  go_step3
  go_wp2_with fail
  go_step3
  go_wp2_with fail
  go_loop [2, 5, 7, 9, 13, 14, 15, 16, 17] (fun mant tr i us sd sg nd nm dp => tr = .bool false ∧ us = .bool false ∧ ((∃ k : Nat, k ≤ L ∧ i = .int .i64 k ∧ mant = .int .u64 (m k) ∧ sd = .bool false ∧ sg = .bool (decide (0 < k)) ∧ nd = .int .i64 k ∧ nm = .int .i64 k ∧ dp = .int .i64 0) ∨
    (∃ j I Q M : Nat, j ≤ z ∧ I = L + 1 + j ∧ Q = L + j ∧ M = n * 10 ^ j ∧ i = .int .i64 I ∧ mant = .int .u64 M ∧ sd = .bool true ∧ sg = .bool true ∧ nd = .int .i64 Q ∧ nm = .int .i64 Q ∧ dp = .int .i64 L)))
    (fun _ _ i _ _ _ _ _ _ => 30 - (intOf i).toNat)
  case atStart => exact ⟨rfl, rfl, .inl ⟨0, by omega, rfl, by rw [ht.m0]; rfl, rfl, rfl, rfl, rfl, rfl⟩⟩
  case round =>
    obtain ⟨rfl, rfl, ⟨k, hk, rfl, rfl, rfl, rfl, rfl, rfl, rfl⟩ | ⟨j, I, Q, M, hj, hI, hQ, hM, rfl, rfl, rfl, rfl, rfl, rfl, rfl⟩⟩ := hrel
    · by_cases hkL : k < L
      · have hks : k < s.size := by have := Hsz.out; omega
        obtain ⟨d1, d2⟩ := ht.dig k hkL hks
        have hstep := Lib.hid (ht.step k hkL hks)
        have hle : m k ≤ 9007199254740992 := by have := ht.le k hk; have := ht.n2; omega
        have e1 : ((s[k].toNat : Int) == 95) = false := by rw [beq_eq_false_iff_ne]; omega
        have e2 : ((s[k].toNat : Int) == 46) = false := by rw [beq_eq_false_iff_ne]; omega
        have e3 : decide ((48 : Int) ≤ (s[k].toNat : Int)) = true := by simp; omega
        have e4 : decide ((s[k].toNat : Int) ≤ 57) = true := by simp; omega
        have e5 : (k : Int) < 19 := by omega
        cases e7 : ((s[k].toNat : Int) == 48)
        · go_wp2
          go_round
          case rel => exact ⟨rfl, rfl, .inl ⟨k + 1, by omega, by go_num, vint (by rw [hstep.out]; omega), rfl, by simp, by go_num, by go_num, rfl⟩⟩
          case measure => simp [intOf]; omega
        · have hk0 : ¬ k = 0 := by
            rintro rfl
            rw [g3] at e7; cases e7
          have e6 : ((k : Int) == 0) = false := by rw [beq_eq_false_iff_ne]; omega
          go_wp2
          go_round
          case rel => exact ⟨rfl, rfl, .inl ⟨k + 1, by omega, by go_num, vint (by rw [hstep.out]; omega), rfl, by simp, by go_num, by go_num, rfl⟩⟩
          case measure => simp [intOf]; omega
      · obtain rfl : k = L := by omega
        have hks : k < s.size := by have := Hsz.out; omega
        have e1 : s[k] = 46 := ht.dot hks
        have e2 : decide (0 < k) = true := by simp; omega
        go_wp2
        go_round
        case rel => exact ⟨rfl, rfl, .inr ⟨0, k + 1, k, n, by omega, by omega, by omega, by simp, by go_num, by rw [ht.mL], rfl, congrArg Value.bool e2, rfl, rfl, rfl⟩⟩
        case measure => simp [intOf]; omega
    · by_cases hjz : j < z
      · have hks : I < s.size := by have := Hsz.out; omega
        have e1 : s[I] = 48 := by subst hI; exact ht.zero j hks
        have e6 : ((Q : Int) == 0) = false := by rw [beq_eq_false_iff_ne]; omega
        have e5 : (Q : Int) < 19 := by omega
        have hMb : M ≤ 900719925474099200 := by
          have := ht.n2
          have hj1 : j = 0 ∨ j = 1 := by omega
          rcases hj1 with rfl | rfl
          · simp at hM; omega
          · simp at hM; omega
        have HI := Lib.hid hI
        have HQ := Lib.hid hQ
        have HM := Lib.hid hM
        have hI2 : I ≤ 19 := by omega
        clear hI hQ hM
        go_wp2
        go_round
        case rel => exact ⟨rfl, rfl, .inr ⟨j + 1, I + 1, Q + 1, M * 10, by omega, by have := HI.out; omega, by have := HQ.out; omega, by rw [HM.out, Nat.pow_succ]; ac_rfl, by go_num, by go_num, rfl, rfl, by go_num, by go_num, rfl⟩⟩
        case measure => simp [intOf]; omega
      · obtain rfl : j = z := by omega
        have hIs : (I : Int) = (s.size : Int) := by have := Hsz.out; omega
        have hnlt : ¬ (I : Int) < (s.size : Int) := by omega
        have hn0 : ((M : Int) != 0) = true := by
          rw [bne_iff_ne]
          have : 0 < 10 ^ j := Nat.pow_pos (by omega)
          have : 0 < n * 10 ^ j := Nat.mul_pos ht.n1 this
          omega
        have HI := Lib.hid hI
        have HQ := Lib.hid hQ
        have HM := Lib.hid hM
        have hQ2 : Q ≤ 19 := by omega
        have r1 : (L : Int) - (Q : Int) = -(j : Int) := by omega
        have r2 : (I : Int) = ((L + 1 + j : Nat) : Int) := by omega
        have R1 := Lib.hid r1
        have R2 := Lib.hid r2
        clear hI hQ hM hIs r1 r2
        go_wp2
        refine bodyPost_ret (v := .tuple #[.int .u64 (M : Int), .int .i64 ((L : Int) - (Q : Int)), .bool false, .bool false, .bool false, .int .i64 (I : Int), .bool true]) (by simp [results, Tryz.results100, go_sem]) rfl ⟨?_, rfl⟩
        rw [R1.out, R2.out, HM.out]
end Go.Proofs.YtgncihoioacgjaaGreatDoor
