/- The document's own scanner: numbers, a point and digits. -/
/- The document's own scanner: numbers, whole. -/
import Derived.Test.YthhfgjcdopkmgaaGreatDoorRfF
import Derived.Test.YthhfgjcdopkmgaaGreatDoorRfFa
set_option maxRecDepth 100000
namespace Go.Proofs.YthhfgjcdopkmgaaGreatDoor
open Go.Instr Go.RowKit ScnT
set_option linter.unusedVariables false
set_option linter.unusedSimpArgs false

set_option maxHeartbeats 8000000 in
theorem rfNumber_point (S : ByteArray) (a A B : Nat) (w : World) (hS : S.size ≤ 100000) (hlt : a < S.size) (h1 : 1 ≤ A) (hA : tw isDg S a = A) (hlt2 : a + A + 1 < S.size) (hAs : a + A < S.size) (hdot : S[a + A] = 46) (hno : isDg S[a + A + 1] = true) (hB0 : tw isDg S (a + A + 1) = B) :
    Calls Tryz.prog 60 #[.string S, .int .i64 a] w fun e w' => rdT (numberT (restB S a)) a e ∧ Below w.heap.size w w' := by
  have hAl := tw_le isDg S a
  rw [hA] at hAl
  have HDA0 := Lib.hid (fun w => rfDigits_any S a w hS (by omega))
  rw [hA] at HDA0
  have HDA : Hid (∀ w, Calls Tryz.prog 119 #[.string S, .int .i64 (a : Int)] w fun e w' => e = .returned (.int .i64 ((a : Int) + (A : Int))) ∧ w = w') := fun w => by
    have := HDA0.out w
    rw [show ((a + A : Nat) : Int) = (a : Int) + (A : Int) by omega] at this
    exact this
  clear HDA0
  have hp : (lookB (restB S (a + A)) 0 == 46 && isDg (lookB (restB S (a + A)) 1)) = true := by
    rw [show lookB (restB S (a + A)) 0 = S[a + A] from look_in S (a + A) 0 hAs, look_in S (a + A) 1 hlt2, hdot, hno]
    rfl
  have hB : (if true then tw isDg S (a + A + 1) else 0) = B := hB0
  have hBl := tw_le isDg S (a + A + 1)
  rw [hB0] at hBl
  have HDB : Hid (∀ w, Calls Tryz.prog 119 #[.string S, .int .i64 ((a : Int) + (A : Int) + 1)] w fun e w' => e = .returned (.int .i64 ((a : Int) + (A : Int) + 1 + (B : Int))) ∧ w = w') := fun w => by
    have := rfDigits_any S (a + A + 1) w hS (by omega)
    rw [hB0] at this
    rw [show ((a + A + 1 + B : Nat) : Int) = (a : Int) + (A : Int) + 1 + (B : Int) by omega, show ((a + A + 1 : Nat) : Int) = (a : Int) + (A : Int) + 1 by omega] at this
    exact this
  have p1 : (a : Int) + (A : Int) + 1 < (S.size : Int) := by omega
  have p2 : ((S[a + A].toNat : Int) == 46) = true := by rw [hdot]; rfl
  have HDG : Hid (∀ w, Calls Tryz.prog 59 #[.int .u8 (S[a + A + 1].toNat : Int)] w fun e w' => e = .returned (.bool true) ∧ w = w') := fun w => by
    have := rfDigit_any S[a + A + 1] w
    rw [hno] at this
    exact this
  have p3 : (0 : Int) ≤ (a : Int) + (A : Int) + 1 := by omega
  have p4 : ((a : Int) + (A : Int) + 1).toNat = a + A + 1 := by omega
  clear hdot hB0
  have HG := Lib.hid (fun c hc => num_goal (S := S) (a := a) (A := A) (B := B) (E := a + (A + 1 + B)) (kd := 4) (p := true) hlt h1 hA hp hB rfl (by omega) rfl c hc)
  clear hA hp hB
  have a0 : (0 : Int) ≤ (a : Int) := by omega
  have a1 : (a : Int) < (S.size : Int) := by omega
  have e0 : (0 : Int) ≤ (a : Int) + (A : Int) + 1 + (B : Int) := by omega
  have e1 : (a : Int) ≤ (a : Int) + (A : Int) + 1 + (B : Int) := by omega
  have e2 : (a : Int) + (A : Int) + 1 + (B : Int) ≤ (S.size : Int) := by omega
  have e3 : ((a : Int) + (A : Int) + 1 + (B : Int)).toNat = a + (A + 1 + B) := by omega
  have HEC : Hid (((a + (A + 1 + B) : Nat) : Int) = (a : Int) + (A : Int) + 1 + (B : Int)) := by show _ = _; omega

  by_cases h48 : S[a] = 48
  · have f48 : ((S[a].toNat : Int) == 48) = true := by rw [h48]; rfl
    by_cases hA1 : 1 < A
    · have q1 : (a : Int) + 1 < (a : Int) + (A : Int) := by omega
      have q2 : (1 : Int) < (A : Int) := by omega
      have HOK : Hid (rdT (numberT (restB S a)) a (.returned (.tuple #[.agg #[.int .u8 4, .string (S.extract a (a + (A + 1 + B))), .int .i64 (a : Int)], .int .i64 ((a : Int) + (A : Int) + 1 + (B : Int)), .bool false]))) := by
        have h := HG.out false (by rw [h48, show (A == 1) = false from by simp; omega]; rfl)
        rw [HEC.out] at h
        exact h
      clear HG
      try clear hlk
      try clear hlet
      try clear hz
      try clear h46
      try clear h48
      try clear hno
      go_enter Tryz.func60, Tryz.ntmps60
      go_wp2_with fail
      refine (HDA.out _).mono ?_
      rintro e w' ⟨rfl, rfl⟩
      go_wp2_with fail
      refine (HDG.out _).mono ?_
      rintro e w' ⟨rfl, rfl⟩
      go_wp2_with fail
      refine (HDB.out _).mono ?_
      rintro e w' ⟨rfl, rfl⟩
      go_wp2_with fail
      refine (HDA.out _).mono ?_
      rintro e w' ⟨rfl, rfl⟩
      go_wp2_with fail
      refine bodyPost_ret (v := .tuple #[.agg #[.int .u8 4, .string (S.extract a (a + (A + 1 + B))), .int .i64 (a : Int)], .int .i64 ((a : Int) + (A : Int) + 1 + (B : Int)), .bool false]) (by first | (simp [results, Tryz.results60, go_sem]; done) | (simp [results, Tryz.results60, go_sem]; omega)) rfl ⟨?_, ?_⟩
      · exact HOK.out
      · exact ((Below.refl _ _).alloc (Nat.le_refl _) _).alloc (by simp) _
    · have q1 : ¬ ((a : Int) + 1 < (a : Int) + (A : Int)) := by omega
      have q2 : ¬ ((1 : Int) < (A : Int)) := by omega
      have hz : (S[a] != 48 || A == 1) = true := by rw [h48]; simp; omega
      by_cases hn : A + B ≤ 40
      · have n1 : ¬ (40 < (a : Int) + (A : Int) - (a : Int) + ((a : Int) + (A : Int) + 1 + (B : Int)) - ((a : Int) + (A : Int)) - 1) := by omega
        by_cases hend : a + (A + 1 + B) < S.size
        · have t4 : (a : Int) + (A : Int) + 1 + (B : Int) < (S.size : Int) := by omega
          have hlk : lookB (restB S (a + (A + 1 + B))) 0 = S[a + (A + 1 + B)] := look_in S (a + (A + 1 + B)) 0 hend
          have HLt : Hid (∀ w, Calls Tryz.prog 54 #[.int .u8 (S[a + (A + 1 + B)].toNat : Int)] w fun e w' => e = .returned (.bool (isLt S[a + (A + 1 + B)])) ∧ w = w') := fun w => rfLetter_any _ w
          cases hlet : isLt S[a + (A + 1 + B)]
          · rw [hlet] at HLt
            by_cases h46 : S[a + (A + 1 + B)] = 46
            · have f46 : ((S[a + (A + 1 + B)].toNat : Int) == 46) = true := by rw [h46]; rfl
              have HOK : Hid (rdT (numberT (restB S a)) a (.returned (.tuple #[.agg #[.int .u8 4, .string (S.extract a (a + (A + 1 + B))), .int .i64 (a : Int)], .int .i64 ((a : Int) + (A : Int) + 1 + (B : Int)), .bool false]))) := by
                have h := HG.out false (by rw [hlk, h46]; simp)
                rw [HEC.out] at h
                exact h
              clear HG
              try clear hlk
              try clear hlet
              try clear hz
              try clear h46
              try clear h48
              try clear hno
              go_enter Tryz.func60, Tryz.ntmps60
              go_wp2_with fail
              refine (HDA.out _).mono ?_
              rintro e w' ⟨rfl, rfl⟩
              go_wp2_with fail
              refine (HDG.out _).mono ?_
              rintro e w' ⟨rfl, rfl⟩
              go_wp2_with fail
              refine (HDB.out _).mono ?_
              rintro e w' ⟨rfl, rfl⟩
              go_wp2_with fail
              refine (HDA.out _).mono ?_
              rintro e w' ⟨rfl, rfl⟩
              go_wp2_with fail
              refine (HLt.out _).mono ?_
              rintro e w' ⟨rfl, rfl⟩
              go_wp2_with fail
              refine bodyPost_ret (v := .tuple #[.agg #[.int .u8 4, .string (S.extract a (a + (A + 1 + B))), .int .i64 (a : Int)], .int .i64 ((a : Int) + (A : Int) + 1 + (B : Int)), .bool false]) (by first | (simp [results, Tryz.results60, go_sem]; done) | (simp [results, Tryz.results60, go_sem]; omega)) rfl ⟨?_, ?_⟩
              · exact HOK.out
              · exact ((Below.refl _ _).alloc (Nat.le_refl _) _).alloc (by simp) _
            · have f46 : ((S[a + (A + 1 + B)].toNat : Int) == 46) = false := by
                rw [beq_eq_false_iff_ne]
                intro e
                exact h46 (UInt8.toNat_inj.1 (by show _ = 46; omega))
              have HOK : Hid (rdT (numberT (restB S a)) a (.returned (.tuple #[.agg #[.int .u8 4, .string (S.extract a (a + (A + 1 + B))), .int .i64 (a : Int)], .int .i64 ((a : Int) + (A : Int) + 1 + (B : Int)), .bool true]))) := by
                have h := HG.out true (by rw [hlk, hz, hlet, decide_eq_true hn, show (S[a + (A + 1 + B)] != 46) = true from bne_iff_ne.2 h46]; rfl)
                rw [HEC.out] at h
                exact h
              clear HG
              try clear hlk
              try clear hlet
              try clear hz
              try clear h46
              try clear h48
              try clear hno
              go_enter Tryz.func60, Tryz.ntmps60
              go_wp2_with fail
              refine (HDA.out _).mono ?_
              rintro e w' ⟨rfl, rfl⟩
              go_wp2_with fail
              refine (HDG.out _).mono ?_
              rintro e w' ⟨rfl, rfl⟩
              go_wp2_with fail
              refine (HDB.out _).mono ?_
              rintro e w' ⟨rfl, rfl⟩
              go_wp2_with fail
              refine (HDA.out _).mono ?_
              rintro e w' ⟨rfl, rfl⟩
              go_wp2_with fail
              refine (HLt.out _).mono ?_
              rintro e w' ⟨rfl, rfl⟩
              go_wp2_with fail
              refine bodyPost_ret (v := .tuple #[.agg #[.int .u8 4, .string (S.extract a (a + (A + 1 + B))), .int .i64 (a : Int)], .int .i64 ((a : Int) + (A : Int) + 1 + (B : Int)), .bool true]) (by first | (simp [results, Tryz.results60, go_sem]; done) | (simp [results, Tryz.results60, go_sem]; omega)) rfl ⟨?_, ?_⟩
              · exact HOK.out
              · exact ((Below.refl _ _).alloc (Nat.le_refl _) _).alloc (by simp) _
          · rw [hlet] at HLt
            have HOK : Hid (rdT (numberT (restB S a)) a (.returned (.tuple #[.agg #[.int .u8 4, .string (S.extract a (a + (A + 1 + B))), .int .i64 (a : Int)], .int .i64 ((a : Int) + (A : Int) + 1 + (B : Int)), .bool false]))) := by
              have h := HG.out false (by rw [hlk, hlet]; simp)
              rw [HEC.out] at h
              exact h
            clear HG
            try clear hlk
            try clear hlet
            try clear hz
            try clear h46
            try clear h48
            try clear hno
            go_enter Tryz.func60, Tryz.ntmps60
            go_wp2_with fail
            refine (HDA.out _).mono ?_
            rintro e w' ⟨rfl, rfl⟩
            go_wp2_with fail
            refine (HDG.out _).mono ?_
            rintro e w' ⟨rfl, rfl⟩
            go_wp2_with fail
            refine (HDB.out _).mono ?_
            rintro e w' ⟨rfl, rfl⟩
            go_wp2_with fail
            refine (HDA.out _).mono ?_
            rintro e w' ⟨rfl, rfl⟩
            go_wp2_with fail
            refine (HLt.out _).mono ?_
            rintro e w' ⟨rfl, rfl⟩
            go_wp2_with fail
            refine bodyPost_ret (v := .tuple #[.agg #[.int .u8 4, .string (S.extract a (a + (A + 1 + B))), .int .i64 (a : Int)], .int .i64 ((a : Int) + (A : Int) + 1 + (B : Int)), .bool false]) (by first | (simp [results, Tryz.results60, go_sem]; done) | (simp [results, Tryz.results60, go_sem]; omega)) rfl ⟨?_, ?_⟩
            · exact HOK.out
            · exact ((Below.refl _ _).alloc (Nat.le_refl _) _).alloc (by simp) _
        · have t4 : ¬ ((a : Int) + (A : Int) + 1 + (B : Int) < (S.size : Int)) := by omega
          have hlk : lookB (restB S (a + (A + 1 + B))) 0 = 0 := look_out S (a + (A + 1 + B)) 0 (by omega)
          have HOK : Hid (rdT (numberT (restB S a)) a (.returned (.tuple #[.agg #[.int .u8 4, .string (S.extract a (a + (A + 1 + B))), .int .i64 (a : Int)], .int .i64 ((a : Int) + (A : Int) + 1 + (B : Int)), .bool true]))) := by
            have h := HG.out true (by rw [hlk, hz, decide_eq_true hn]; rfl)
            rw [HEC.out] at h
            exact h
          clear HG
          try clear hlk
          try clear hlet
          try clear hz
          try clear h46
          try clear h48
          try clear hno
          go_enter Tryz.func60, Tryz.ntmps60
          go_wp2_with fail
          refine (HDA.out _).mono ?_
          rintro e w' ⟨rfl, rfl⟩
          go_wp2_with fail
          refine (HDG.out _).mono ?_
          rintro e w' ⟨rfl, rfl⟩
          go_wp2_with fail
          refine (HDB.out _).mono ?_
          rintro e w' ⟨rfl, rfl⟩
          go_wp2_with fail
          refine (HDA.out _).mono ?_
          rintro e w' ⟨rfl, rfl⟩
          go_wp2_with fail
          refine bodyPost_ret (v := .tuple #[.agg #[.int .u8 4, .string (S.extract a (a + (A + 1 + B))), .int .i64 (a : Int)], .int .i64 ((a : Int) + (A : Int) + 1 + (B : Int)), .bool true]) (by first | (simp [results, Tryz.results60, go_sem]; done) | (simp [results, Tryz.results60, go_sem]; omega)) rfl ⟨?_, ?_⟩
          · exact HOK.out
          · exact ((Below.refl _ _).alloc (Nat.le_refl _) _).alloc (by simp) _
      · have n1 : 40 < (a : Int) + (A : Int) - (a : Int) + ((a : Int) + (A : Int) + 1 + (B : Int)) - ((a : Int) + (A : Int)) - 1 := by omega
        have HOK : Hid (rdT (numberT (restB S a)) a (.returned (.tuple #[.agg #[.int .u8 4, .string (S.extract a (a + (A + 1 + B))), .int .i64 (a : Int)], .int .i64 ((a : Int) + (A : Int) + 1 + (B : Int)), .bool false]))) := by
          have h := HG.out false (by rw [decide_eq_false hn]; simp)
          rw [HEC.out] at h
          exact h
        clear HG
        try clear hlk
        try clear hlet
        try clear hz
        try clear h46
        try clear h48
        try clear hno
        go_enter Tryz.func60, Tryz.ntmps60
        go_wp2_with fail
        refine (HDA.out _).mono ?_
        rintro e w' ⟨rfl, rfl⟩
        go_wp2_with fail
        refine (HDG.out _).mono ?_
        rintro e w' ⟨rfl, rfl⟩
        go_wp2_with fail
        refine (HDB.out _).mono ?_
        rintro e w' ⟨rfl, rfl⟩
        go_wp2_with fail
        refine (HDA.out _).mono ?_
        rintro e w' ⟨rfl, rfl⟩
        go_wp2_with fail
        refine bodyPost_ret (v := .tuple #[.agg #[.int .u8 4, .string (S.extract a (a + (A + 1 + B))), .int .i64 (a : Int)], .int .i64 ((a : Int) + (A : Int) + 1 + (B : Int)), .bool false]) (by first | (simp [results, Tryz.results60, go_sem]; done) | (simp [results, Tryz.results60, go_sem]; omega)) rfl ⟨?_, ?_⟩
        · exact HOK.out
        · exact ((Below.refl _ _).alloc (Nat.le_refl _) _).alloc (by simp) _
  · have f48 : ((S[a].toNat : Int) == 48) = false := by
      rw [beq_eq_false_iff_ne]
      intro e
      exact h48 (UInt8.toNat_inj.1 (by show _ = 48; omega))
    have hz : (S[a] != 48 || A == 1) = true := by rw [show (S[a] != 48) = true from bne_iff_ne.2 h48]; rfl
    by_cases hn : A + B ≤ 40
    · have n1 : ¬ (40 < (a : Int) + (A : Int) - (a : Int) + ((a : Int) + (A : Int) + 1 + (B : Int)) - ((a : Int) + (A : Int)) - 1) := by omega
      by_cases hend : a + (A + 1 + B) < S.size
      · have t4 : (a : Int) + (A : Int) + 1 + (B : Int) < (S.size : Int) := by omega
        have hlk : lookB (restB S (a + (A + 1 + B))) 0 = S[a + (A + 1 + B)] := look_in S (a + (A + 1 + B)) 0 hend
        have HLt : Hid (∀ w, Calls Tryz.prog 54 #[.int .u8 (S[a + (A + 1 + B)].toNat : Int)] w fun e w' => e = .returned (.bool (isLt S[a + (A + 1 + B)])) ∧ w = w') := fun w => rfLetter_any _ w
        cases hlet : isLt S[a + (A + 1 + B)]
        · rw [hlet] at HLt
          by_cases h46 : S[a + (A + 1 + B)] = 46
          · have f46 : ((S[a + (A + 1 + B)].toNat : Int) == 46) = true := by rw [h46]; rfl
            have HOK : Hid (rdT (numberT (restB S a)) a (.returned (.tuple #[.agg #[.int .u8 4, .string (S.extract a (a + (A + 1 + B))), .int .i64 (a : Int)], .int .i64 ((a : Int) + (A : Int) + 1 + (B : Int)), .bool false]))) := by
              have h := HG.out false (by rw [hlk, h46]; simp)
              rw [HEC.out] at h
              exact h
            clear HG
            try clear hlk
            try clear hlet
            try clear hz
            try clear h46
            try clear h48
            try clear hno
            go_enter Tryz.func60, Tryz.ntmps60
            go_wp2_with fail
            refine (HDA.out _).mono ?_
            rintro e w' ⟨rfl, rfl⟩
            go_wp2_with fail
            refine (HDG.out _).mono ?_
            rintro e w' ⟨rfl, rfl⟩
            go_wp2_with fail
            refine (HDB.out _).mono ?_
            rintro e w' ⟨rfl, rfl⟩
            go_wp2_with fail
            refine (HLt.out _).mono ?_
            rintro e w' ⟨rfl, rfl⟩
            go_wp2_with fail
            refine bodyPost_ret (v := .tuple #[.agg #[.int .u8 4, .string (S.extract a (a + (A + 1 + B))), .int .i64 (a : Int)], .int .i64 ((a : Int) + (A : Int) + 1 + (B : Int)), .bool false]) (by first | (simp [results, Tryz.results60, go_sem]; done) | (simp [results, Tryz.results60, go_sem]; omega)) rfl ⟨?_, ?_⟩
            · exact HOK.out
            · exact ((Below.refl _ _).alloc (Nat.le_refl _) _).alloc (by simp) _
          · have f46 : ((S[a + (A + 1 + B)].toNat : Int) == 46) = false := by
              rw [beq_eq_false_iff_ne]
              intro e
              exact h46 (UInt8.toNat_inj.1 (by show _ = 46; omega))
            have HOK : Hid (rdT (numberT (restB S a)) a (.returned (.tuple #[.agg #[.int .u8 4, .string (S.extract a (a + (A + 1 + B))), .int .i64 (a : Int)], .int .i64 ((a : Int) + (A : Int) + 1 + (B : Int)), .bool true]))) := by
              have h := HG.out true (by rw [hlk, hz, hlet, decide_eq_true hn, show (S[a + (A + 1 + B)] != 46) = true from bne_iff_ne.2 h46]; rfl)
              rw [HEC.out] at h
              exact h
            clear HG
            try clear hlk
            try clear hlet
            try clear hz
            try clear h46
            try clear h48
            try clear hno
            go_enter Tryz.func60, Tryz.ntmps60
            go_wp2_with fail
            refine (HDA.out _).mono ?_
            rintro e w' ⟨rfl, rfl⟩
            go_wp2_with fail
            refine (HDG.out _).mono ?_
            rintro e w' ⟨rfl, rfl⟩
            go_wp2_with fail
            refine (HDB.out _).mono ?_
            rintro e w' ⟨rfl, rfl⟩
            go_wp2_with fail
            refine (HLt.out _).mono ?_
            rintro e w' ⟨rfl, rfl⟩
            go_wp2_with fail
            refine bodyPost_ret (v := .tuple #[.agg #[.int .u8 4, .string (S.extract a (a + (A + 1 + B))), .int .i64 (a : Int)], .int .i64 ((a : Int) + (A : Int) + 1 + (B : Int)), .bool true]) (by first | (simp [results, Tryz.results60, go_sem]; done) | (simp [results, Tryz.results60, go_sem]; omega)) rfl ⟨?_, ?_⟩
            · exact HOK.out
            · exact ((Below.refl _ _).alloc (Nat.le_refl _) _).alloc (by simp) _
        · rw [hlet] at HLt
          have HOK : Hid (rdT (numberT (restB S a)) a (.returned (.tuple #[.agg #[.int .u8 4, .string (S.extract a (a + (A + 1 + B))), .int .i64 (a : Int)], .int .i64 ((a : Int) + (A : Int) + 1 + (B : Int)), .bool false]))) := by
            have h := HG.out false (by rw [hlk, hlet]; simp)
            rw [HEC.out] at h
            exact h
          clear HG
          try clear hlk
          try clear hlet
          try clear hz
          try clear h46
          try clear h48
          try clear hno
          go_enter Tryz.func60, Tryz.ntmps60
          go_wp2_with fail
          refine (HDA.out _).mono ?_
          rintro e w' ⟨rfl, rfl⟩
          go_wp2_with fail
          refine (HDG.out _).mono ?_
          rintro e w' ⟨rfl, rfl⟩
          go_wp2_with fail
          refine (HDB.out _).mono ?_
          rintro e w' ⟨rfl, rfl⟩
          go_wp2_with fail
          refine (HLt.out _).mono ?_
          rintro e w' ⟨rfl, rfl⟩
          go_wp2_with fail
          refine bodyPost_ret (v := .tuple #[.agg #[.int .u8 4, .string (S.extract a (a + (A + 1 + B))), .int .i64 (a : Int)], .int .i64 ((a : Int) + (A : Int) + 1 + (B : Int)), .bool false]) (by first | (simp [results, Tryz.results60, go_sem]; done) | (simp [results, Tryz.results60, go_sem]; omega)) rfl ⟨?_, ?_⟩
          · exact HOK.out
          · exact ((Below.refl _ _).alloc (Nat.le_refl _) _).alloc (by simp) _
      · have t4 : ¬ ((a : Int) + (A : Int) + 1 + (B : Int) < (S.size : Int)) := by omega
        have hlk : lookB (restB S (a + (A + 1 + B))) 0 = 0 := look_out S (a + (A + 1 + B)) 0 (by omega)
        have HOK : Hid (rdT (numberT (restB S a)) a (.returned (.tuple #[.agg #[.int .u8 4, .string (S.extract a (a + (A + 1 + B))), .int .i64 (a : Int)], .int .i64 ((a : Int) + (A : Int) + 1 + (B : Int)), .bool true]))) := by
          have h := HG.out true (by rw [hlk, hz, decide_eq_true hn]; rfl)
          rw [HEC.out] at h
          exact h
        clear HG
        try clear hlk
        try clear hlet
        try clear hz
        try clear h46
        try clear h48
        try clear hno
        go_enter Tryz.func60, Tryz.ntmps60
        go_wp2_with fail
        refine (HDA.out _).mono ?_
        rintro e w' ⟨rfl, rfl⟩
        go_wp2_with fail
        refine (HDG.out _).mono ?_
        rintro e w' ⟨rfl, rfl⟩
        go_wp2_with fail
        refine (HDB.out _).mono ?_
        rintro e w' ⟨rfl, rfl⟩
        go_wp2_with fail
        refine bodyPost_ret (v := .tuple #[.agg #[.int .u8 4, .string (S.extract a (a + (A + 1 + B))), .int .i64 (a : Int)], .int .i64 ((a : Int) + (A : Int) + 1 + (B : Int)), .bool true]) (by first | (simp [results, Tryz.results60, go_sem]; done) | (simp [results, Tryz.results60, go_sem]; omega)) rfl ⟨?_, ?_⟩
        · exact HOK.out
        · exact ((Below.refl _ _).alloc (Nat.le_refl _) _).alloc (by simp) _
    · have n1 : 40 < (a : Int) + (A : Int) - (a : Int) + ((a : Int) + (A : Int) + 1 + (B : Int)) - ((a : Int) + (A : Int)) - 1 := by omega
      have HOK : Hid (rdT (numberT (restB S a)) a (.returned (.tuple #[.agg #[.int .u8 4, .string (S.extract a (a + (A + 1 + B))), .int .i64 (a : Int)], .int .i64 ((a : Int) + (A : Int) + 1 + (B : Int)), .bool false]))) := by
        have h := HG.out false (by rw [decide_eq_false hn]; simp)
        rw [HEC.out] at h
        exact h
      clear HG
      try clear hlk
      try clear hlet
      try clear hz
      try clear h46
      try clear h48
      try clear hno
      go_enter Tryz.func60, Tryz.ntmps60
      go_wp2_with fail
      refine (HDA.out _).mono ?_
      rintro e w' ⟨rfl, rfl⟩
      go_wp2_with fail
      refine (HDG.out _).mono ?_
      rintro e w' ⟨rfl, rfl⟩
      go_wp2_with fail
      refine (HDB.out _).mono ?_
      rintro e w' ⟨rfl, rfl⟩
      go_wp2_with fail
      refine bodyPost_ret (v := .tuple #[.agg #[.int .u8 4, .string (S.extract a (a + (A + 1 + B))), .int .i64 (a : Int)], .int .i64 ((a : Int) + (A : Int) + 1 + (B : Int)), .bool false]) (by first | (simp [results, Tryz.results60, go_sem]; done) | (simp [results, Tryz.results60, go_sem]; omega)) rfl ⟨?_, ?_⟩
      · exact HOK.out
      · exact ((Below.refl _ _).alloc (Nat.le_refl _) _).alloc (by simp) _
end Go.Proofs.YthhfgjcdopkmgaaGreatDoor
namespace Go.Proofs.YthhfgjcdopkmgaaGreatDoor
open Go.Instr Go.RowKit ScnT
set_option linter.unusedVariables false
theorem rfNumber_any (S : ByteArray) (a : Nat) (w : World) (hS : S.size ≤ 100000) (hlt : a < S.size) (hd : isDg S[a] = true) :
    Calls Tryz.prog 60 #[.string S, .int .i64 a] w fun e w' => rdT (numberT (restB S a)) a e ∧ Below w.heap.size w w' := by
  have h1 : 1 ≤ tw isDg S a := by
    have hh := rest_get S a hlt
    unfold tw
    rw [hh, List.takeWhile_cons, hd]
    simp
  have hl := tw_le isDg S a
  by_cases h2 : a + tw isDg S a + 1 < S.size
  · by_cases h3 : S[a + tw isDg S a] = 46
    · cases h4 : isDg S[a + tw isDg S a + 1]
      · exact rfNumber_nodigit S a _ w hS hlt h1 rfl h2 (by omega) h3 h4
      · exact rfNumber_point S a _ _ w hS hlt h1 rfl h2 (by omega) h3 h4 rfl
    · exact rfNumber_nodot S a _ w hS hlt h1 rfl h2 (by omega) h3
  · exact rfNumber_end S a _ w hS hlt h1 rfl h2
end Go.Proofs.YthhfgjcdopkmgaaGreatDoor
