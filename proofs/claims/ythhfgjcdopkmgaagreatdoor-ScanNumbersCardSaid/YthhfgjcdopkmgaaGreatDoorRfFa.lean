/- The document's own scanner: numbers, no point. -/
/- The document's own scanner: numbers, a point and no digit. -/
import Derived.Test.YthhfgjcdopkmgaaGreatDoorRfF
set_option maxRecDepth 100000
namespace Go.Proofs.YthhfgjcdopkmgaaGreatDoor
open Go.Instr Go.RowKit ScnT
set_option linter.unusedVariables false
set_option linter.unusedSimpArgs false

set_option maxHeartbeats 8000000 in
theorem rfNumber_nodot (S : ByteArray) (a A : Nat) (w : World) (hS : S.size ≤ 100000) (hlt : a < S.size) (h1 : 1 ≤ A) (hA : tw isDg S a = A) (hlt2 : a + A + 1 < S.size) (hAs : a + A < S.size) (hno : S[a + A] ≠ 46) :
    Calls Tryz.prog 60 #[.string S, .int .i64 a] w fun e w' => rdT (numberT (restB S a)) a e ∧ Below w.heap.size w w' := by
  have hAl := tw_le isDg S a
  rw [hA] at hAl
  have HDA0 := Lib.hid (fun w => rfDigits_any S a w hS (by omega))
  rw [hA] at HDA0
  have HDA : Hid (∀ w, Calls Tryz.prog 119 #[.string S, .int .i64 (a : Int)] w fun e w' => e = .returned (.int .i64 ((a : Int) + (A : Int))) ∧ w = w') := fun w => by
    have := HDA0.out w
    rw [show ((a + A : Nat) : Int) = (a : Int) + (A : Int) by omega] at this
    exact this
  clear HDA0
  have hp : (lookB (restB S (a + A)) 0 == 46 && isDg (lookB (restB S (a + A)) 1)) = false := by
    rw [show lookB (restB S (a + A)) 0 = S[a + A] from look_in S (a + A) 0 hAs]
    simp [hno]
  have hB : (if false then tw isDg S (a + A + 1) else 0) = 0 := rfl
  have p1 : (a : Int) + (A : Int) + 1 < (S.size : Int) := by omega
  have HNO := Lib.hid hno
  have p2 : ((S[a + A].toNat : Int) == 46) = false := by
    rw [beq_eq_false_iff_ne]
    intro e
    exact hno (UInt8.toNat_inj.1 (by show _ = 46; omega))
  have HG := Lib.hid (fun c hc => num_goal (S := S) (a := a) (A := A) (B := 0) (E := a + A) (kd := 3) (p := false) hlt h1 hA hp hB rfl (by omega) rfl c hc)
  clear hA hp hB
  have a0 : (0 : Int) ≤ (a : Int) := by omega
  have a1 : (a : Int) < (S.size : Int) := by omega
  have e0 : (0 : Int) ≤ (a : Int) + (A : Int) := by omega
  have e1 : (a : Int) ≤ (a : Int) + (A : Int) := by omega
  have e2 : (a : Int) + (A : Int) ≤ (S.size : Int) := by omega
  have e3 : ((a : Int) + (A : Int)).toNat = a + A := by omega
  have HEC : Hid (((a + A : Nat) : Int) = (a : Int) + (A : Int)) := by show _ = _; omega

  by_cases h48 : S[a] = 48
  · have f48 : ((S[a].toNat : Int) == 48) = true := by rw [h48]; rfl
    by_cases hA1 : 1 < A
    · have q1 : (a : Int) + 1 < (a : Int) + (A : Int) := by omega
      have q2 : (1 : Int) < (A : Int) := by omega
      have HOK : Hid (rdT (numberT (restB S a)) a (.returned (.tuple #[.agg #[.int .u8 3, .string (S.extract a (a + A)), .int .i64 (a : Int)], .int .i64 ((a : Int) + (A : Int)), .bool false]))) := by
        have h := HG.out false (by rw [h48, show (A == 1) = false from by simp; omega]; rfl)
        rw [HEC.out] at h
        exact h
      clear HG
      try clear hlk
      try clear hlet
      try clear hz
      try clear h46
      try clear h48
      try clear hno
      go_enter Tryz.func60, Tryz.ntmps60
      go_wp2_with ((go_at_call 119; refine (HDA.out _).mono ?_; rintro e w' ⟨rfl, rfl⟩))
      refine bodyPost_ret (v := .tuple #[.agg #[.int .u8 3, .string (S.extract a (a + A)), .int .i64 (a : Int)], .int .i64 ((a : Int) + (A : Int)), .bool false]) (by first | (simp [results, Tryz.results60, go_sem]; done) | (simp [results, Tryz.results60, go_sem]; omega)) rfl ⟨?_, ?_⟩
      · exact HOK.out
      · exact ((Below.refl _ _).alloc (Nat.le_refl _) _).alloc (by simp) _
    · have q1 : ¬ ((a : Int) + 1 < (a : Int) + (A : Int)) := by omega
      have q2 : ¬ ((1 : Int) < (A : Int)) := by omega
      have hz : (S[a] != 48 || A == 1) = true := by rw [h48]; simp; omega
      by_cases hn : A + 0 ≤ 40
      · have n1 : ¬ (40 < (a : Int) + (A : Int) - (a : Int)) := by omega
        by_cases hend : a + A < S.size
        · have t4 : (a : Int) + (A : Int) < (S.size : Int) := by omega
          have hlk : lookB (restB S (a + A)) 0 = S[a + A] := look_in S (a + A) 0 hend
          have HLt : Hid (∀ w, Calls Tryz.prog 54 #[.int .u8 (S[a + A].toNat : Int)] w fun e w' => e = .returned (.bool (isLt S[a + A])) ∧ w = w') := fun w => rfLetter_any _ w
          cases hlet : isLt S[a + A]
          · rw [hlet] at HLt
            by_cases h46 : S[a + A] = 46
            · exact absurd h46 HNO.out
            · have f46 : ((S[a + A].toNat : Int) == 46) = false := by
                rw [beq_eq_false_iff_ne]
                intro e
                exact h46 (UInt8.toNat_inj.1 (by show _ = 46; omega))
              have HOK : Hid (rdT (numberT (restB S a)) a (.returned (.tuple #[.agg #[.int .u8 3, .string (S.extract a (a + A)), .int .i64 (a : Int)], .int .i64 ((a : Int) + (A : Int)), .bool true]))) := by
                have h := HG.out true (by rw [hlk, hz, hlet, decide_eq_true hn, show (S[a + A] != 46) = true from bne_iff_ne.2 h46]; rfl)
                rw [HEC.out] at h
                exact h
              clear HG
              try clear hlk
              try clear hlet
              try clear hz
              try clear h46
              try clear h48
              try clear hno
              go_enter Tryz.func60, Tryz.ntmps60
              go_wp2_with (first | (go_at_call 119; refine (HDA.out _).mono ?_; rintro e w' ⟨rfl, rfl⟩) | (go_at_call 54; refine (HLt.out _).mono ?_; rintro e w' ⟨rfl, rfl⟩))
              refine bodyPost_ret (v := .tuple #[.agg #[.int .u8 3, .string (S.extract a (a + A)), .int .i64 (a : Int)], .int .i64 ((a : Int) + (A : Int)), .bool true]) (by first | (simp [results, Tryz.results60, go_sem]; done) | (simp [results, Tryz.results60, go_sem]; omega)) rfl ⟨?_, ?_⟩
              · exact HOK.out
              · exact ((Below.refl _ _).alloc (Nat.le_refl _) _).alloc (by simp) _
          · rw [hlet] at HLt
            have HOK : Hid (rdT (numberT (restB S a)) a (.returned (.tuple #[.agg #[.int .u8 3, .string (S.extract a (a + A)), .int .i64 (a : Int)], .int .i64 ((a : Int) + (A : Int)), .bool false]))) := by
              have h := HG.out false (by rw [hlk, hlet]; simp)
              rw [HEC.out] at h
              exact h
            clear HG
            try clear hlk
            try clear hlet
            try clear hz
            try clear h46
            try clear h48
            try clear hno
            go_enter Tryz.func60, Tryz.ntmps60
            go_wp2_with (first | (go_at_call 119; refine (HDA.out _).mono ?_; rintro e w' ⟨rfl, rfl⟩) | (go_at_call 54; refine (HLt.out _).mono ?_; rintro e w' ⟨rfl, rfl⟩))
            refine bodyPost_ret (v := .tuple #[.agg #[.int .u8 3, .string (S.extract a (a + A)), .int .i64 (a : Int)], .int .i64 ((a : Int) + (A : Int)), .bool false]) (by first | (simp [results, Tryz.results60, go_sem]; done) | (simp [results, Tryz.results60, go_sem]; omega)) rfl ⟨?_, ?_⟩
            · exact HOK.out
            · exact ((Below.refl _ _).alloc (Nat.le_refl _) _).alloc (by simp) _
        · exfalso; omega
      · have n1 : 40 < (a : Int) + (A : Int) - (a : Int) := by omega
        exfalso; omega
  · have f48 : ((S[a].toNat : Int) == 48) = false := by
      rw [beq_eq_false_iff_ne]
      intro e
      exact h48 (UInt8.toNat_inj.1 (by show _ = 48; omega))
    have hz : (S[a] != 48 || A == 1) = true := by rw [show (S[a] != 48) = true from bne_iff_ne.2 h48]; rfl
    by_cases hn : A + 0 ≤ 40
    · have n1 : ¬ (40 < (a : Int) + (A : Int) - (a : Int)) := by omega
      by_cases hend : a + A < S.size
      · have t4 : (a : Int) + (A : Int) < (S.size : Int) := by omega
        have hlk : lookB (restB S (a + A)) 0 = S[a + A] := look_in S (a + A) 0 hend
        have HLt : Hid (∀ w, Calls Tryz.prog 54 #[.int .u8 (S[a + A].toNat : Int)] w fun e w' => e = .returned (.bool (isLt S[a + A])) ∧ w = w') := fun w => rfLetter_any _ w
        cases hlet : isLt S[a + A]
        · rw [hlet] at HLt
          by_cases h46 : S[a + A] = 46
          · exact absurd h46 HNO.out
          · have f46 : ((S[a + A].toNat : Int) == 46) = false := by
              rw [beq_eq_false_iff_ne]
              intro e
              exact h46 (UInt8.toNat_inj.1 (by show _ = 46; omega))
            have HOK : Hid (rdT (numberT (restB S a)) a (.returned (.tuple #[.agg #[.int .u8 3, .string (S.extract a (a + A)), .int .i64 (a : Int)], .int .i64 ((a : Int) + (A : Int)), .bool true]))) := by
              have h := HG.out true (by rw [hlk, hz, hlet, decide_eq_true hn, show (S[a + A] != 46) = true from bne_iff_ne.2 h46]; rfl)
              rw [HEC.out] at h
              exact h
            clear HG
            try clear hlk
            try clear hlet
            try clear hz
            try clear h46
            try clear h48
            try clear hno
            go_enter Tryz.func60, Tryz.ntmps60
            go_wp2_with (first | (go_at_call 119; refine (HDA.out _).mono ?_; rintro e w' ⟨rfl, rfl⟩) | (go_at_call 54; refine (HLt.out _).mono ?_; rintro e w' ⟨rfl, rfl⟩))
            refine bodyPost_ret (v := .tuple #[.agg #[.int .u8 3, .string (S.extract a (a + A)), .int .i64 (a : Int)], .int .i64 ((a : Int) + (A : Int)), .bool true]) (by first | (simp [results, Tryz.results60, go_sem]; done) | (simp [results, Tryz.results60, go_sem]; omega)) rfl ⟨?_, ?_⟩
            · exact HOK.out
            · exact ((Below.refl _ _).alloc (Nat.le_refl _) _).alloc (by simp) _
        · rw [hlet] at HLt
          have HOK : Hid (rdT (numberT (restB S a)) a (.returned (.tuple #[.agg #[.int .u8 3, .string (S.extract a (a + A)), .int .i64 (a : Int)], .int .i64 ((a : Int) + (A : Int)), .bool false]))) := by
            have h := HG.out false (by rw [hlk, hlet]; simp)
            rw [HEC.out] at h
            exact h
          clear HG
          try clear hlk
          try clear hlet
          try clear hz
          try clear h46
          try clear h48
          try clear hno
          go_enter Tryz.func60, Tryz.ntmps60
          go_wp2_with (first | (go_at_call 119; refine (HDA.out _).mono ?_; rintro e w' ⟨rfl, rfl⟩) | (go_at_call 54; refine (HLt.out _).mono ?_; rintro e w' ⟨rfl, rfl⟩))
          refine bodyPost_ret (v := .tuple #[.agg #[.int .u8 3, .string (S.extract a (a + A)), .int .i64 (a : Int)], .int .i64 ((a : Int) + (A : Int)), .bool false]) (by first | (simp [results, Tryz.results60, go_sem]; done) | (simp [results, Tryz.results60, go_sem]; omega)) rfl ⟨?_, ?_⟩
          · exact HOK.out
          · exact ((Below.refl _ _).alloc (Nat.le_refl _) _).alloc (by simp) _
      · exfalso; omega
    · have n1 : 40 < (a : Int) + (A : Int) - (a : Int) := by omega
      have HOK : Hid (rdT (numberT (restB S a)) a (.returned (.tuple #[.agg #[.int .u8 3, .string (S.extract a (a + A)), .int .i64 (a : Int)], .int .i64 ((a : Int) + (A : Int)), .bool false]))) := by
        have h := HG.out false (by rw [decide_eq_false hn]; simp)
        rw [HEC.out] at h
        exact h
      clear HG
      try clear hlk
      try clear hlet
      try clear hz
      try clear h46
      try clear h48
      try clear hno
      go_enter Tryz.func60, Tryz.ntmps60
      go_wp2_with ((go_at_call 119; refine (HDA.out _).mono ?_; rintro e w' ⟨rfl, rfl⟩))
      refine bodyPost_ret (v := .tuple #[.agg #[.int .u8 3, .string (S.extract a (a + A)), .int .i64 (a : Int)], .int .i64 ((a : Int) + (A : Int)), .bool false]) (by first | (simp [results, Tryz.results60, go_sem]; done) | (simp [results, Tryz.results60, go_sem]; omega)) rfl ⟨?_, ?_⟩
      · exact HOK.out
      · exact ((Below.refl _ _).alloc (Nat.le_refl _) _).alloc (by simp) _
end Go.Proofs.YthhfgjcdopkmgaaGreatDoor
namespace Go.Proofs.YthhfgjcdopkmgaaGreatDoor
open Go.Instr Go.RowKit ScnT
set_option linter.unusedVariables false
set_option linter.unusedSimpArgs false

set_option maxHeartbeats 8000000 in
theorem rfNumber_nodigit (S : ByteArray) (a A : Nat) (w : World) (hS : S.size ≤ 100000) (hlt : a < S.size) (h1 : 1 ≤ A) (hA : tw isDg S a = A) (hlt2 : a + A + 1 < S.size) (hAs : a + A < S.size) (hdot : S[a + A] = 46) (hno : isDg S[a + A + 1] = false) :
    Calls Tryz.prog 60 #[.string S, .int .i64 a] w fun e w' => rdT (numberT (restB S a)) a e ∧ Below w.heap.size w w' := by
  have hAl := tw_le isDg S a
  rw [hA] at hAl
  have HDA0 := Lib.hid (fun w => rfDigits_any S a w hS (by omega))
  rw [hA] at HDA0
  have HDA : Hid (∀ w, Calls Tryz.prog 119 #[.string S, .int .i64 (a : Int)] w fun e w' => e = .returned (.int .i64 ((a : Int) + (A : Int))) ∧ w = w') := fun w => by
    have := HDA0.out w
    rw [show ((a + A : Nat) : Int) = (a : Int) + (A : Int) by omega] at this
    exact this
  clear HDA0
  have hp : (lookB (restB S (a + A)) 0 == 46 && isDg (lookB (restB S (a + A)) 1)) = false := by
    rw [show lookB (restB S (a + A)) 0 = S[a + A] from look_in S (a + A) 0 hAs, look_in S (a + A) 1 hlt2]
    simp [hno]
  have hB : (if false then tw isDg S (a + A + 1) else 0) = 0 := rfl
  have p1 : (a : Int) + (A : Int) + 1 < (S.size : Int) := by omega
  have p2 : ((S[a + A].toNat : Int) == 46) = true := by rw [hdot]; rfl
  have HDG : Hid (∀ w, Calls Tryz.prog 59 #[.int .u8 (S[a + A + 1].toNat : Int)] w fun e w' => e = .returned (.bool false) ∧ w = w') := fun w => by
    have := rfDigit_any S[a + A + 1] w
    rw [hno] at this
    exact this
  have p3 : (0 : Int) ≤ (a : Int) + (A : Int) + 1 := by omega
  have p4 : ((a : Int) + (A : Int) + 1).toNat = a + A + 1 := by omega
  have HDOT := Lib.hid hdot
  clear hdot
  have HG := Lib.hid (fun c hc => num_goal (S := S) (a := a) (A := A) (B := 0) (E := a + A) (kd := 3) (p := false) hlt h1 hA hp hB rfl (by omega) rfl c hc)
  clear hA hp hB
  have a0 : (0 : Int) ≤ (a : Int) := by omega
  have a1 : (a : Int) < (S.size : Int) := by omega
  have e0 : (0 : Int) ≤ (a : Int) + (A : Int) := by omega
  have e1 : (a : Int) ≤ (a : Int) + (A : Int) := by omega
  have e2 : (a : Int) + (A : Int) ≤ (S.size : Int) := by omega
  have e3 : ((a : Int) + (A : Int)).toNat = a + A := by omega
  have HEC : Hid (((a + A : Nat) : Int) = (a : Int) + (A : Int)) := by show _ = _; omega

  by_cases h48 : S[a] = 48
  · have f48 : ((S[a].toNat : Int) == 48) = true := by rw [h48]; rfl
    by_cases hA1 : 1 < A
    · have q1 : (a : Int) + 1 < (a : Int) + (A : Int) := by omega
      have q2 : (1 : Int) < (A : Int) := by omega
      have HOK : Hid (rdT (numberT (restB S a)) a (.returned (.tuple #[.agg #[.int .u8 3, .string (S.extract a (a + A)), .int .i64 (a : Int)], .int .i64 ((a : Int) + (A : Int)), .bool false]))) := by
        have h := HG.out false (by rw [h48, show (A == 1) = false from by simp; omega]; rfl)
        rw [HEC.out] at h
        exact h
      clear HG
      try clear hlk
      try clear hlet
      try clear hz
      try clear h46
      try clear h48
      try clear hno
      go_enter Tryz.func60, Tryz.ntmps60
      go_wp2_with (first | (go_at_call 119; refine (HDA.out _).mono ?_; rintro e w' ⟨rfl, rfl⟩) | (go_at_call 59; refine (HDG.out _).mono ?_; rintro e w' ⟨rfl, rfl⟩))
      refine bodyPost_ret (v := .tuple #[.agg #[.int .u8 3, .string (S.extract a (a + A)), .int .i64 (a : Int)], .int .i64 ((a : Int) + (A : Int)), .bool false]) (by first | (simp [results, Tryz.results60, go_sem]; done) | (simp [results, Tryz.results60, go_sem]; omega)) rfl ⟨?_, ?_⟩
      · exact HOK.out
      · exact ((Below.refl _ _).alloc (Nat.le_refl _) _).alloc (by simp) _
    · have q1 : ¬ ((a : Int) + 1 < (a : Int) + (A : Int)) := by omega
      have q2 : ¬ ((1 : Int) < (A : Int)) := by omega
      have hz : (S[a] != 48 || A == 1) = true := by rw [h48]; simp; omega
      by_cases hn : A + 0 ≤ 40
      · have n1 : ¬ (40 < (a : Int) + (A : Int) - (a : Int)) := by omega
        by_cases hend : a + A < S.size
        · have t4 : (a : Int) + (A : Int) < (S.size : Int) := by omega
          have hlk : lookB (restB S (a + A)) 0 = S[a + A] := look_in S (a + A) 0 hend
          have HLt : Hid (∀ w, Calls Tryz.prog 54 #[.int .u8 (S[a + A].toNat : Int)] w fun e w' => e = .returned (.bool (isLt S[a + A])) ∧ w = w') := fun w => rfLetter_any _ w
          cases hlet : isLt S[a + A]
          · rw [hlet] at HLt
            by_cases h46 : S[a + A] = 46
            · have f46 : ((S[a + A].toNat : Int) == 46) = true := by rw [h46]; rfl
              have HOK : Hid (rdT (numberT (restB S a)) a (.returned (.tuple #[.agg #[.int .u8 3, .string (S.extract a (a + A)), .int .i64 (a : Int)], .int .i64 ((a : Int) + (A : Int)), .bool false]))) := by
                have h := HG.out false (by rw [hlk, h46]; simp)
                rw [HEC.out] at h
                exact h
              clear HG
              try clear hlk
              try clear hlet
              try clear hz
              try clear h46
              try clear h48
              try clear hno
              go_enter Tryz.func60, Tryz.ntmps60
              go_wp2_with (first | (go_at_call 119; refine (HDA.out _).mono ?_; rintro e w' ⟨rfl, rfl⟩) | (go_at_call 59; refine (HDG.out _).mono ?_; rintro e w' ⟨rfl, rfl⟩) | (go_at_call 54; refine (HLt.out _).mono ?_; rintro e w' ⟨rfl, rfl⟩))
              refine bodyPost_ret (v := .tuple #[.agg #[.int .u8 3, .string (S.extract a (a + A)), .int .i64 (a : Int)], .int .i64 ((a : Int) + (A : Int)), .bool false]) (by first | (simp [results, Tryz.results60, go_sem]; done) | (simp [results, Tryz.results60, go_sem]; omega)) rfl ⟨?_, ?_⟩
              · exact HOK.out
              · exact ((Below.refl _ _).alloc (Nat.le_refl _) _).alloc (by simp) _
            · exact absurd HDOT.out h46
          · exact absurd hlet (by rw [HDOT.out]; decide)
        · exfalso; omega
      · have n1 : 40 < (a : Int) + (A : Int) - (a : Int) := by omega
        exfalso; omega
  · have f48 : ((S[a].toNat : Int) == 48) = false := by
      rw [beq_eq_false_iff_ne]
      intro e
      exact h48 (UInt8.toNat_inj.1 (by show _ = 48; omega))
    have hz : (S[a] != 48 || A == 1) = true := by rw [show (S[a] != 48) = true from bne_iff_ne.2 h48]; rfl
    by_cases hn : A + 0 ≤ 40
    · have n1 : ¬ (40 < (a : Int) + (A : Int) - (a : Int)) := by omega
      by_cases hend : a + A < S.size
      · have t4 : (a : Int) + (A : Int) < (S.size : Int) := by omega
        have hlk : lookB (restB S (a + A)) 0 = S[a + A] := look_in S (a + A) 0 hend
        have HLt : Hid (∀ w, Calls Tryz.prog 54 #[.int .u8 (S[a + A].toNat : Int)] w fun e w' => e = .returned (.bool (isLt S[a + A])) ∧ w = w') := fun w => rfLetter_any _ w
        cases hlet : isLt S[a + A]
        · rw [hlet] at HLt
          by_cases h46 : S[a + A] = 46
          · have f46 : ((S[a + A].toNat : Int) == 46) = true := by rw [h46]; rfl
            have HOK : Hid (rdT (numberT (restB S a)) a (.returned (.tuple #[.agg #[.int .u8 3, .string (S.extract a (a + A)), .int .i64 (a : Int)], .int .i64 ((a : Int) + (A : Int)), .bool false]))) := by
              have h := HG.out false (by rw [hlk, h46]; simp)
              rw [HEC.out] at h
              exact h
            clear HG
            try clear hlk
            try clear hlet
            try clear hz
            try clear h46
            try clear h48
            try clear hno
            go_enter Tryz.func60, Tryz.ntmps60
            go_wp2_with (first | (go_at_call 119; refine (HDA.out _).mono ?_; rintro e w' ⟨rfl, rfl⟩) | (go_at_call 59; refine (HDG.out _).mono ?_; rintro e w' ⟨rfl, rfl⟩) | (go_at_call 54; refine (HLt.out _).mono ?_; rintro e w' ⟨rfl, rfl⟩))
            refine bodyPost_ret (v := .tuple #[.agg #[.int .u8 3, .string (S.extract a (a + A)), .int .i64 (a : Int)], .int .i64 ((a : Int) + (A : Int)), .bool false]) (by first | (simp [results, Tryz.results60, go_sem]; done) | (simp [results, Tryz.results60, go_sem]; omega)) rfl ⟨?_, ?_⟩
            · exact HOK.out
            · exact ((Below.refl _ _).alloc (Nat.le_refl _) _).alloc (by simp) _
          · exact absurd HDOT.out h46
        · exact absurd hlet (by rw [HDOT.out]; decide)
      · exfalso; omega
    · have n1 : 40 < (a : Int) + (A : Int) - (a : Int) := by omega
      have HOK : Hid (rdT (numberT (restB S a)) a (.returned (.tuple #[.agg #[.int .u8 3, .string (S.extract a (a + A)), .int .i64 (a : Int)], .int .i64 ((a : Int) + (A : Int)), .bool false]))) := by
        have h := HG.out false (by rw [decide_eq_false hn]; simp)
        rw [HEC.out] at h
        exact h
      clear HG
      try clear hlk
      try clear hlet
      try clear hz
      try clear h46
      try clear h48
      try clear hno
      go_enter Tryz.func60, Tryz.ntmps60
      go_wp2_with (first | (go_at_call 119; refine (HDA.out _).mono ?_; rintro e w' ⟨rfl, rfl⟩) | (go_at_call 59; refine (HDG.out _).mono ?_; rintro e w' ⟨rfl, rfl⟩))
      refine bodyPost_ret (v := .tuple #[.agg #[.int .u8 3, .string (S.extract a (a + A)), .int .i64 (a : Int)], .int .i64 ((a : Int) + (A : Int)), .bool false]) (by first | (simp [results, Tryz.results60, go_sem]; done) | (simp [results, Tryz.results60, go_sem]; omega)) rfl ⟨?_, ?_⟩
      · exact HOK.out
      · exact ((Below.refl _ _).alloc (Nat.le_refl _) _).alloc (by simp) _
end Go.Proofs.YthhfgjcdopkmgaaGreatDoor
