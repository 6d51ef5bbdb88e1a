/- The document's own scanner: numbers. -/
import Derived.Test.YthhfgjcdopkmgaaGreatDoorRfE
set_option maxRecDepth 100000
namespace ScnT
theorem rest_drop (S : ByteArray) (a n : Nat) : (restB S a).drop n = restB S (a + n) := by unfold restB; rw [List.drop_drop]
theorem take_ext (S : ByteArray) (a n : Nat) (_ : a + n ≤ S.size) : S.extract a (a + n) = mkS ((restB S a).take n) := by
  rw [Go.Lib.extract_eq]
  have : a + n - a = n := by omega
  rw [this]
  rfl
/-- numberT, its parts named: A digits, then a point and B digits (p), or none. -/
theorem number_eq (S : ByteArray) (a A B : Nat) (p : Bool) (hA : tw isDg S a = A) (hp : (lookB (restB S (a + A)) 0 == 46 && isDg (lookB (restB S (a + A)) 1)) = p) (hB : (if p then tw isDg S (a + A + 1) else 0) = B) (hlt : a < S.size) (h1 : 1 ≤ A) :
    numberT (restB S a) = if ((S[a] != 48 || A == 1) && (decide (A + B ≤ 40) && (!isLt (lookB (restB S (a + (if p then A + 1 + B else A))) 0) && lookB (restB S (a + (if p then A + 1 + B else A))) 0 != 46))) then .ok (if p then 4 else 3, (restB S a).take (if p then A + 1 + B else A), if p then A + 1 + B else A) else .error 101 := by
  have e0 : ((restB S a).takeWhile isDg).length = A := hA
  have e1 : lookB ((restB S a).takeWhile isDg) 0 = S[a] := by
    obtain ⟨_, h⟩ := tw_in (p := isDg) (S := S) (a := a) 0 (by omega)
    rw [rest_get S a hlt, List.takeWhile_cons, show isDg S[a] = true from h]
    rfl
  unfold numberT
  simp only [e0, e1, rest_drop, hp]
  cases p
  · simp only [Bool.false_eq_true, if_false] at hB ⊢
    subst hB
    simp
  · simp only [if_true] at hB ⊢
    have e2 : ((restB S (a + A + 1)).takeWhile isDg).length = B := hB
    simp only [e2]
end ScnT
namespace Go.Proofs.YthhfgjcdopkmgaaGreatDoor
open Go.Instr Go.RowKit ScnT
set_option linter.unusedVariables false
set_option linter.unusedSimpArgs false

theorem num_goal {S : ByteArray} {a A B E kd : Nat} {p : Bool} (hlt : a < S.size) (h1 : 1 ≤ A) (hA : tw isDg S a = A) (hp : (lookB (restB S (a + A)) 0 == 46 && isDg (lookB (restB S (a + A)) 1)) = p) (hB : (if p then tw isDg S (a + A + 1) else 0) = B)
    (hE : E = a + (if p then A + 1 + B else A)) (hEl : E ≤ S.size) (hk : kd = if p then 4 else 3) (c : Bool) (hc : ((S[a] != 48 || A == 1) && (decide (A + B ≤ 40) && (!isLt (lookB (restB S E) 0) && lookB (restB S E) 0 != 46))) = c) :
    rdT (numberT (restB S a)) a (.returned (.tuple #[.agg #[.int .u8 (kd : Int), .string (S.extract a E), .int .i64 (a : Int)], .int .i64 (E : Int), .bool c])) := by
  subst hE
  rw [number_eq S a A B p hA hp hB hlt h1, hc]
  cases c
  · exact ⟨_, _, _, _, rfl⟩
  · subst hk
    rw [take_ext S a _ hEl]
    cases p <;> rfl

set_option maxHeartbeats 8000000 in
theorem rfNumber_end (S : ByteArray) (a A : Nat) (w : World) (hS : S.size ≤ 100000) (hlt : a < S.size) (h1 : 1 ≤ A) (hA : tw isDg S a = A) (hno : ¬ a + A + 1 < S.size) :
    Calls Tryz.prog 60 #[.string S, .int .i64 a] w fun e w' => rdT (numberT (restB S a)) a e ∧ Below w.heap.size w w' := by
  have hAl := tw_le isDg S a
  rw [hA] at hAl
  have HDA0 := Lib.hid (fun w => rfDigits_any S a w hS (by omega))
  rw [hA] at HDA0
  have HDA : Hid (∀ w, Calls Tryz.prog 119 #[.string S, .int .i64 (a : Int)] w fun e w' => e = .returned (.int .i64 ((a : Int) + (A : Int))) ∧ w = w') := fun w => by
    have := HDA0.out w
    rw [show ((a + A : Nat) : Int) = (a : Int) + (A : Int) by omega] at this
    exact this
  clear HDA0
  have hp : (lookB (restB S (a + A)) 0 == 46 && isDg (lookB (restB S (a + A)) 1)) = false := by
    rw [look_out S (a + A) 1 (by omega)]
    simp [isDg]
  have hB : (if false then tw isDg S (a + A + 1) else 0) = 0 := rfl
  have p1 : ¬ ((a : Int) + (A : Int) + 1 < (S.size : Int)) := by omega
  have HG := Lib.hid (fun c hc => num_goal (S := S) (a := a) (A := A) (B := 0) (E := a + A) (kd := 3) (p := false) hlt h1 hA hp hB rfl (by omega) rfl c hc)
  clear hA hp hB
  have a0 : (0 : Int) ≤ (a : Int) := by omega
  have a1 : (a : Int) < (S.size : Int) := by omega
  have e0 : (0 : Int) ≤ (a : Int) + (A : Int) := by omega
  have e1 : (a : Int) ≤ (a : Int) + (A : Int) := by omega
  have e2 : (a : Int) + (A : Int) ≤ (S.size : Int) := by omega
  have e3 : ((a : Int) + (A : Int)).toNat = a + A := by omega
  have HEC : Hid (((a + A : Nat) : Int) = (a : Int) + (A : Int)) := by show _ = _; omega

  by_cases h48 : S[a] = 48
  · have f48 : ((S[a].toNat : Int) == 48) = true := by rw [h48]; rfl
    by_cases hA1 : 1 < A
    · have q1 : (a : Int) + 1 < (a : Int) + (A : Int) := by omega
      have q2 : (1 : Int) < (A : Int) := by omega
      have HOK : Hid (rdT (numberT (restB S a)) a (.returned (.tuple #[.agg #[.int .u8 3, .string (S.extract a (a + A)), .int .i64 (a : Int)], .int .i64 ((a : Int) + (A : Int)), .bool false]))) := by
        have h := HG.out false (by rw [h48, show (A == 1) = false from by simp; omega]; rfl)
        rw [HEC.out] at h
        exact h
      clear HG
      try clear hlk
      try clear hlet
      try clear hz
      try clear h46
      try clear h48
      try clear hno
      go_enter Tryz.func60, Tryz.ntmps60
      go_wp2_with ((go_at_call 119; refine (HDA.out _).mono ?_; rintro e w' ⟨rfl, rfl⟩))
      refine bodyPost_ret (v := .tuple #[.agg #[.int .u8 3, .string (S.extract a (a + A)), .int .i64 (a : Int)], .int .i64 ((a : Int) + (A : Int)), .bool false]) (by first | (simp [results, Tryz.results60, go_sem]; done) | (simp [results, Tryz.results60, go_sem]; omega)) rfl ⟨?_, ?_⟩
      · exact HOK.out
      · exact ((Below.refl _ _).alloc (Nat.le_refl _) _).alloc (by simp) _
    · have q1 : ¬ ((a : Int) + 1 < (a : Int) + (A : Int)) := by omega
      have q2 : ¬ ((1 : Int) < (A : Int)) := by omega
      have hz : (S[a] != 48 || A == 1) = true := by rw [h48]; simp; omega
      by_cases hn : A + 0 ≤ 40
      · have n1 : ¬ (40 < (a : Int) + (A : Int) - (a : Int)) := by omega
        by_cases hend : a + A < S.size
        · have t4 : (a : Int) + (A : Int) < (S.size : Int) := by omega
          have hlk : lookB (restB S (a + A)) 0 = S[a + A] := look_in S (a + A) 0 hend
          have HLt : Hid (∀ w, Calls Tryz.prog 54 #[.int .u8 (S[a + A].toNat : Int)] w fun e w' => e = .returned (.bool (isLt S[a + A])) ∧ w = w') := fun w => rfLetter_any _ w
          cases hlet : isLt S[a + A]
          · rw [hlet] at HLt
            by_cases h46 : S[a + A] = 46
            · have f46 : ((S[a + A].toNat : Int) == 46) = true := by rw [h46]; rfl
              have HOK : Hid (rdT (numberT (restB S a)) a (.returned (.tuple #[.agg #[.int .u8 3, .string (S.extract a (a + A)), .int .i64 (a : Int)], .int .i64 ((a : Int) + (A : Int)), .bool false]))) := by
                have h := HG.out false (by rw [hlk, h46]; simp)
                rw [HEC.out] at h
                exact h
              clear HG
              try clear hlk
              try clear hlet
              try clear hz
              try clear h46
              try clear h48
              try clear hno
              go_enter Tryz.func60, Tryz.ntmps60
              go_wp2_with (first | (go_at_call 119; refine (HDA.out _).mono ?_; rintro e w' ⟨rfl, rfl⟩) | (go_at_call 54; refine (HLt.out _).mono ?_; rintro e w' ⟨rfl, rfl⟩))
              refine bodyPost_ret (v := .tuple #[.agg #[.int .u8 3, .string (S.extract a (a + A)), .int .i64 (a : Int)], .int .i64 ((a : Int) + (A : Int)), .bool false]) (by first | (simp [results, Tryz.results60, go_sem]; done) | (simp [results, Tryz.results60, go_sem]; omega)) rfl ⟨?_, ?_⟩
              · exact HOK.out
              · exact ((Below.refl _ _).alloc (Nat.le_refl _) _).alloc (by simp) _
            · have f46 : ((S[a + A].toNat : Int) == 46) = false := by
                rw [beq_eq_false_iff_ne]
                intro e
                exact h46 (UInt8.toNat_inj.1 (by show _ = 46; omega))
              have HOK : Hid (rdT (numberT (restB S a)) a (.returned (.tuple #[.agg #[.int .u8 3, .string (S.extract a (a + A)), .int .i64 (a : Int)], .int .i64 ((a : Int) + (A : Int)), .bool true]))) := by
                have h := HG.out true (by rw [hlk, hz, hlet, decide_eq_true hn, show (S[a + A] != 46) = true from bne_iff_ne.2 h46]; rfl)
                rw [HEC.out] at h
                exact h
              clear HG
              try clear hlk
              try clear hlet
              try clear hz
              try clear h46
              try clear h48
              try clear hno
              go_enter Tryz.func60, Tryz.ntmps60
              go_wp2_with (first | (go_at_call 119; refine (HDA.out _).mono ?_; rintro e w' ⟨rfl, rfl⟩) | (go_at_call 54; refine (HLt.out _).mono ?_; rintro e w' ⟨rfl, rfl⟩))
              refine bodyPost_ret (v := .tuple #[.agg #[.int .u8 3, .string (S.extract a (a + A)), .int .i64 (a : Int)], .int .i64 ((a : Int) + (A : Int)), .bool true]) (by first | (simp [results, Tryz.results60, go_sem]; done) | (simp [results, Tryz.results60, go_sem]; omega)) rfl ⟨?_, ?_⟩
              · exact HOK.out
              · exact ((Below.refl _ _).alloc (Nat.le_refl _) _).alloc (by simp) _
          · rw [hlet] at HLt
            have HOK : Hid (rdT (numberT (restB S a)) a (.returned (.tuple #[.agg #[.int .u8 3, .string (S.extract a (a + A)), .int .i64 (a : Int)], .int .i64 ((a : Int) + (A : Int)), .bool false]))) := by
              have h := HG.out false (by rw [hlk, hlet]; simp)
              rw [HEC.out] at h
              exact h
            clear HG
            try clear hlk
            try clear hlet
            try clear hz
            try clear h46
            try clear h48
            try clear hno
            go_enter Tryz.func60, Tryz.ntmps60
            go_wp2_with (first | (go_at_call 119; refine (HDA.out _).mono ?_; rintro e w' ⟨rfl, rfl⟩) | (go_at_call 54; refine (HLt.out _).mono ?_; rintro e w' ⟨rfl, rfl⟩))
            refine bodyPost_ret (v := .tuple #[.agg #[.int .u8 3, .string (S.extract a (a + A)), .int .i64 (a : Int)], .int .i64 ((a : Int) + (A : Int)), .bool false]) (by first | (simp [results, Tryz.results60, go_sem]; done) | (simp [results, Tryz.results60, go_sem]; omega)) rfl ⟨?_, ?_⟩
            · exact HOK.out
            · exact ((Below.refl _ _).alloc (Nat.le_refl _) _).alloc (by simp) _
        · have t4 : ¬ ((a : Int) + (A : Int) < (S.size : Int)) := by omega
          have hlk : lookB (restB S (a + A)) 0 = 0 := look_out S (a + A) 0 (by omega)
          have HOK : Hid (rdT (numberT (restB S a)) a (.returned (.tuple #[.agg #[.int .u8 3, .string (S.extract a (a + A)), .int .i64 (a : Int)], .int .i64 ((a : Int) + (A : Int)), .bool true]))) := by
            have h := HG.out true (by rw [hlk, hz, decide_eq_true hn]; rfl)
            rw [HEC.out] at h
            exact h
          clear HG
          try clear hlk
          try clear hlet
          try clear hz
          try clear h46
          try clear h48
          try clear hno
          go_enter Tryz.func60, Tryz.ntmps60
          go_wp2_with ((go_at_call 119; refine (HDA.out _).mono ?_; rintro e w' ⟨rfl, rfl⟩))
          refine bodyPost_ret (v := .tuple #[.agg #[.int .u8 3, .string (S.extract a (a + A)), .int .i64 (a : Int)], .int .i64 ((a : Int) + (A : Int)), .bool true]) (by first | (simp [results, Tryz.results60, go_sem]; done) | (simp [results, Tryz.results60, go_sem]; omega)) rfl ⟨?_, ?_⟩
          · exact HOK.out
          · exact ((Below.refl _ _).alloc (Nat.le_refl _) _).alloc (by simp) _
      · have n1 : 40 < (a : Int) + (A : Int) - (a : Int) := by omega
        exfalso; omega
  · have f48 : ((S[a].toNat : Int) == 48) = false := by
      rw [beq_eq_false_iff_ne]
      intro e
      exact h48 (UInt8.toNat_inj.1 (by show _ = 48; omega))
    have hz : (S[a] != 48 || A == 1) = true := by rw [show (S[a] != 48) = true from bne_iff_ne.2 h48]; rfl
    by_cases hn : A + 0 ≤ 40
    · have n1 : ¬ (40 < (a : Int) + (A : Int) - (a : Int)) := by omega
      by_cases hend : a + A < S.size
      · have t4 : (a : Int) + (A : Int) < (S.size : Int) := by omega
        have hlk : lookB (restB S (a + A)) 0 = S[a + A] := look_in S (a + A) 0 hend
        have HLt : Hid (∀ w, Calls Tryz.prog 54 #[.int .u8 (S[a + A].toNat : Int)] w fun e w' => e = .returned (.bool (isLt S[a + A])) ∧ w = w') := fun w => rfLetter_any _ w
        cases hlet : isLt S[a + A]
        · rw [hlet] at HLt
          by_cases h46 : S[a + A] = 46
          · have f46 : ((S[a + A].toNat : Int) == 46) = true := by rw [h46]; rfl
            have HOK : Hid (rdT (numberT (restB S a)) a (.returned (.tuple #[.agg #[.int .u8 3, .string (S.extract a (a + A)), .int .i64 (a : Int)], .int .i64 ((a : Int) + (A : Int)), .bool false]))) := by
              have h := HG.out false (by rw [hlk, h46]; simp)
              rw [HEC.out] at h
              exact h
            clear HG
            try clear hlk
            try clear hlet
            try clear hz
            try clear h46
            try clear h48
            try clear hno
            go_enter Tryz.func60, Tryz.ntmps60
            go_wp2_with (first | (go_at_call 119; refine (HDA.out _).mono ?_; rintro e w' ⟨rfl, rfl⟩) | (go_at_call 54; refine (HLt.out _).mono ?_; rintro e w' ⟨rfl, rfl⟩))
            refine bodyPost_ret (v := .tuple #[.agg #[.int .u8 3, .string (S.extract a (a + A)), .int .i64 (a : Int)], .int .i64 ((a : Int) + (A : Int)), .bool false]) (by first | (simp [results, Tryz.results60, go_sem]; done) | (simp [results, Tryz.results60, go_sem]; omega)) rfl ⟨?_, ?_⟩
            · exact HOK.out
            · exact ((Below.refl _ _).alloc (Nat.le_refl _) _).alloc (by simp) _
          · have f46 : ((S[a + A].toNat : Int) == 46) = false := by
              rw [beq_eq_false_iff_ne]
              intro e
              exact h46 (UInt8.toNat_inj.1 (by show _ = 46; omega))
            have HOK : Hid (rdT (numberT (restB S a)) a (.returned (.tuple #[.agg #[.int .u8 3, .string (S.extract a (a + A)), .int .i64 (a : Int)], .int .i64 ((a : Int) + (A : Int)), .bool true]))) := by
              have h := HG.out true (by rw [hlk, hz, hlet, decide_eq_true hn, show (S[a + A] != 46) = true from bne_iff_ne.2 h46]; rfl)
              rw [HEC.out] at h
              exact h
            clear HG
            try clear hlk
            try clear hlet
            try clear hz
            try clear h46
            try clear h48
            try clear hno
            go_enter Tryz.func60, Tryz.ntmps60
            go_wp2_with (first | (go_at_call 119; refine (HDA.out _).mono ?_; rintro e w' ⟨rfl, rfl⟩) | (go_at_call 54; refine (HLt.out _).mono ?_; rintro e w' ⟨rfl, rfl⟩))
            refine bodyPost_ret (v := .tuple #[.agg #[.int .u8 3, .string (S.extract a (a + A)), .int .i64 (a : Int)], .int .i64 ((a : Int) + (A : Int)), .bool true]) (by first | (simp [results, Tryz.results60, go_sem]; done) | (simp [results, Tryz.results60, go_sem]; omega)) rfl ⟨?_, ?_⟩
            · exact HOK.out
            · exact ((Below.refl _ _).alloc (Nat.le_refl _) _).alloc (by simp) _
        · rw [hlet] at HLt
          have HOK : Hid (rdT (numberT (restB S a)) a (.returned (.tuple #[.agg #[.int .u8 3, .string (S.extract a (a + A)), .int .i64 (a : Int)], .int .i64 ((a : Int) + (A : Int)), .bool false]))) := by
            have h := HG.out false (by rw [hlk, hlet]; simp)
            rw [HEC.out] at h
            exact h
          clear HG
          try clear hlk
          try clear hlet
          try clear hz
          try clear h46
          try clear h48
          try clear hno
          go_enter Tryz.func60, Tryz.ntmps60
          go_wp2_with (first | (go_at_call 119; refine (HDA.out _).mono ?_; rintro e w' ⟨rfl, rfl⟩) | (go_at_call 54; refine (HLt.out _).mono ?_; rintro e w' ⟨rfl, rfl⟩))
          refine bodyPost_ret (v := .tuple #[.agg #[.int .u8 3, .string (S.extract a (a + A)), .int .i64 (a : Int)], .int .i64 ((a : Int) + (A : Int)), .bool false]) (by first | (simp [results, Tryz.results60, go_sem]; done) | (simp [results, Tryz.results60, go_sem]; omega)) rfl ⟨?_, ?_⟩
          · exact HOK.out
          · exact ((Below.refl _ _).alloc (Nat.le_refl _) _).alloc (by simp) _
      · have t4 : ¬ ((a : Int) + (A : Int) < (S.size : Int)) := by omega
        have hlk : lookB (restB S (a + A)) 0 = 0 := look_out S (a + A) 0 (by omega)
        have HOK : Hid (rdT (numberT (restB S a)) a (.returned (.tuple #[.agg #[.int .u8 3, .string (S.extract a (a + A)), .int .i64 (a : Int)], .int .i64 ((a : Int) + (A : Int)), .bool true]))) := by
          have h := HG.out true (by rw [hlk, hz, decide_eq_true hn]; rfl)
          rw [HEC.out] at h
          exact h
        clear HG
        try clear hlk
        try clear hlet
        try clear hz
        try clear h46
        try clear h48
        try clear hno
        go_enter Tryz.func60, Tryz.ntmps60
        go_wp2_with ((go_at_call 119; refine (HDA.out _).mono ?_; rintro e w' ⟨rfl, rfl⟩))
        refine bodyPost_ret (v := .tuple #[.agg #[.int .u8 3, .string (S.extract a (a + A)), .int .i64 (a : Int)], .int .i64 ((a : Int) + (A : Int)), .bool true]) (by first | (simp [results, Tryz.results60, go_sem]; done) | (simp [results, Tryz.results60, go_sem]; omega)) rfl ⟨?_, ?_⟩
        · exact HOK.out
        · exact ((Below.refl _ _).alloc (Nat.le_refl _) _).alloc (by simp) _
    · have n1 : 40 < (a : Int) + (A : Int) - (a : Int) := by omega
      have HOK : Hid (rdT (numberT (restB S a)) a (.returned (.tuple #[.agg #[.int .u8 3, .string (S.extract a (a + A)), .int .i64 (a : Int)], .int .i64 ((a : Int) + (A : Int)), .bool false]))) := by
        have h := HG.out false (by rw [decide_eq_false hn]; simp)
        rw [HEC.out] at h
        exact h
      clear HG
      try clear hlk
      try clear hlet
      try clear hz
      try clear h46
      try clear h48
      try clear hno
      go_enter Tryz.func60, Tryz.ntmps60
      go_wp2_with ((go_at_call 119; refine (HDA.out _).mono ?_; rintro e w' ⟨rfl, rfl⟩))
      refine bodyPost_ret (v := .tuple #[.agg #[.int .u8 3, .string (S.extract a (a + A)), .int .i64 (a : Int)], .int .i64 ((a : Int) + (A : Int)), .bool false]) (by first | (simp [results, Tryz.results60, go_sem]; done) | (simp [results, Tryz.results60, go_sem]; omega)) rfl ⟨?_, ?_⟩
      · exact HOK.out
      · exact ((Below.refl _ _).alloc (Nat.le_refl _) _).alloc (by simp) _
end Go.Proofs.YthhfgjcdopkmgaaGreatDoor
