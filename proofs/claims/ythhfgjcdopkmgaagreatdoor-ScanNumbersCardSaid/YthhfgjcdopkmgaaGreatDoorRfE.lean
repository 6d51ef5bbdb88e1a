/- The document's own scanner: dollars. -/
import Derived.Test.YthhfgjcdopkmgaaGreatDoorRfD
set_option maxRecDepth 100000
namespace ScnT
/-- What a reader of one kind of token tells: its token, its end; or that there is none. -/
def rdT (R : Except Nat (Nat × Bs × Nat)) (a : Nat) (e : Go.Ending) : Prop :=
  match R with
  | .ok (k, t, n) => e = .returned (.tuple #[.agg #[.int .u8 (k : Int), .string (mkS t), .int .i64 (a : Int)], .int .i64 ((a + n : Nat) : Int), .bool true])
  | .error _ => ∃ (k : Int) (s : ByteArray) (p x : Int), e = .returned (.tuple #[.agg #[.int .u8 k, .string s, .int .i64 p], .int .i64 x, .bool false])
theorem take_tw (p : UInt8 → Bool) (l : Bs) : l.take (l.takeWhile p).length = l.takeWhile p := by
  induction l with
  | nil => rfl
  | cons c l ih => rw [List.takeWhile_cons]; split <;> simp [ih]
end ScnT
namespace Go.Proofs.YthhfgjcdopkmgaaGreatDoor
open Go.Instr Go.RowKit ScnT
set_option linter.unusedVariables false
set_option linter.unusedSimpArgs false
set_option maxHeartbeats 2000000 in
theorem rfDollar_any (S : ByteArray) (a : Nat) (w : World) (hS : S.size ≤ 100000) (ha : a < S.size) : Calls Tryz.prog 62 #[.string S, .int .i64 a] w fun e w' => rdT (dollarT (restB S a)) a e ∧ Below w.heap.size w w' := by
  have hr1 : (restB S a).drop 1 = restB S (a + 1) := by unfold restB; rw [List.drop_drop]
  by_cases h1 : ∃ hlt : a + 1 < S.size, S[a + 1] = 36
  · obtain ⟨hlt, h36⟩ := h1
    have HE : Hid (dollarT (restB S a) = .ok (8, [36], 2)) := by
      show _ = _
      unfold dollarT
      rw [look_in S a 1 hlt, h36]
      rfl
    rw [HE.out]
    have t1 : (a : Int) + 1 < (S.size : Int) := by omega
    have t2 : ((S[a + 1].toNat : Int) == 36) = true := by rw [h36]; rfl
    have t3 : ((a : Int) + 1).toNat = a + 1 := by omega
    have a0 : (0 : Int) ≤ (a : Int) + 1 := by omega
    clear h36 hr1
    go_enter Tryz.func62, Tryz.ntmps62
    go_wp2_with fail
    refine bodyPost_ret (v := .tuple #[.agg #[.int .u8 8, .string ⟨#[36]⟩, .int .i64 (a : Int)], .int .i64 ((a : Int) + 2), .bool true]) (by simp [results, Tryz.results62, go_sem]) rfl ⟨?_, ?_⟩
    · show _ = _
      rfl
    · exact (Below.refl _ _).alloc (Nat.le_refl _) _
  · have hne : (lookB (restB S a) 1 == 36) = false := by
      by_cases h : a + 1 < S.size
      · rw [look_in S a 1 h]
        rw [beq_eq_false_iff_ne]
        exact fun e => h1 ⟨h, e⟩
      · rw [look_out S a 1 (by omega)]
        rfl
    have HDG := Lib.hid (fun w => rfDigits_any S (a + 1) w hS (by omega))
    obtain ⟨d, hd⟩ : ∃ d, tw isDg S (a + 1) = d := ⟨_, rfl⟩
    have hdl := tw_le isDg S (a + 1)
    rw [hd] at HDG hdl
    have hcast : ((a + 1 + d : Nat) : Int) = (a : Int) + 1 + (d : Int) := by omega
    have hc1 : ((a + 1 : Nat) : Int) = (a : Int) + 1 := by omega
    rw [hcast, hc1] at HDG
    have hv : dollarT (restB S a) = if (((restB S (a + 1)).takeWhile isDg) != []) && (decide (d ≤ 2) && (lookB ((restB S (a + 1)).takeWhile isDg) 0 != 48 && !isLt (lookB (restB S (a + 1 + d)) 0))) then .ok (8, (restB S (a + 1)).takeWhile isDg, 1 + d) else .error 101 := by
      unfold dollarT
      rw [hne]
      simp only [Bool.false_eq_true, if_false]
      have e1 : ((restB S (a + 1)).takeWhile isDg).length = d := hd
      have e2 : (restB S a).drop (1 + d) = restB S (a + 1 + d) := by unfold restB; rw [List.drop_drop]; congr 1; omega
      rw [hr1, e1, e2]
    have HV := Lib.hid hv
    have hlen : ((restB S (a + 1)).takeWhile isDg).length = d := hd
    have g1 : ∀ hlt : a + 1 < S.size, Hid (((S[a + 1].toNat : Int) == 36) = false) := fun hlt => by
      show _ = _
      rw [beq_eq_false_iff_ne]
      intro e
      exact h1 ⟨hlt, UInt8.toNat_inj.1 (by show _ = 36; omega)⟩
    have a0 : (0 : Int) ≤ (a : Int) + 1 := by omega
    have t3 : ((a : Int) + 1).toNat = a + 1 := by omega
    clear hv hne hcast hc1 hr1
    by_cases hd0 : d = 0
    · subst hd0
      have HE : Hid (dollarT (restB S a) = .error 101) := by
        show _ = _
        rw [HV.out, List.eq_nil_of_length_eq_zero hlen]
        rfl
      rw [HE.out]
      have c1 : (a : Int) + 1 + ((0 : Nat) : Int) - (a : Int) - 1 = 0 := by omega
      clear hlen hd hdl
      by_cases hlt : a + 1 < S.size
      · have t1 : (a : Int) + 1 < (S.size : Int) := by omega
        have g2 := (g1 hlt).out
        clear g1
        clear HV
        go_enter Tryz.func62, Tryz.ntmps62
        go_wp2_with (go_at_call 119; refine (HDG.out _).mono ?_; rintro e w' ⟨rfl, rfl⟩)
        refine bodyPost_ret (v := .tuple #[.agg #[.int .u8 0, .string ⟨#[]⟩, .int .i64 0], .int .i64 0, .bool false]) (by simp [results, Tryz.results62, go_sem]) rfl ⟨⟨_, _, _, _, rfl⟩, ?_⟩
        exact (Below.refl _ _).alloc (Nat.le_refl _) _
      · have t1 : ¬ ((a : Int) + 1 < (S.size : Int)) := by omega
        clear g1
        clear HV
        go_enter Tryz.func62, Tryz.ntmps62
        go_wp2_with (go_at_call 119; refine (HDG.out _).mono ?_; rintro e w' ⟨rfl, rfl⟩)
        refine bodyPost_ret (v := .tuple #[.agg #[.int .u8 0, .string ⟨#[]⟩, .int .i64 0], .int .i64 0, .bool false]) (by simp [results, Tryz.results62, go_sem]) rfl ⟨⟨_, _, _, _, rfl⟩, ?_⟩
        exact (Below.refl _ _).alloc (Nat.le_refl _) _
    · have hlt : a + 1 < S.size := by omega
      have g2 := (g1 hlt).out
      have t1 : (a : Int) + 1 < (S.size : Int) := by omega
      have hl0 : lookB ((restB S (a + 1)).takeWhile isDg) 0 = S[a + 1] := by
        have hh := rest_get S (a + 1) hlt
        have h9 : isDg S[a + 1] = true := by
          obtain ⟨_, h⟩ := tw_in (p := isDg) (S := S) (a := a + 1) 0 (by omega)
          exact h
        rw [hh, List.takeWhile_cons, h9]
        rfl
      have hne0 : ((restB S (a + 1)).takeWhile isDg != []) = true := by
        rw [bne_iff_ne]
        intro h
        rw [h] at hlen
        simp at hlen
        omega
      have HV2 : Hid (dollarT (restB S a) = if (decide (d ≤ 2) && (S[a + 1] != 48 && !isLt (lookB (restB S (a + 1 + d)) 0))) then .ok (8, (restB S (a + 1)).takeWhile isDg, 1 + d) else .error 101) := by
        show _ = _
        rw [HV.out, hne0, hl0, Bool.true_and]
      have c1 : (a : Int) + 1 + (d : Int) - (a : Int) - 1 = (d : Int) := by omega
      have d1 : ¬ ((d : Int) < 1) := by omega
      clear hne0 hl0 g1
      by_cases hd2 : d ≤ 2
      · have d2 : ¬ (2 < (d : Int)) := by omega
        by_cases h48 : S[a + 1] = 48
        · have f1 : ((S[a + 1].toNat : Int) == 48) = true := by rw [h48]; rfl
          have HE : Hid (dollarT (restB S a) = .error 101) := by
            show _ = _
            rw [HV2.out, h48]
            simp
          rw [HE.out]
          clear hlen hd hdl HV2 h48
          clear HV
          go_enter Tryz.func62, Tryz.ntmps62
          go_wp2_with (go_at_call 119; refine (HDG.out _).mono ?_; rintro e w' ⟨rfl, rfl⟩)
          refine bodyPost_ret (v := .tuple #[.agg #[.int .u8 0, .string ⟨#[]⟩, .int .i64 0], .int .i64 0, .bool false]) (by simp [results, Tryz.results62, go_sem]) rfl ⟨⟨_, _, _, _, rfl⟩, ?_⟩
          exact (Below.refl _ _).alloc (Nat.le_refl _) _
        · have f1 : ((S[a + 1].toNat : Int) == 48) = false := by
            rw [beq_eq_false_iff_ne]
            intro e
            exact h48 (UInt8.toNat_inj.1 (by show _ = 48; omega))
          have h48' : (S[a + 1] != 48) = true := by rw [bne_iff_ne]; exact h48
          have HV3 : Hid (dollarT (restB S a) = if (!isLt (lookB (restB S (a + 1 + d)) 0)) then .ok (8, (restB S (a + 1)).takeWhile isDg, 1 + d) else .error 101) := by
            show _ = _
            rw [HV2.out, h48', decide_eq_true hd2, Bool.true_and, Bool.true_and]
          clear h48 h48' HV2
          by_cases hl2 : a + 1 + d < S.size
          · have t4 : (a : Int) + 1 + (d : Int) < (S.size : Int) := by omega
            have u1 : ((a : Int) + 1 + (d : Int)).toNat = a + 1 + d := by omega
            have u4 : (0 : Int) ≤ (a : Int) + 1 + (d : Int) := by omega
            have HLt : Hid (∀ w, Calls Tryz.prog 54 #[.int .u8 (S[a + 1 + d].toNat : Int)] w fun e w' => e = .returned (.bool (isLt S[a + 1 + d])) ∧ w = w') := fun w => rfLetter_any _ w
            have hlk : lookB (restB S (a + 1 + d)) 0 = S[a + 1 + d] := look_in S (a + 1 + d) 0 hl2
            rw [hlk] at HV3
            clear hlk
            cases hlet : isLt S[a + 1 + d]
            · rw [hlet] at HLt HV3
              rw [show dollarT (restB S a) = .ok (8, (restB S (a + 1)).takeWhile isDg, 1 + d) from HV3.out]
              clear hlet HV3
              have hx : S.extract (a + 1) (a + 1 + d) = mkS ((restB S (a + 1)).takeWhile isDg) := by
                rw [Lib.extract_eq]
                have e2 : a + 1 + d - (a + 1) = d := by omega
                rw [e2]
                unfold mkS
                congr 2
                rw [← hlen]
                exact take_tw isDg (restB S (a + 1))
              have HXX := Lib.hid hx
              have u2 : (a : Int) + 1 ≤ (a : Int) + 1 + (d : Int) := by omega
              have u3 : (a : Int) + 1 + (d : Int) ≤ (S.size : Int) := by omega
              have HEND : Hid ((a : Int) + 1 + (d : Int) = ((a + (1 + d) : Nat) : Int)) := by show _ = _; omega
              clear HV hx hlen
              go_enter Tryz.func62, Tryz.ntmps62
              go_wp2_with (first | (go_at_call 119; refine (HDG.out _).mono ?_; rintro e w' ⟨rfl, rfl⟩) | (go_at_call 54; refine (HLt.out _).mono ?_; rintro e w' ⟨rfl, rfl⟩))
              refine bodyPost_ret (v := .tuple #[.agg #[.int .u8 8, .string (S.extract (a + 1) (a + 1 + d)), .int .i64 (a : Int)], .int .i64 ((a : Int) + 1 + (d : Int)), .bool true]) (by simp [results, Tryz.results62, go_sem]) rfl ⟨?_, ?_⟩
              · show _ = _
                rw [HXX.out, HEND.out]
                rfl
              · exact (Below.refl _ _).alloc (Nat.le_refl _) _
            · rw [hlet] at HLt HV3
              rw [show dollarT (restB S a) = .error 101 from HV3.out]
              clear hlet HV3 hlen hd hdl
              clear HV
              go_enter Tryz.func62, Tryz.ntmps62
              go_wp2_with (first | (go_at_call 119; refine (HDG.out _).mono ?_; rintro e w' ⟨rfl, rfl⟩) | (go_at_call 54; refine (HLt.out _).mono ?_; rintro e w' ⟨rfl, rfl⟩))
              refine bodyPost_ret (v := .tuple #[.agg #[.int .u8 0, .string ⟨#[]⟩, .int .i64 0], .int .i64 0, .bool false]) (by simp [results, Tryz.results62, go_sem]) rfl ⟨⟨_, _, _, _, rfl⟩, ?_⟩
              exact (Below.refl _ _).alloc (Nat.le_refl _) _
          · have t4 : ¬ ((a : Int) + 1 + (d : Int) < (S.size : Int)) := by omega
            rw [look_out S (a + 1 + d) 0 (by omega)] at HV3
            rw [show dollarT (restB S a) = .ok (8, (restB S (a + 1)).takeWhile isDg, 1 + d) from HV3.out]
            clear HV3
            have hx : S.extract (a + 1) (a + 1 + d) = mkS ((restB S (a + 1)).takeWhile isDg) := by
              rw [Lib.extract_eq]
              have e2 : a + 1 + d - (a + 1) = d := by omega
              rw [e2]
              unfold mkS
              congr 2
              rw [← hlen]
              exact take_tw isDg (restB S (a + 1))
            have HXX := Lib.hid hx
            have u1 : ((a : Int) + 1 + (d : Int)).toNat = a + 1 + d := by omega
            have u2 : (a : Int) + 1 ≤ (a : Int) + 1 + (d : Int) := by omega
            have u3 : (a : Int) + 1 + (d : Int) ≤ (S.size : Int) := by omega
            have u4 : (0 : Int) ≤ (a : Int) + 1 + (d : Int) := by omega
            have HEND : Hid ((a : Int) + 1 + (d : Int) = ((a + (1 + d) : Nat) : Int)) := by show _ = _; omega
            clear HV hx hlen
            go_enter Tryz.func62, Tryz.ntmps62
            go_wp2_with (go_at_call 119; refine (HDG.out _).mono ?_; rintro e w' ⟨rfl, rfl⟩)
            refine bodyPost_ret (v := .tuple #[.agg #[.int .u8 8, .string (S.extract (a + 1) (a + 1 + d)), .int .i64 (a : Int)], .int .i64 ((a : Int) + 1 + (d : Int)), .bool true]) (by simp [results, Tryz.results62, go_sem]) rfl ⟨?_, ?_⟩
            · show _ = _
              rw [HXX.out, HEND.out]
              rfl
            · exact (Below.refl _ _).alloc (Nat.le_refl _) _
      · have d2 : 2 < (d : Int) := by omega
        have HE : Hid (dollarT (restB S a) = .error 101) := by
          show _ = _
          rw [HV2.out, decide_eq_false hd2]
          rfl
        rw [HE.out]
        clear hlen hd HV2
        clear HV
        go_enter Tryz.func62, Tryz.ntmps62
        go_wp2_with (go_at_call 119; refine (HDG.out _).mono ?_; rintro e w' ⟨rfl, rfl⟩)
        refine bodyPost_ret (v := .tuple #[.agg #[.int .u8 0, .string ⟨#[]⟩, .int .i64 0], .int .i64 0, .bool false]) (by simp [results, Tryz.results62, go_sem]) rfl ⟨⟨_, _, _, _, rfl⟩, ?_⟩
        exact (Below.refl _ _).alloc (Nat.le_refl _) _
end Go.Proofs.YthhfgjcdopkmgaaGreatDoor
