/- The document's own scanner: a token that is a name or a word: none. -/
/- The document's own scanner: a token, whole. -/
import Derived.Test.YtinhknheaeaacaaGreatRfHa
import Derived.Test.YtinhknheaeaacaaGreatRfHc
set_option maxRecDepth 100000
namespace Go.Proofs.YtinhknheaeaacaaGreat
open Go.Instr Go.RowKit ScnT FlT
set_option linter.unusedVariables false
set_option linter.unusedSimpArgs false
set_option maxHeartbeats 4000000 in
theorem rfName_none (S X : ByteArray) (a L : Nat) (w : World) (bf : Bool) (hS : S.size ≤ 100000) (ha : a < S.size) (haL : a + L ≤ S.size) (h1 : isLt S[a] = true) (hX : S.extract a (a + L) = X)
    (HRN : Hid (∀ w, Calls Tryz.prog 28 #[.string S, .int .i64 a] w fun e w' => e = .returned (.int .i64 ((a : Int) + (L : Int))) ∧ w = w'))
    (HNM : Hid (∀ w, Calls Tryz.prog 29 #[.string X] w fun e w' => e = .returned (.bool false) ∧ w = w'))
    (HAF : Hid (∀ g c w, TextsAt w g foreignWords → Calls Tryz.prog 26 #[.string X, .slice (some ⟨g, 0, none⟩) 11 c] w fun e w' => e = .returned (.bool bf) ∧ w = w'))
    (HAW : Hid (∀ g c w, TextsAt w g words → Calls Tryz.prog 26 #[.string X, .slice (some ⟨g, 0, none⟩) 16 c] w fun e w' => e = .returned (.bool false) ∧ w = w'))
    (HR : Hid (tkT (nameT (restB S a)) a (.returned (.tuple #[.agg #[.int .u8 0, .string ⟨#[]⟩, .int .i64 0], .int .i64 0, .int .i64 101])))) :
    Calls Tryz.prog 16 #[.string S, .int .i64 a] w fun e w' => tkT (nameT (restB S a)) a e ∧ Below w.heap.size w w' := by
  have HLt : Hid (∀ w, Calls Tryz.prog 27 #[.int .u8 (S[a].toNat : Int)] w fun e w' => e = .returned (.bool true) ∧ w = w') := fun w => by
    have := rfLetter_any S[a] w
    rw [h1] at this
    exact this
  have ha0 : (0 : Int) ≤ (a : Int) := by omega
  have ha1 : (a : Int) < (S.size : Int) := by omega
  have b0 : (0 : Int) ≤ (a : Int) + (L : Int) := by omega
  have b1 : (a : Int) ≤ (a : Int) + (L : Int) := by omega
  have b2 : (a : Int) + (L : Int) ≤ (S.size : Int) := by omega
  have b3 : ((a : Int) + (L : Int)).toNat = a + L := by omega
  have HXX := Lib.hid hX
  have HT := Lib.hid (two_toks w 2 X (a : Int))
  clear h1
  go_enter Tryz.func16, Tryz.ntmps16
  go_upto_region 12 with (first | (go_at_call 27; refine (HLt.out _).mono ?_; rintro e w' ⟨rfl, rfl⟩) | (go_at_call 28; refine (HRN.out _).mono ?_; rintro e w' ⟨rfl, rfl⟩))
  generalize ((w.alloc (.cells #[.int .u8 0, .string ⟨#[]⟩, .int .i64 0] 45)).alloc (.cells #[.int .u8 2, .string X, .int .i64 (a : Int)] 45)) = W at *
  have hsz := HT.out.1.cells.1
  obtain ⟨_, k0, k1, k2, g0, g1, g2⟩ := HT.out.1.cells
  obtain ⟨hsz1, j0, j1, j2, m0, m1, m2⟩ := HT.out.2.1.cells
  have HB := Lib.hid HT.out.2.2
  have HC0 := Lib.hid HT.out.1
  have HC1 := Lib.hid HT.out.2.1
  clear HT
  have HD : Hid (TokCell w.heap.size 0 ⟨#[]⟩ 0 W ∧ TokCell (w.heap.size + 1) 2 X (a : Int) W ∧ Below w.heap.size w W) := ⟨HC0.out, HC1.out, HB.out⟩
  go_quiet ((go_at_call 29; exact Calls.quiet_of_same ((HNM.out _).mono fun _ _ h => ⟨h.1, h.2.symm⟩)))
  have HD2 : Hid (TokCell w.heap.size 0 ⟨#[]⟩ 0 (W.drewN nq) ∧ TokCell (w.heap.size + 1) 2 X (a : Int) (W.drewN nq) ∧ Below w.heap.size w (W.drewN nq)) := ⟨HC0.out, HC1.out, ⟨HB.out.os, HB.out.tape, HB.out.output, HB.out.size, HB.out.block⟩⟩
  clear HD HB HC0 HC1 hsz hsz1 k0 k1 k2 g0 g1 g2 j0 j1 j2 m0 m1 m2
  generalize W.drewN nq = V at *
  have hsz := HD2.out.1.cells.1
  obtain ⟨_, k0, k1, k2, g0, g1, g2⟩ := HD2.out.1.cells
  obtain ⟨hsz1, j0, j1, j2, m0, m1, m2⟩ := HD2.out.2.1.cells
  have HB := Lib.hid HD2.out.2.2
  have HC0 := Lib.hid HD2.out.1
  have HC1 := Lib.hid HD2.out.2.1
  clear HD2
  all_goals
    go_upto_region 13 with fail
    go_region_with (first
      | (go_at_call 31; refine (rfWords_any _).mono ?_; rintro e w' ⟨rfl, rfl⟩)
      | (go_at_call 26; with_reducible refine (HAW.out _ _ _ (TextsAt.at _ words _ (by simp)).drew).mono ?_; rintro e w' ⟨rfl, rfl⟩)
      | (go_at_call 26; with_reducible refine (HAW.out _ _ _ (TextsAt.at _ words _ (by simp))).mono ?_; rintro e w' ⟨rfl, rfl⟩)
      | (go_at_call 26; with_reducible refine (HAW.out _ _ _ (TextsAt.at _ words _ (by simp)).drew.drew).mono ?_; rintro e w' ⟨rfl, rfl⟩))
    all_goals
      have hb2 : Below V.heap.size V (V.alloc (.cells (List.map (fun t => Value.string (mkS t)) words).toArray 9)).drew := ((Below.refl _ _).alloc (Nat.le_refl _) _).drew
      generalize (V.alloc (.cells (List.map (fun t => Value.string (mkS t)) words).toArray 9)).drew = W2 at *
      obtain ⟨hz0, x0, x1, x2, y0, y1, y2⟩ := (HC0.out.later hb2 hsz).cells
      obtain ⟨hz1, z0, z1, z2, o0, o1, o2⟩ := (HC1.out.later hb2 hsz1).cells
      have HB2 := Lib.hid (HB.out.trans (hb2.mono (Nat.le_of_lt hsz)))
      clear hb2
      go_wp2_with fail
      refine bodyPost_ret (v := .tuple #[.agg #[.int .u8 0, .string ⟨#[]⟩, .int .i64 0], .int .i64 0, .int .i64 101]) (by simp [results, Tryz.results16, go_sem, x0, x1, x2, y0, y1, y2, z0, z1, z2, o0, o1, o2]) rfl ⟨HR.out, ?_⟩
      exact (((HB2.out.setCell (p := ⟨w.heap.size, 0, none⟩) (Nat.le_refl _) _).setCell (p := ⟨w.heap.size, 1, none⟩) (Nat.le_refl _) _).setCell (p := ⟨w.heap.size, 2, none⟩) (Nat.le_refl _) _)
end Go.Proofs.YtinhknheaeaacaaGreat
namespace Go.Proofs.YtinhknheaeaacaaGreat
open Go.Instr Go.RowKit ScnT FlT
set_option linter.unusedVariables false
set_option linter.unusedSimpArgs false
theorem rfToken_name (S : ByteArray) (a : Nat) (w : World) (hS : S.size ≤ 100000) (ha : a < S.size) (h1 : isLt S[a] = true) : Calls Tryz.prog 16 #[.string S, .int .i64 a] w fun e w' => tkT (nameT (restB S a)) a e ∧ Below w.heap.size w w' := by
  have hld : isLd S[a] = true := by rw [ld_eq, h1]; rfl
  have hL := tw_le isLd S a
  have hcons : restB S a = S[a] :: restB S (a + 1) := rest_get S a ha
  obtain ⟨t, ht⟩ : ∃ t, (restB S a).takeWhile isLd = t := ⟨_, rfl⟩
  have htl : tw isLd S a = t.length := by rw [← ht]; rfl
  have hte : t = S[a] :: (restB S (a + 1)).takeWhile isLd := by rw [← ht, hcons, List.takeWhile_cons, hld]; rfl
  have hall : t.all isLd = true := by rw [← ht]; exact all_tw _ _
  have hX : S.extract a (a + t.length) = mkS t := by
    rw [Lib.extract_eq]
    have e2 : a + t.length - a = t.length := by omega
    rw [e2, ← ht]
    unfold mkS
    congr 2
    exact take_tw isLd (restB S a)
  rw [htl] at hL
  have hpos : 0 < t.length := by rw [hte]; simp
  have HRN : Hid (∀ w, Calls Tryz.prog 28 #[.string S, .int .i64 a] w fun e w' => e = .returned (.int .i64 ((a : Int) + (t.length : Int))) ∧ w = w') := fun w => by
    have := rfRun_any S a w hS (by omega)
    rw [htl, show ((a + t.length : Nat) : Int) = (a : Int) + (t.length : Int) by omega] at this
    exact this
  have HNM : Hid (∀ w, Calls Tryz.prog 29 #[.string (mkS t)] w fun e w' => e = .returned (.bool ((t != [95]) && decide (t.length ≤ 40))) ∧ w = w') := fun w => by
    have := rfName_any (mkS t) w (by rw [mkS_size]; omega) (by rw [mkS_size]; omega) (mk_name t hall) (by
      rw [mk_get]
      have : t[0]'(by omega) = S[a] := by simp [hte]
      rw [this]
      exact h1)
    rw [mkS_list, mkS_size] at this
    exact this
  have HAF : Hid (∀ g c w, TextsAt w g foreignWords → Calls Tryz.prog 26 #[.string (mkS t), .slice (some ⟨g, 0, none⟩) 11 c] w fun e w' => e = .returned (.bool (foreignWords.contains t)) ∧ w = w') := fun g c w hc => rfAmong_any t foreignWords g c w (by decide) hc
  have HAW : Hid (∀ g c w, TextsAt w g words → Calls Tryz.prog 26 #[.string (mkS t), .slice (some ⟨g, 0, none⟩) 16 c] w fun e w' => e = .returned (.bool (words.contains t)) ∧ w = w') := fun g c w hc => rfAmong_any t words g c w (by decide) hc
  have hway := name_way (restB S a)
  rw [ht] at hway
  have hend : ((a : Int) + (t.length : Int)) = ((a + t.length : Nat) : Int) := by omega
  cases hw : words.contains t
  · rw [hw] at HAW hway
    cases hN : ((t != [95]) && decide (t.length ≤ 40))
    · rw [hN] at HNM hway
      exact rfName_none S (mkS t) a t.length w (foreignWords.contains t) hS ha (by omega) h1 hX HRN HNM HAF HAW (by show tkT _ _ _; rw [hway]; rfl)
    · rw [hN] at HNM hway
      cases hf : foreignWords.contains t
      · rw [hf] at HAF hway
        exact rfName_plain S (mkS t) a t.length w hS ha (by omega) h1 hX HRN HNM HAF HAW (by show tkT _ _ _; rw [hway, hend]; rfl)
      · rw [hf] at HAF hway
        exact rfName_foreign S (mkS t) a t.length w hS ha (by omega) h1 hX HRN HNM HAF HAW (by show tkT _ _ _; rw [hway]; rfl)
  · rw [hw] at HAW hway
    obtain ⟨hN, hf⟩ := words_fit t (List.contains_iff_mem.1 hw)
    rw [hN] at HNM
    rw [hf] at HAF
    exact rfName_word S (mkS t) a t.length w hS ha (by omega) h1 hX HRN HNM HAF HAW (by show tkT _ _ _; rw [hway, hend]; rfl)
theorem rfToken_any (S : ByteArray) (a : Nat) (w : World) (hS : S.size ≤ 100000) (ha : a < S.size) : Calls Tryz.prog 16 #[.string S, .int .i64 a] w fun e w' => tkT (oneT (restB S a)) a e ∧ Below w.heap.size w w' := by
  have hlk : lookB (restB S a) 0 = S[a] := look_in S a 0 ha
  cases h1 : isLt S[a]
  · cases h2 : isDg S[a]
    · by_cases h3 : S[a] = 34
      · rw [one_string (by rw [hlk]; exact h1) (by rw [hlk]; exact h2) (by rw [hlk, h3]; rfl)]
        exact rfToken_text S a w hS ha h1 h2 h3
      · by_cases h4 : S[a] = 36
        · rw [one_dollar (by rw [hlk]; exact h1) (by rw [hlk]; exact h2) (by rw [hlk]; exact beq_eq_false_iff_ne.2 h3) (by rw [hlk, h4]; rfl)]
          exact rfToken_dollar S a w hS ha h1 h2 h3 h4
        · rw [one_sign (by rw [hlk]; exact h1) (by rw [hlk]; exact h2) (by rw [hlk]; exact beq_eq_false_iff_ne.2 h3) (by rw [hlk]; exact beq_eq_false_iff_ne.2 h4)]
          exact rfToken_sign S a w hS ha h1 h2 h3 h4
    · rw [one_digit (by rw [hlk]; exact h1) (by rw [hlk]; exact h2)]
      exact rfToken_number S a w hS ha h1 h2
  · rw [one_letter (by rw [hlk]; exact h1)]
    exact rfToken_name S a w hS ha h1
end Go.Proofs.YtinhknheaeaacaaGreat
