/- The document's own scanner: a token that is a name or a word: plain. -/
/- The document's own scanner: a token that is a name or a word: foreign. -/
import Derived.Test.YthhfgjcdopkmgaaGreatDoorRfHa
set_option maxRecDepth 100000
namespace Go.Proofs.YthhfgjcdopkmgaaGreatDoor
open Go.Instr Go.RowKit ScnT FlT
set_option linter.unusedVariables false
set_option linter.unusedSimpArgs false
set_option maxHeartbeats 4000000 in
theorem rfName_plain (S X : ByteArray) (a L : Nat) (w : World) (hS : S.size ≤ 100000) (ha : a < S.size) (haL : a + L ≤ S.size) (h1 : isLt S[a] = true) (hX : S.extract a (a + L) = X)
    (HRN : Hid (∀ w, Calls Tryz.prog 55 #[.string S, .int .i64 a] w fun e w' => e = .returned (.int .i64 ((a : Int) + (L : Int))) ∧ w = w'))
    (HNM : Hid (∀ w, Calls Tryz.prog 56 #[.string X] w fun e w' => e = .returned (.bool true) ∧ w = w'))
    (HAF : Hid (∀ g c w, TextsAt w g foreignWords → Calls Tryz.prog 53 #[.string X, .slice (some ⟨g, 0, none⟩) 11 c] w fun e w' => e = .returned (.bool false) ∧ w = w'))
    (HAW : Hid (∀ g c w, TextsAt w g words → Calls Tryz.prog 53 #[.string X, .slice (some ⟨g, 0, none⟩) 16 c] w fun e w' => e = .returned (.bool false) ∧ w = w'))
    (HR : Hid (tkT (nameT (restB S a)) a (.returned (.tuple #[.agg #[.int .u8 2, .string X, .int .i64 (a : Int)], .int .i64 ((a : Int) + (L : Int)), .int .i64 0])))) :
    Calls Tryz.prog 30 #[.string S, .int .i64 a] w fun e w' => tkT (nameT (restB S a)) a e ∧ Below w.heap.size w w' := by
  have HLt : Hid (∀ w, Calls Tryz.prog 54 #[.int .u8 (S[a].toNat : Int)] w fun e w' => e = .returned (.bool true) ∧ w = w') := fun w => by
    have := rfLetter_any S[a] w
    rw [h1] at this
    exact this
  have ha0 : (0 : Int) ≤ (a : Int) := by omega
  have ha1 : (a : Int) < (S.size : Int) := by omega
  have b0 : (0 : Int) ≤ (a : Int) + (L : Int) := by omega
  have b1 : (a : Int) ≤ (a : Int) + (L : Int) := by omega
  have b2 : (a : Int) + (L : Int) ≤ (S.size : Int) := by omega
  have b3 : ((a : Int) + (L : Int)).toNat = a + L := by omega
  have HXX := Lib.hid hX
  have HT := Lib.hid (two_toks w 2 X (a : Int))
  clear h1
  go_enter Tryz.func30, Tryz.ntmps30
  go_upto_region 12 with (first | (go_at_call 54; refine (HLt.out _).mono ?_; rintro e w' ⟨rfl, rfl⟩) | (go_at_call 55; refine (HRN.out _).mono ?_; rintro e w' ⟨rfl, rfl⟩))
  generalize ((w.alloc (.cells #[.int .u8 0, .string ⟨#[]⟩, .int .i64 0] 67)).alloc (.cells #[.int .u8 2, .string X, .int .i64 (a : Int)] 67)) = W at *
  have hsz := HT.out.1.cells.1
  obtain ⟨_, k0, k1, k2, g0, g1, g2⟩ := HT.out.1.cells
  obtain ⟨hsz1, j0, j1, j2, m0, m1, m2⟩ := HT.out.2.1.cells
  have HB := Lib.hid HT.out.2.2
  have HC0 := Lib.hid HT.out.1
  have HC1 := Lib.hid HT.out.2.1
  clear HT
  go_region_with (first
    | (go_at_call 56; refine (HNM.out _).mono ?_; rintro e w' ⟨rfl, rfl⟩)
    | (go_at_call 57; refine (rfForeign_any _).mono ?_; rintro e w' ⟨rfl, rfl⟩)
    | (go_at_call 53; with_reducible refine (HAF.out _ _ _ (TextsAt.at _ foreignWords _ (by simp)).drew).mono ?_; rintro e w' ⟨rfl, rfl⟩)
    | (go_at_call 53; with_reducible refine (HAF.out _ _ _ (TextsAt.at _ foreignWords _ (by simp))).mono ?_; rintro e w' ⟨rfl, rfl⟩)
    | (go_at_call 53; with_reducible refine (HAF.out _ _ _ (TextsAt.at _ foreignWords _ (by simp)).drew.drew).mono ?_; rintro e w' ⟨rfl, rfl⟩))
  all_goals
    go_upto_region 13 with fail
    go_region_with (first
      | (go_at_call 58; refine (rfWords_any _).mono ?_; rintro e w' ⟨rfl, rfl⟩)
      | (go_at_call 53; with_reducible refine (HAW.out _ _ _ (TextsAt.at _ words _ (by simp)).drew).mono ?_; rintro e w' ⟨rfl, rfl⟩)
      | (go_at_call 53; with_reducible refine (HAW.out _ _ _ (TextsAt.at _ words _ (by simp))).mono ?_; rintro e w' ⟨rfl, rfl⟩)
      | (go_at_call 53; with_reducible refine (HAW.out _ _ _ (TextsAt.at _ words _ (by simp)).drew.drew).mono ?_; rintro e w' ⟨rfl, rfl⟩))
    all_goals
      have hb2 : Below W.heap.size W ((W.alloc (.cells (List.map (fun t => Value.string (mkS t)) foreignWords).toArray 9)).alloc (.cells (List.map (fun t => Value.string (mkS t)) words).toArray 9)).drew.drew := (((Below.refl _ _).alloc (Nat.le_refl _) _).alloc (by simp) _).drew.drew
      generalize ((W.alloc (.cells (List.map (fun t => Value.string (mkS t)) foreignWords).toArray 9)).alloc (.cells (List.map (fun t => Value.string (mkS t)) words).toArray 9)).drew.drew = W2 at *
      obtain ⟨hz0, x0, x1, x2, y0, y1, y2⟩ := (HC0.out.later hb2 hsz).cells
      obtain ⟨hz1, z0, z1, z2, o0, o1, o2⟩ := (HC1.out.later hb2 hsz1).cells
      have HB2 := Lib.hid (HB.out.trans (hb2.mono (Nat.le_of_lt hsz)))
      clear hb2
      go_wp2_with fail
      refine bodyPost_ret (v := .tuple #[.agg #[.int .u8 2, .string X, .int .i64 (a : Int)], .int .i64 ((a : Int) + (L : Int)), .int .i64 0]) (by simp [results, Tryz.results30, go_sem, x0, x1, x2, y0, y1, y2, z0, z1, z2, o0, o1, o2]) rfl ⟨HR.out, ?_⟩
      exact (((HB2.out.setCell (p := ⟨w.heap.size, 0, none⟩) (Nat.le_refl _) _).setCell (p := ⟨w.heap.size, 1, none⟩) (Nat.le_refl _) _).setCell (p := ⟨w.heap.size, 2, none⟩) (Nat.le_refl _) _)
end Go.Proofs.YthhfgjcdopkmgaaGreatDoor
namespace Go.Proofs.YthhfgjcdopkmgaaGreatDoor
open Go.Instr Go.RowKit ScnT FlT
set_option linter.unusedVariables false
set_option linter.unusedSimpArgs false
set_option maxHeartbeats 4000000 in
theorem rfName_foreign (S X : ByteArray) (a L : Nat) (w : World) (hS : S.size ≤ 100000) (ha : a < S.size) (haL : a + L ≤ S.size) (h1 : isLt S[a] = true) (hX : S.extract a (a + L) = X)
    (HRN : Hid (∀ w, Calls Tryz.prog 55 #[.string S, .int .i64 a] w fun e w' => e = .returned (.int .i64 ((a : Int) + (L : Int))) ∧ w = w'))
    (HNM : Hid (∀ w, Calls Tryz.prog 56 #[.string X] w fun e w' => e = .returned (.bool true) ∧ w = w'))
    (HAF : Hid (∀ g c w, TextsAt w g foreignWords → Calls Tryz.prog 53 #[.string X, .slice (some ⟨g, 0, none⟩) 11 c] w fun e w' => e = .returned (.bool true) ∧ w = w'))
    (HAW : Hid (∀ g c w, TextsAt w g words → Calls Tryz.prog 53 #[.string X, .slice (some ⟨g, 0, none⟩) 16 c] w fun e w' => e = .returned (.bool false) ∧ w = w'))
    (HR : Hid (tkT (nameT (restB S a)) a (.returned (.tuple #[.agg #[.int .u8 0, .string ⟨#[]⟩, .int .i64 0], .int .i64 0, .int .i64 101])))) :
    Calls Tryz.prog 30 #[.string S, .int .i64 a] w fun e w' => tkT (nameT (restB S a)) a e ∧ Below w.heap.size w w' := by
  have HLt : Hid (∀ w, Calls Tryz.prog 54 #[.int .u8 (S[a].toNat : Int)] w fun e w' => e = .returned (.bool true) ∧ w = w') := fun w => by
    have := rfLetter_any S[a] w
    rw [h1] at this
    exact this
  have ha0 : (0 : Int) ≤ (a : Int) := by omega
  have ha1 : (a : Int) < (S.size : Int) := by omega
  have b0 : (0 : Int) ≤ (a : Int) + (L : Int) := by omega
  have b1 : (a : Int) ≤ (a : Int) + (L : Int) := by omega
  have b2 : (a : Int) + (L : Int) ≤ (S.size : Int) := by omega
  have b3 : ((a : Int) + (L : Int)).toNat = a + L := by omega
  have HXX := Lib.hid hX
  have HT := Lib.hid (two_toks w 2 X (a : Int))
  clear h1
  go_enter Tryz.func30, Tryz.ntmps30
  go_upto_region 12 with (first | (go_at_call 54; refine (HLt.out _).mono ?_; rintro e w' ⟨rfl, rfl⟩) | (go_at_call 55; refine (HRN.out _).mono ?_; rintro e w' ⟨rfl, rfl⟩))
  generalize ((w.alloc (.cells #[.int .u8 0, .string ⟨#[]⟩, .int .i64 0] 67)).alloc (.cells #[.int .u8 2, .string X, .int .i64 (a : Int)] 67)) = W at *
  have hsz := HT.out.1.cells.1
  obtain ⟨_, k0, k1, k2, g0, g1, g2⟩ := HT.out.1.cells
  obtain ⟨hsz1, j0, j1, j2, m0, m1, m2⟩ := HT.out.2.1.cells
  have HB := Lib.hid HT.out.2.2
  have HC0 := Lib.hid HT.out.1
  have HC1 := Lib.hid HT.out.2.1
  clear HT
  go_region_with (first
    | (go_at_call 56; refine (HNM.out _).mono ?_; rintro e w' ⟨rfl, rfl⟩)
    | (go_at_call 57; refine (rfForeign_any _).mono ?_; rintro e w' ⟨rfl, rfl⟩)
    | (go_at_call 53; with_reducible refine (HAF.out _ _ _ (TextsAt.at _ foreignWords _ (by simp)).drew).mono ?_; rintro e w' ⟨rfl, rfl⟩)
    | (go_at_call 53; with_reducible refine (HAF.out _ _ _ (TextsAt.at _ foreignWords _ (by simp))).mono ?_; rintro e w' ⟨rfl, rfl⟩)
    | (go_at_call 53; with_reducible refine (HAF.out _ _ _ (TextsAt.at _ foreignWords _ (by simp)).drew.drew).mono ?_; rintro e w' ⟨rfl, rfl⟩))
  all_goals
    go_upto_region 13 with fail
    go_region_with (first
      | (go_at_call 58; refine (rfWords_any _).mono ?_; rintro e w' ⟨rfl, rfl⟩)
      | (go_at_call 53; with_reducible refine (HAW.out _ _ _ (TextsAt.at _ words _ (by simp)).drew).mono ?_; rintro e w' ⟨rfl, rfl⟩)
      | (go_at_call 53; with_reducible refine (HAW.out _ _ _ (TextsAt.at _ words _ (by simp))).mono ?_; rintro e w' ⟨rfl, rfl⟩)
      | (go_at_call 53; with_reducible refine (HAW.out _ _ _ (TextsAt.at _ words _ (by simp)).drew.drew).mono ?_; rintro e w' ⟨rfl, rfl⟩))
    all_goals
      have hb2 : Below W.heap.size W ((W.alloc (.cells (List.map (fun t => Value.string (mkS t)) foreignWords).toArray 9)).alloc (.cells (List.map (fun t => Value.string (mkS t)) words).toArray 9)).drew.drew := (((Below.refl _ _).alloc (Nat.le_refl _) _).alloc (by simp) _).drew.drew
      generalize ((W.alloc (.cells (List.map (fun t => Value.string (mkS t)) foreignWords).toArray 9)).alloc (.cells (List.map (fun t => Value.string (mkS t)) words).toArray 9)).drew.drew = W2 at *
      obtain ⟨hz0, x0, x1, x2, y0, y1, y2⟩ := (HC0.out.later hb2 hsz).cells
      obtain ⟨hz1, z0, z1, z2, o0, o1, o2⟩ := (HC1.out.later hb2 hsz1).cells
      have HB2 := Lib.hid (HB.out.trans (hb2.mono (Nat.le_of_lt hsz)))
      clear hb2
      go_wp2_with fail
      refine bodyPost_ret (v := .tuple #[.agg #[.int .u8 0, .string ⟨#[]⟩, .int .i64 0], .int .i64 0, .int .i64 101]) (by simp [results, Tryz.results30, go_sem, x0, x1, x2, y0, y1, y2, z0, z1, z2, o0, o1, o2]) rfl ⟨HR.out, ?_⟩
      exact (((HB2.out.setCell (p := ⟨w.heap.size, 0, none⟩) (Nat.le_refl _) _).setCell (p := ⟨w.heap.size, 1, none⟩) (Nat.le_refl _) _).setCell (p := ⟨w.heap.size, 2, none⟩) (Nat.le_refl _) _)
end Go.Proofs.YthhfgjcdopkmgaaGreatDoor
