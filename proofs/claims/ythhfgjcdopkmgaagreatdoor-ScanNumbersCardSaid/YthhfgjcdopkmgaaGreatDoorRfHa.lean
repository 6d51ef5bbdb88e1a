/- The document's own scanner: a token that is a sign. -/
/- The document's own scanner: a token that is a name or a word. -/
import Derived.Test.YthhfgjcdopkmgaaGreatDoorRfH
set_option maxRecDepth 100000
namespace ScnT
theorem signs_short (l : Bs) : (standsB Go.Proofs.YthhfgjcdopkmgaaGreatDoor.rfSigns l).length ≤ 2 := by
  rw [rfSigns_first]
  split
  · rw [List.length_take]; omega
  · split
    · rw [List.length_take]; omega
    · simp
end ScnT
namespace Go.Proofs.YthhfgjcdopkmgaaGreatDoor
open Go.Instr Go.RowKit ScnT FlT
set_option linter.unusedVariables false
set_option linter.unusedSimpArgs false
theorem alloc_below {w w1 : World} {o : Obj} (h : w.alloc o = w1) : Below w.heap.size w w1 := by
  subst h
  exact (Below.refl _ _).alloc (Nat.le_refl _) _
theorem alloc_texts {w w1 : World} {ts : List Bs} (h : w.alloc (.cells (ts.map fun t => Value.string (mkS t)).toArray 9) = w1) (g : Nat) (hg : w.heap.size = g) : TextsAt w1 g ts := by
  subst h
  subst hg
  exact TextsAt.new w ts
set_option maxHeartbeats 4000000 in
theorem rfToken_sign (S : ByteArray) (a : Nat) (w : World) (hS : S.size ≤ 100000) (ha : a < S.size) (h1 : isLt S[a] = false) (h2 : isDg S[a] = false) (h3 : S[a] ≠ 34) (h4 : S[a] ≠ 36) : Calls Tryz.prog 30 #[.string S, .int .i64 a] w fun e w' => tkT (signT (restB S a) 3) a e ∧ Below w.heap.size w w' := by
  have HLt : Hid (∀ w, Calls Tryz.prog 54 #[.int .u8 (S[a].toNat : Int)] w fun e w' => e = .returned (.bool false) ∧ w = w') := fun w => by
    have := rfLetter_any S[a] w
    rw [h1] at this
    exact this
  have HDg : Hid (∀ w, Calls Tryz.prog 59 #[.int .u8 (S[a].toNat : Int)] w fun e w' => e = .returned (.bool false) ∧ w = w') := fun w => by
    have := rfDigit_any S[a] w
    rw [h2] at this
    exact this
  have f34 : ((S[a].toNat : Int) == 34) = false := by
    rw [beq_eq_false_iff_ne]
    intro e
    exact h3 (UInt8.toNat_inj.1 (by show _ = 34; omega))
  have f36 : ((S[a].toNat : Int) == 36) = false := by
    rw [beq_eq_false_iff_ne]
    intro e
    exact h4 (UInt8.toNat_inj.1 (by show _ = 36; omega))
  clear h3 h4
  have ha0 : (0 : Int) ≤ (a : Int) := by omega
  have ha1 : (a : Int) < (S.size : Int) := by omega
  have hway := sign_way (restB S a) (by intro e; have := rest_len S a; rw [e] at this; simp at this; omega)
  have HO := Lib.hid (fun g c w hc => rfStands_any S a rfOdd g c w hS (Nat.le_of_lt ha) (by decide) hc (by decide))
  have HG := Lib.hid (fun g c w hc => rfStands_any S a rfSigns g c w hS (Nat.le_of_lt ha) (by decide) hc (by decide))
  have hsh := signs_short (restB S a)
  obtain ⟨lo, hlo⟩ : ∃ l, standsB rfOdd (restB S a) = l := ⟨_, rfl⟩
  obtain ⟨ls, hls⟩ : ∃ l, standsB rfSigns (restB S a) = l := ⟨_, rfl⟩
  rw [hlo] at HO hway
  rw [hls] at HG hway hsh
  clear hlo hls
  by_cases ho : lo = []
  · subst ho
    have HO2 : Hid (∀ g c w, TextsAt w g rfOdd → Calls Tryz.prog 63 #[.string S, .int .i64 a, .slice (some ⟨g, 0, none⟩) 12 c] w fun e w' => e = .returned (.string ⟨#[]⟩) ∧ Below w.heap.size w w') := fun g c w hc => HO.out g c w hc
    clear HO
    by_cases hs : ls = []
    · subst hs
      have HG2 : Hid (∀ g c w, TextsAt w g rfSigns → Calls Tryz.prog 63 #[.string S, .int .i64 a, .slice (some ⟨g, 0, none⟩) 26 c] w fun e w' => e = .returned (.string ⟨#[]⟩) ∧ Below w.heap.size w w') := fun g c w hc => HG.out g c w hc
      clear HG
      have HWAY : Hid (signT (restB S a) 3 = .error 100) := by
        show _ = _
        simpa using hway
      rw [HWAY.out]
      clear hway
      go_enter Tryz.func30, Tryz.ntmps30
      go_wp2_with (first | (go_at_call 54; refine (HLt.out _).mono ?_; rintro e w' ⟨rfl, rfl⟩) | (go_at_call 59; refine (HDg.out _).mono ?_; rintro e w' ⟨rfl, rfl⟩))
      have HW := Lib.hid (two_toks w 0 ⟨#[]⟩ 0)
      refine (rfOdd_any _).mono ?_
      rintro e w1 ⟨rfl, hw1⟩
      have HB1 := Lib.hid (alloc_below hw1)
      have HT1 := Lib.hid (alloc_texts (ts := rfOdd) hw1 (w.heap.size + 1 + 1) (by simp))
      have HC1 := Lib.hid (HW.out.1.later HB1.out HW.out.1.cells.1)
      clear hw1
      go_wp2_with fail
      refine (HO2.out _ _ _ HT1.out).mono ?_
      rintro e w2 ⟨rfl, hb2⟩
      have HB2 := Lib.hid hb2
      have HC2 := Lib.hid (HC1.out.later hb2 HC1.out.cells.1)
      clear hb2
      go_wp2_with fail
      refine (rfSigns_any _).mono ?_
      rintro e w3 ⟨rfl, hw3⟩
      have HB3 := Lib.hid (alloc_below hw3)
      have HT3 := Lib.hid (alloc_texts (ts := rfSigns) hw3 w2.heap.size rfl)
      have HC3 := Lib.hid (HC2.out.later HB3.out HC2.out.cells.1)
      clear hw3
      go_wp2_with fail
      refine (HG2.out _ _ _ HT3.out).mono ?_
      rintro e w4 ⟨rfl, hb4⟩
      have HB : Hid (Below w.heap.size w w4) := by
        have q1 := HW.out.1.cells.1
        have q2 := HC1.out.cells.1
        have q3 := HC2.out.cells.1
        have q4 := HC3.out.cells.1
        exact (((HW.out.2.2.trans (HB1.out.mono (by omega))).trans (HB2.out.mono (by omega))).trans (HB3.out.mono (by omega))).trans (hb4.mono (by omega))
      obtain ⟨_, k0, k1, k2, g0, g1, g2⟩ := (HC3.out.later hb4 HC3.out.cells.1).cells
      clear hb4
      go_wp2_with fail
      refine bodyPost_ret (v := .tuple #[.agg #[.int .u8 0, .string ⟨#[]⟩, .int .i64 0], .int .i64 0, .int .i64 100]) (by simp [results, Tryz.results30, go_sem, k0, k1, k2, g0, g1, g2]) rfl ⟨rfl, ?_⟩
      exact ((HB.out.setCell (p := ⟨w.heap.size, 0, none⟩) (Nat.le_refl _) _).setCell (p := ⟨w.heap.size, 1, none⟩) (Nat.le_refl _) _).setCell (p := ⟨w.heap.size, 2, none⟩) (Nat.le_refl _) _
    · have HWAY : Hid (signT (restB S a) 3 = .ok (6, ls, ls.length)) := by
        show _ = _
        rw [hway, if_neg (by simp), if_neg hs]
      rw [HWAY.out]
      obtain ⟨y, hy⟩ : ∃ y, mkS ls = y := ⟨_, rfl⟩
      have hysz : y.size = ls.length := by rw [← hy]; exact mkS_size ls
      have hyl : y.toList = ls := by rw [← hy]; exact mkS_toList ls
      have y1 : ¬ y.toList = [] := by rw [hyl]; exact hs
      have y2 : y.toList.isEmpty = false := by rw [hyl]; cases ls with | nil => exact absurd rfl hs | cons => rfl
      have y3 : (y.toList == []) = false := by rw [hyl]; simpa using hs
      have HG2 : Hid (∀ g c w, TextsAt w g rfSigns → Calls Tryz.prog 63 #[.string S, .int .i64 a, .slice (some ⟨g, 0, none⟩) 26 c] w fun e w' => e = .returned (.string y) ∧ Below w.heap.size w w') := fun g c w hc => by
        have := HG.out g c w hc
        rw [hy] at this
        exact this
      have HEND : Hid (tkT (.ok (6, ls, ls.length)) a (.returned (.tuple #[.agg #[.int .u8 6, .string y, .int .i64 (a : Int)], .int .i64 ((a : Int) + (y.size : Int)), .int .i64 0]))) := by
        show _ = _
        rw [← hy, show ((a : Int) + ((mkS ls).size : Int)) = ((a + ls.length : Nat) : Int) by rw [mkS_size]; omega]
        rfl
      have hy2 : y.size ≤ 2 := by omega
      clear HG hway hy hyl hs hsh hysz
      go_enter Tryz.func30, Tryz.ntmps30
      go_wp2_with (first | (go_at_call 54; refine (HLt.out _).mono ?_; rintro e w' ⟨rfl, rfl⟩) | (go_at_call 59; refine (HDg.out _).mono ?_; rintro e w' ⟨rfl, rfl⟩))
      have HW := Lib.hid (two_toks w 0 ⟨#[]⟩ 0)
      refine (rfOdd_any _).mono ?_
      rintro e w1 ⟨rfl, hw1⟩
      have HB1 := Lib.hid (alloc_below hw1)
      have HT1 := Lib.hid (alloc_texts (ts := rfOdd) hw1 (w.heap.size + 1 + 1) (by simp))
      have HC1 := Lib.hid (HW.out.1.later HB1.out HW.out.1.cells.1)
      clear hw1
      go_wp2_with fail
      refine (HO2.out _ _ _ HT1.out).mono ?_
      rintro e w2 ⟨rfl, hb2⟩
      have HB2 := Lib.hid hb2
      have HC2 := Lib.hid (HC1.out.later hb2 HC1.out.cells.1)
      clear hb2
      go_wp2_with fail
      refine (rfSigns_any _).mono ?_
      rintro e w3 ⟨rfl, hw3⟩
      have HB3 := Lib.hid (alloc_below hw3)
      have HT3 := Lib.hid (alloc_texts (ts := rfSigns) hw3 w2.heap.size rfl)
      have HC3 := Lib.hid (HC2.out.later HB3.out HC2.out.cells.1)
      clear hw3
      go_wp2_with fail
      refine (HG2.out _ _ _ HT3.out).mono ?_
      rintro e w4 ⟨rfl, hb4⟩
      have HB : Hid (Below w.heap.size w w4) := by
        have q1 := HW.out.1.cells.1
        have q2 := HC1.out.cells.1
        have q3 := HC2.out.cells.1
        have q4 := HC3.out.cells.1
        exact (((HW.out.2.2.trans (HB1.out.mono (by omega))).trans (HB2.out.mono (by omega))).trans (HB3.out.mono (by omega))).trans (hb4.mono (by omega))
      obtain ⟨_, k0, k1, k2, g0, g1, g2⟩ := (HC3.out.later hb4 HC3.out.cells.1).cells
      clear hb4
      go_wp2_with fail
      refine bodyPost_ret (v := .tuple #[.agg #[.int .u8 6, .string y, .int .i64 (a : Int)], .int .i64 ((a : Int) + (y.size : Int)), .int .i64 0]) (by simp [results, Tryz.results30, go_sem, k0, k1, k2, g0, g1, g2]) rfl ⟨HEND.out, ?_⟩
      exact ((HB.out.setCell (p := ⟨w.heap.size, 0, none⟩) (Nat.le_refl _) _).setCell (p := ⟨w.heap.size, 1, none⟩) (Nat.le_refl _) _).setCell (p := ⟨w.heap.size, 2, none⟩) (Nat.le_refl _) _
  · have HWAY : Hid (signT (restB S a) 3 = .error 101) := by
      show _ = _
      rw [hway, if_pos ho]
    rw [HWAY.out]
    obtain ⟨y, hy⟩ : ∃ y, mkS lo = y := ⟨_, rfl⟩
    have hyl : y.toList = lo := by rw [← hy]; exact mkS_toList lo
    have y1 : ¬ y.toList = [] := by rw [hyl]; exact ho
    have y2 : y.toList.isEmpty = false := by rw [hyl]; cases lo with | nil => exact absurd rfl ho | cons => rfl
    have y3 : (y.toList == []) = false := by rw [hyl]; simpa using ho
    have HO2 : Hid (∀ g c w, TextsAt w g rfOdd → Calls Tryz.prog 63 #[.string S, .int .i64 a, .slice (some ⟨g, 0, none⟩) 12 c] w fun e w' => e = .returned (.string y) ∧ Below w.heap.size w w') := fun g c w hc => by
      have := HO.out g c w hc
      rw [hy] at this
      exact this
    clear HO HG hway hy hyl ho
    go_enter Tryz.func30, Tryz.ntmps30
    go_wp2_with (first | (go_at_call 54; refine (HLt.out _).mono ?_; rintro e w' ⟨rfl, rfl⟩) | (go_at_call 59; refine (HDg.out _).mono ?_; rintro e w' ⟨rfl, rfl⟩))
    have HW := Lib.hid (two_toks w 0 ⟨#[]⟩ 0)
    refine (rfOdd_any _).mono ?_
    rintro e w1 ⟨rfl, hw1⟩
    have HB1 := Lib.hid (alloc_below hw1)
    have HT1 := Lib.hid (alloc_texts (ts := rfOdd) hw1 (w.heap.size + 1 + 1) (by simp))
    have HC1 := Lib.hid (HW.out.1.later HB1.out HW.out.1.cells.1)
    clear hw1
    go_wp2_with fail
    refine (HO2.out _ _ _ HT1.out).mono ?_
    rintro e w2 ⟨rfl, hb2⟩
    have HB : Hid (Below w.heap.size w w2) := by
      have q1 := HW.out.1.cells.1
      have q2 := HC1.out.cells.1
      exact (HW.out.2.2.trans (HB1.out.mono (by omega))).trans (hb2.mono (by omega))
    obtain ⟨_, k0, k1, k2, g0, g1, g2⟩ := (HC1.out.later hb2 HC1.out.cells.1).cells
    clear hb2
    go_wp2_with fail
    refine bodyPost_ret (v := .tuple #[.agg #[.int .u8 0, .string ⟨#[]⟩, .int .i64 0], .int .i64 0, .int .i64 101]) (by simp [results, Tryz.results30, go_sem, k0, k1, k2, g0, g1, g2]) rfl ⟨rfl, ?_⟩
    exact ((HB.out.setCell (p := ⟨w.heap.size, 0, none⟩) (Nat.le_refl _) _).setCell (p := ⟨w.heap.size, 1, none⟩) (Nat.le_refl _) _).setCell (p := ⟨w.heap.size, 2, none⟩) (Nat.le_refl _) _

end Go.Proofs.YthhfgjcdopkmgaaGreatDoor
namespace ScnT
open Go Go.RowKit
theorem mk_get (t : Bs) (i : Nat) (h : i < (mkS t).size) : (mkS t)[i] = t[i]'(by simpa using h) := rfl
theorem mk_name (t : Bs) (hall : t.all isLd = true) : ∀ i (h : i < (mkS t).size), isLd (mkS t)[i] = true := by
  intro i h
  rw [mk_get]
  exact List.all_eq_true.1 hall _ (List.getElem_mem _)
theorem all_tw (p : UInt8 → Bool) (l : Bs) : (l.takeWhile p).all p = true := by
  induction l with
  | nil => rfl
  | cons c l ih =>
    rw [List.takeWhile_cons]
    cases hp : p c
    · rfl
    · simp [hp, ih]
theorem name_way (l : Bs) : nameT l = if words.contains (l.takeWhile isLd) then .ok (1, l.takeWhile isLd, (l.takeWhile isLd).length) else if ((l.takeWhile isLd != [95]) && decide ((l.takeWhile isLd).length ≤ 40)) && !foreignWords.contains (l.takeWhile isLd) then .ok (2, l.takeWhile isLd, (l.takeWhile isLd).length) else .error 101 := by
  unfold nameT
  simp only [Bool.and_assoc]
end ScnT
namespace Go.Proofs.YthhfgjcdopkmgaaGreatDoor
open Go.Instr Go.RowKit ScnT FlT
set_option linter.unusedVariables false
set_option linter.unusedSimpArgs false
theorem TextsAt.drew {w : World} {g : Nat} {ts : List Bs} (h : TextsAt w g ts) : TextsAt w.drew g ts := h
theorem TextsAt.at (w : World) (ts : List Bs) (g : Nat) (hg : w.heap.size = g) : TextsAt (w.alloc (.cells (ts.map fun t => Value.string (mkS t)).toArray 9)) g ts := by
  subst hg
  exact TextsAt.new w ts

set_option maxHeartbeats 4000000 in
theorem rfName_word (S X : ByteArray) (a L : Nat) (w : World) (hS : S.size ≤ 100000) (ha : a < S.size) (haL : a + L ≤ S.size) (h1 : isLt S[a] = true) (hX : S.extract a (a + L) = X)
    (HRN : Hid (∀ w, Calls Tryz.prog 55 #[.string S, .int .i64 a] w fun e w' => e = .returned (.int .i64 ((a : Int) + (L : Int))) ∧ w = w'))
    (HNM : Hid (∀ w, Calls Tryz.prog 56 #[.string X] w fun e w' => e = .returned (.bool true) ∧ w = w'))
    (HAF : Hid (∀ g c w, TextsAt w g foreignWords → Calls Tryz.prog 53 #[.string X, .slice (some ⟨g, 0, none⟩) 11 c] w fun e w' => e = .returned (.bool false) ∧ w = w'))
    (HAW : Hid (∀ g c w, TextsAt w g words → Calls Tryz.prog 53 #[.string X, .slice (some ⟨g, 0, none⟩) 16 c] w fun e w' => e = .returned (.bool true) ∧ w = w'))
    (HR : Hid (tkT (nameT (restB S a)) a (.returned (.tuple #[.agg #[.int .u8 1, .string X, .int .i64 (a : Int)], .int .i64 ((a : Int) + (L : Int)), .int .i64 0])))) :
    Calls Tryz.prog 30 #[.string S, .int .i64 a] w fun e w' => tkT (nameT (restB S a)) a e ∧ Below w.heap.size w w' := by
  have HLt : Hid (∀ w, Calls Tryz.prog 54 #[.int .u8 (S[a].toNat : Int)] w fun e w' => e = .returned (.bool true) ∧ w = w') := fun w => by
    have := rfLetter_any S[a] w
    rw [h1] at this
    exact this
  have ha0 : (0 : Int) ≤ (a : Int) := by omega
  have ha1 : (a : Int) < (S.size : Int) := by omega
  have b0 : (0 : Int) ≤ (a : Int) + (L : Int) := by omega
  have b1 : (a : Int) ≤ (a : Int) + (L : Int) := by omega
  have b2 : (a : Int) + (L : Int) ≤ (S.size : Int) := by omega
  have b3 : ((a : Int) + (L : Int)).toNat = a + L := by omega
  have HXX := Lib.hid hX
  have HT := Lib.hid (two_toks w 2 X (a : Int))
  clear h1
  go_enter Tryz.func30, Tryz.ntmps30
  go_upto_region 12 with (first | (go_at_call 54; refine (HLt.out _).mono ?_; rintro e w' ⟨rfl, rfl⟩) | (go_at_call 55; refine (HRN.out _).mono ?_; rintro e w' ⟨rfl, rfl⟩))
  generalize ((w.alloc (.cells #[.int .u8 0, .string ⟨#[]⟩, .int .i64 0] 67)).alloc (.cells #[.int .u8 2, .string X, .int .i64 (a : Int)] 67)) = W at *
  have hsz := HT.out.1.cells.1
  obtain ⟨_, k0, k1, k2, g0, g1, g2⟩ := HT.out.1.cells
  obtain ⟨hsz1, j0, j1, j2, m0, m1, m2⟩ := HT.out.2.1.cells
  have HB := Lib.hid HT.out.2.2
  have HC0 := Lib.hid HT.out.1
  have HC1 := Lib.hid HT.out.2.1
  clear HT
  go_region_with (first
    | (go_at_call 56; refine (HNM.out _).mono ?_; rintro e w' ⟨rfl, rfl⟩)
    | (go_at_call 57; refine (rfForeign_any _).mono ?_; rintro e w' ⟨rfl, rfl⟩)
    | (go_at_call 53; with_reducible refine (HAF.out _ _ _ (TextsAt.at _ foreignWords _ (by simp)).drew).mono ?_; rintro e w' ⟨rfl, rfl⟩)
    | (go_at_call 53; with_reducible refine (HAF.out _ _ _ (TextsAt.at _ foreignWords _ (by simp))).mono ?_; rintro e w' ⟨rfl, rfl⟩)
    | (go_at_call 53; with_reducible refine (HAF.out _ _ _ (TextsAt.at _ foreignWords _ (by simp)).drew.drew).mono ?_; rintro e w' ⟨rfl, rfl⟩))
  all_goals
    go_upto_region 13 with fail
    go_region_with (first
      | (go_at_call 58; refine (rfWords_any _).mono ?_; rintro e w' ⟨rfl, rfl⟩)
      | (go_at_call 53; with_reducible refine (HAW.out _ _ _ (TextsAt.at _ words _ (by simp)).drew).mono ?_; rintro e w' ⟨rfl, rfl⟩)
      | (go_at_call 53; with_reducible refine (HAW.out _ _ _ (TextsAt.at _ words _ (by simp))).mono ?_; rintro e w' ⟨rfl, rfl⟩)
      | (go_at_call 53; with_reducible refine (HAW.out _ _ _ (TextsAt.at _ words _ (by simp)).drew.drew).mono ?_; rintro e w' ⟨rfl, rfl⟩))
    all_goals
      have hb2 : Below W.heap.size W ((W.alloc (.cells (List.map (fun t => Value.string (mkS t)) foreignWords).toArray 9)).alloc (.cells (List.map (fun t => Value.string (mkS t)) words).toArray 9)).drew.drew := (((Below.refl _ _).alloc (Nat.le_refl _) _).alloc (by simp) _).drew.drew
      generalize ((W.alloc (.cells (List.map (fun t => Value.string (mkS t)) foreignWords).toArray 9)).alloc (.cells (List.map (fun t => Value.string (mkS t)) words).toArray 9)).drew.drew = W2 at *
      obtain ⟨hz0, x0, x1, x2, y0, y1, y2⟩ := (HC0.out.later hb2 hsz).cells
      obtain ⟨hz1, z0, z1, z2, o0, o1, o2⟩ := (HC1.out.later hb2 hsz1).cells
      have HB2 := Lib.hid (HB.out.trans (hb2.mono (Nat.le_of_lt hsz)))
      clear hb2
      go_wp2_with fail
      refine bodyPost_ret (v := .tuple #[.agg #[.int .u8 1, .string X, .int .i64 (a : Int)], .int .i64 ((a : Int) + (L : Int)), .int .i64 0]) (by simp [results, Tryz.results30, go_sem, x0, x1, x2, y0, y1, y2, z0, z1, z2, o0, o1, o2]) rfl ⟨HR.out, ?_⟩
      exact ((((HB2.out.setCell (p := ⟨w.heap.size + 1, 0, none⟩) (Nat.le_succ _) _).setCell (p := ⟨w.heap.size, 0, none⟩) (Nat.le_refl _) _).setCell (p := ⟨w.heap.size, 1, none⟩) (Nat.le_refl _) _).setCell (p := ⟨w.heap.size, 2, none⟩) (Nat.le_refl _) _)
end Go.Proofs.YthhfgjcdopkmgaaGreatDoor
