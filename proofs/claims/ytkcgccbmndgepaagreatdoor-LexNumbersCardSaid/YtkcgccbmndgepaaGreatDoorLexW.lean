/- The document's own tokens: a token. -/
import Derived.Test.YtkcgccbmndgepaaGreatDoorLexV
import Derived.Test.YtkcgccbmndgepaaGreatDoorLexN
import Derived.Test.YtkcgccbmndgepaaGreatDoorFlA
import Derived.BigRegion
import Derived.Lib.SmallJoins
set_option maxRecDepth 100000
namespace LexT
open Go Go.RowKit
set_option linter.unusedVariables false
/-- What the reader of a token tells. -/
def tkT (R : Except Nat (Nat × Bs × Nat)) (a : Nat) (e : Ending) : Prop :=
  match R with
  | .ok (k, t, n) => e = .returned (.tuple #[.agg #[.int .u8 (k : Int), .string (mkS t), .int .i64 (a : Int)], .int .i64 ((a + n : Nat) : Int), .int .i64 0])
  | .error c => e = .returned (.tuple #[.agg #[.int .u8 0, .string ⟨#[]⟩, .int .i64 0], .int .i64 0, .int .i64 (c : Int)])
theorem extract_take (S : ByteArray) (a n : Nat) : S.extract a (a + n) = mkS ((restB S a).take n) := by
  rw [Go.Lib.extract_eq]
  have : a + n - a = n := by omega
  rw [this]
  rfl
theorem tw_take (p : UInt8 → Bool) (S : ByteArray) (a : Nat) : (restB S a).take (tw p S a) = (restB S a).takeWhile p := by unfold tw; rw [← takeWhile_take]
def sgTexts : List Bs := [[58], [59], [124], [40], [41], [44], [60], [62]]
theorem sg_contains (c : UInt8) : sgTexts.contains [c] = isSg c := by
  rw [Bool.eq_iff_iff]
  simp [sgTexts, isSg, or_assoc]
end LexT
namespace Go.Proofs.YtkcgccbmndgepaaGreatDoor
open Go.Instr Go.RowKit LexT FlT
set_option linter.unusedVariables false
set_option linter.unusedSimpArgs false
/-- The cells of a token. -/
def TokCell (g : Nat) (k : Int) (s : ByteArray) (p : Int) (w : World) : Prop := w.heap[g]? = some (.cells #[.int .u8 k, .string s, .int .i64 p] 57)
theorem TokCell.cells {g : Nat} {k p : Int} {s : ByteArray} {w : World} (h : TokCell g k s p w) : g < w.heap.size ∧ w.cell? ⟨g, 0, none⟩ = some (.int .u8 k) ∧ w.cell? ⟨g, 1, none⟩ = some (.string s) ∧ w.cell? ⟨g, 2, none⟩ = some (.int .i64 p) ∧ w.frozen? ⟨g, 0, none⟩ = false ∧ w.frozen? ⟨g, 1, none⟩ = false ∧ w.frozen? ⟨g, 2, none⟩ = false :=
  ⟨(Array.getElem?_eq_some_iff.1 h).1, by rw [cell_of_row w g 0 _ 57 (0, 0) h]; rfl, by rw [cell_of_row w g 1 _ 57 (0, 0) h]; rfl, by rw [cell_of_row w g 2 _ 57 (0, 0) h]; rfl, frozen_of_row w g 0 _ _ h, frozen_of_row w g 1 _ _ h, frozen_of_row w g 2 _ _ h⟩
theorem TokCell.put {g : Nat} {k p : Int} {s : ByteArray} {w : World} (h : TokCell g k s p w) (k' : Int) (s' : ByteArray) (p' : Int) : TokCell g k' s' p' (((w.setCell ⟨g, 0, none⟩ (.int .u8 k')).setCell ⟨g, 1, none⟩ (.string s')).setCell ⟨g, 2, none⟩ (.int .i64 p')) := by
  unfold TokCell
  rw [heap_setCell_same _ g 2 _ 57 _ (heap_setCell_same _ g 1 _ 57 _ (heap_setCell_same w g 0 _ 57 _ h))]
  rfl
theorem TokCell.aside {g g' j : Nat} {k p : Int} {s : ByteArray} {w : World} (h : TokCell g k s p w) (hne : g ≠ g') (v : Value) : TokCell g k s p (w.setCell ⟨g', j, none⟩ v) := (Below.heap_setCell _ _ _ _ (by show g ≠ g'; exact hne)).trans h
theorem TokCell.later {g B : Nat} {k p : Int} {s : ByteArray} {w w' : World} (h : TokCell g k s p w) (hb : Below B w w') (hB : g < B) : TokCell g k s p w' := (hb.block g hB).trans h
theorem TokCell.new (w : World) (k : Int) (s : ByteArray) (p : Int) : TokCell w.heap.size k s p (w.alloc (.cells #[.int .u8 k, .string s, .int .i64 p] 57)) := heap_alloc_new _ _
set_option maxHeartbeats 4000000 in
theorem rfToken_name (S : ByteArray) (a : Nat) (w : World) (hS : S.size ≤ 100000) (ha : a < S.size) (h1 : isLt S[a] = true) : Calls Tryz.prog 29 #[.string S, .int .i64 a] w fun e w' => tkT (nameT (restB S a)) a e ∧ Below w.heap.size w w' := by
  have HLt : Hid (∀ w, Calls Tryz.prog 50 #[.int .u8 (S[a].toNat : Int), .bool false] w fun e w' => e = .returned (.bool true) ∧ w = w') := fun w => by
    have := rfLetter_false S[a] w
    rw [h1] at this
    exact this
  have ha0 : (0 : Int) ≤ (a : Int) := by omega
  have ha1 : (a : Int) < (S.size : Int) := by omega
  have HRN := Lib.hid (fun w => rfRun_any S a w hS (by omega))
  have hl := tw_le isLd S a
  have HN := Lib.hid (@name_name (restB S a))
  have HO := Lib.hid (@name_none (restB S a))
  have hx := extract_take S a (tw isLd S a)
  rw [tw_take] at hx
  have htl : ((restB S a).takeWhile isLd).length = tw isLd S a := rfl
  rw [htl] at HN HO
  generalize tw isLd S a = L at *
  generalize (restB S a).takeWhile isLd = t at *
  have HTL := Lib.hid htl
  have hcast : ((a + L : Nat) : Int) = (a : Int) + (L : Int) := by omega
  rw [hcast] at HRN
  have b0 : (0 : Int) ≤ (a : Int) + (L : Int) := by omega
  have b1 : (a : Int) ≤ (a : Int) + (L : Int) := by omega
  have b2 : (a : Int) + (L : Int) ≤ (S.size : Int) := by omega
  have b3 : ((a : Int) + (L : Int)).toNat = a + L := by omega
  have b4 : (a : Int) + (L : Int) - (a : Int) = (L : Int) := by omega
  clear h1 htl
  by_cases h40 : L ≤ 40
  · have e40 : decide ((40 : Int) < (L : Int)) = false := by simp; omega
    have HE := Lib.hid (HN.out h40)
    clear h40
    go_enter Tryz.func29, Tryz.ntmps29
    go_wp2_with (first | (go_at_call 50; refine (HLt.out _).mono ?_; rintro e w' ⟨rfl, rfl⟩) | (go_at_call 51; refine (HRN.out _).mono ?_; rintro e w' ⟨rfl, rfl⟩))
    all_goals
      refine bodyPost_ret (v := .tuple #[.agg #[.int .u8 2, .string (mkS t), .int .i64 (a : Int)], .int .i64 ((a : Int) + (L : Int)), .int .i64 0]) (by simp [results, Tryz.results29, go_sem]) rfl ⟨?_, ?_⟩
      · rw [HE.out]
        unfold tkT
        simp only [hcast]
        rfl
      · first | exact (Below.refl _ _).alloc (Nat.le_refl _) _ | exact (((((Below.refl w.heap.size w).alloc (Nat.le_refl _) (.cells #[.int .u8 0, .string ⟨#[]⟩, .int .i64 0] 57)).setCell (p := ⟨w.heap.size, 0, none⟩) (Nat.le_refl _) _).setCell (p := ⟨w.heap.size, 1, none⟩) (Nat.le_refl _) _).setCell (p := ⟨w.heap.size, 2, none⟩) (Nat.le_refl _) _)
  · have e40 : decide ((40 : Int) < (L : Int)) = true := by simp; omega
    have HE := Lib.hid (HO.out (by omega))
    clear h40
    go_enter Tryz.func29, Tryz.ntmps29
    go_wp2_with (first | (go_at_call 50; refine (HLt.out _).mono ?_; rintro e w' ⟨rfl, rfl⟩) | (go_at_call 51; refine (HRN.out _).mono ?_; rintro e w' ⟨rfl, rfl⟩))
    all_goals
      refine bodyPost_ret (v := .tuple #[.agg #[.int .u8 0, .string ⟨#[]⟩, .int .i64 0], .int .i64 0, .int .i64 101]) (by simp [results, Tryz.results29, go_sem]) rfl ⟨?_, ?_⟩
      · rw [HE.out]; rfl
      · first | exact (Below.refl _ _).alloc (Nat.le_refl _) _ | exact (((((Below.refl w.heap.size w).alloc (Nat.le_refl _) (.cells #[.int .u8 0, .string ⟨#[]⟩, .int .i64 0] 57)).setCell (p := ⟨w.heap.size, 0, none⟩) (Nat.le_refl _) _).setCell (p := ⟨w.heap.size, 1, none⟩) (Nat.le_refl _) _).setCell (p := ⟨w.heap.size, 2, none⟩) (Nat.le_refl _) _)
set_option maxHeartbeats 4000000 in
theorem rfToken_two (S : ByteArray) (a : Nat) (w : World) (hS : S.size ≤ 100000) (ha : a < S.size) (h1 : isLt S[a] = false) (h2 : [37, 37].isPrefixOf (restB S a) = true) : Calls Tryz.prog 29 #[.string S, .int .i64 a] w fun e w' => tkT (.ok (6, [37, 37], 2)) a e ∧ Below w.heap.size w w' := by
  have HLt : Hid (∀ w, Calls Tryz.prog 50 #[.int .u8 (S[a].toNat : Int), .bool false] w fun e w' => e = .returned (.bool false) ∧ w = w') := fun w => by
    have := rfLetter_false S[a] w
    rw [h1] at this
    exact this
  have ha0 : (0 : Int) ≤ (a : Int) := by omega
  have ha1 : (a : Int) < (S.size : Int) := by omega
  rw [two_at ha, Bool.and_eq_true, Bool.and_eq_true] at h2
  obtain ⟨q1, q2, q3⟩ := h2
  have hn : a + 1 < S.size := by simpa using q2
  rw [look_in S a 1 hn] at q3
  have u1 : (a : Int) + 1 < (S.size : Int) := by omega
  have u3 : (0 : Int) ≤ (a : Int) + 1 := by omega
  have u4 : ((a : Int) + 1).toNat = a + 1 := by omega
  have e1 : ((S[a].toNat : Int) == 37) = true := u8_eq (k := 37) (by decide) q1
  have e2 : ((S[a + 1].toNat : Int) == 37) = true := u8_eq (k := 37) (by decide) q3
  clear h1 q1 q2 q3
  go_enter Tryz.func29, Tryz.ntmps29
  go_wp2_with (first | (go_at_call 50; refine (HLt.out _).mono ?_; rintro e w' ⟨rfl, rfl⟩))
  refine bodyPost_ret (v := .tuple #[.agg #[.int .u8 6, .string ⟨#[37, 37]⟩, .int .i64 (a : Int)], .int .i64 ((a : Int) + 2), .int .i64 0]) (by simp [results, Tryz.results29, go_sem]) rfl ⟨?_, ?_⟩
  · have hcast : ((a + 2 : Nat) : Int) = (a : Int) + 2 := by omega
    unfold tkT
    simp only [hcast]
    rfl
  · first | exact (Below.refl _ _).alloc (Nat.le_refl _) _ | exact (((((Below.refl w.heap.size w).alloc (Nat.le_refl _) (.cells #[.int .u8 0, .string ⟨#[]⟩, .int .i64 0] 57)).setCell (p := ⟨w.heap.size, 0, none⟩) (Nat.le_refl _) _).setCell (p := ⟨w.heap.size, 1, none⟩) (Nat.le_refl _) _).setCell (p := ⟨w.heap.size, 2, none⟩) (Nat.le_refl _) _)
/-- The second byte, as it is asked. -/
theorem second_ways (S : ByteArray) (a : Nat) (ha : a < S.size) (h2 : [37, 37].isPrefixOf (restB S a) = false) : ¬ (a + 1 < S.size) ∨ (∃ hn : a + 1 < S.size, (S[a] == 37) = false ∨ (S[a + 1] == 37) = false) := by
  by_cases hn : a + 1 < S.size
  · refine .inr ⟨hn, ?_⟩
    rw [two_at ha, look_in S a 1 hn, decide_eq_true hn, Bool.true_and, Bool.and_eq_false_iff] at h2
    exact h2
  · exact .inl hn
set_option maxHeartbeats 8000000 in
theorem rfToken_word (S : ByteArray) (a : Nat) (w : World) (hS : S.size ≤ 100000) (ha : a < S.size) (h1 : isLt S[a] = false) (h2 : [37, 37].isPrefixOf (restB S a) = false) (hq : (S[a] == 37) = true) : Calls Tryz.prog 29 #[.string S, .int .i64 a] w fun e w' => tkT (wordT (restB S a)) a e ∧ Below w.heap.size w w' := by
  have HLt : Hid (∀ w, Calls Tryz.prog 50 #[.int .u8 (S[a].toNat : Int), .bool false] w fun e w' => e = .returned (.bool false) ∧ w = w') := fun w => by
    have := rfLetter_false S[a] w
    rw [h1] at this
    exact this
  have ha0 : (0 : Int) ≤ (a : Int) := by omega
  have ha1 : (a : Int) < (S.size : Int) := by omega
  have e1 : ((S[a].toNat : Int) == 37) = true := u8_eq (k := 37) (by decide) hq
  have HRN := Lib.hid (fun w => rfRun_any S (a + 1) w hS (by omega))
  have hl := tw_le isLd S (a + 1)
  have HN := Lib.hid (@word_word S a)
  have HO := Lib.hid (@word_none S a)
  have hx := extract_take S (a + 1) (tw isLd S (a + 1))
  rw [tw_take] at hx
  have htl : ((restB S (a + 1)).takeWhile isLd).length = tw isLd S (a + 1) := rfl
  rw [htl] at HN
  generalize tw isLd S (a + 1) = L at *
  generalize (restB S (a + 1)).takeWhile isLd = t at *
  have hcast0 : ((a + 1 + L : Nat) : Int) = (a : Int) + 1 + (L : Int) := by omega
  have hcast1 : ((a + 1 : Nat) : Int) = (a : Int) + 1 := by omega
  have hcast : ((a + (1 + L) : Nat) : Int) = (a : Int) + 1 + (L : Int) := by omega
  rw [hcast0, hcast1] at HRN
  have b0 : (0 : Int) ≤ (a : Int) + 1 := by omega
  have b1 : (a : Int) + 1 ≤ (a : Int) + 1 + (L : Int) := by omega
  have b2 : (a : Int) + 1 + (L : Int) ≤ (S.size : Int) := by omega
  have b3 : ((a : Int) + 1 + (L : Int)).toNat = a + 1 + L := by omega
  have b4 : ((a : Int) + 1).toNat = a + 1 := by omega
  have b5 : (0 : Int) ≤ (a : Int) + 1 + (L : Int) := by omega
  have b6 : IntKind.i64.wrap ((a : Int) + 1) = (a : Int) + 1 := IntWalk.i64_in _ (by omega)
  have HAW : Hid (∀ g c w, TextsAt w g words → Calls Tryz.prog 52 #[.string (mkS t), .slice (some ⟨g, 0, none⟩) 7 c] w fun e w' => e = .returned (.bool (words.contains t)) ∧ w = w') := fun g c w h => rfAmong_any t words g c w (by decide) h
  clear h1 htl hcast0 hcast1
  cases hw2 : words.contains t
  · rw [hw2] at HAW
    have HE := Lib.hid (HO.out hw2)
    clear hw2
    rcases second_ways S a ha h2 with hn | ⟨hn, hw⟩
    · have u1 : ¬ ((a : Int) + 1 < (S.size : Int)) := by omega
      clear h2 hn
      have HT := Lib.hid (TokCell.new w 0 ⟨#[]⟩ 0)
      have HBW : Hid (Below w.heap.size w (w.alloc (.cells #[.int .u8 0, .string ⟨#[]⟩, .int .i64 0] 57))) := (Below.refl _ _).alloc (Nat.le_refl _) _
      go_enter Tryz.func29, Tryz.ntmps29
      go_upto_region 12 with (first | (go_at_call 50; refine (HLt.out _).mono ?_; rintro e w' ⟨rfl, rfl⟩) | (go_at_call 51; refine (HRN.out _).mono ?_; rintro e w' ⟨rfl, rfl⟩))
      generalize w.alloc (.cells #[.int .u8 0, .string ⟨#[]⟩, .int .i64 0] 57) = W at *
      have hsz := HT.out.cells.1
      obtain ⟨_, k0, k1, k2, g0, g1, g2⟩ := HT.out.cells
      go_region_with (first
        | (go_at_call 5; refine (rfWords_any _).mono ?_; rintro e w' ⟨rfl, rfl⟩)
        | (go_at_call 52; with_reducible refine (HAW.out _ _ _ (TextsAt.at _ words _ (by simp)).drew).mono ?_; rintro e w' ⟨rfl, rfl⟩)
        | (go_at_call 52; with_reducible refine (HAW.out _ _ _ (TextsAt.at _ words _ (by simp))).mono ?_; rintro e w' ⟨rfl, rfl⟩)
        | (go_at_call 52; with_reducible refine (HAW.out _ _ _ (TextsAt.at _ words _ (by simp)).drew.drew).mono ?_; rintro e w' ⟨rfl, rfl⟩))
      all_goals
        have hb2 : Below W.heap.size W (W.alloc (.cells (List.map (fun t => Value.string (mkS t)) words).toArray 9)).drew := ((Below.refl _ _).alloc (Nat.le_refl _) _).drew
        generalize (W.alloc (.cells (List.map (fun t => Value.string (mkS t)) words).toArray 9)).drew = W2 at *
        obtain ⟨hz0, x0, x1, x2, y0, y1, y2⟩ := (HT.out.later hb2 hsz).cells
        have HB2 := Lib.hid (HBW.out.trans (hb2.mono (Nat.le_of_lt hsz)))
        clear hb2
        go_wp2_with fail
        refine bodyPost_ret (v := .tuple #[.agg #[.int .u8 0, .string ⟨#[]⟩, .int .i64 0], .int .i64 0, .int .i64 101]) (by simp [results, Tryz.results29, go_sem, x0, x1, x2, y0, y1, y2]) rfl ⟨?_, ?_⟩
        · rw [HE.out]
          rfl
        · first | exact HB2.out | exact ((HB2.out.setCell (p := ⟨w.heap.size, 0, none⟩) (Nat.le_refl _) _).setCell (p := ⟨w.heap.size, 1, none⟩) (Nat.le_refl _) _).setCell (p := ⟨w.heap.size, 2, none⟩) (Nat.le_refl _) _
    · have u1 : (a : Int) + 1 < (S.size : Int) := by omega
      have u3 : (0 : Int) ≤ (a : Int) + 1 := by omega
      have u4 : ((a : Int) + 1).toNat = a + 1 := by omega
      have hs2 : (S[a + 1] == 37) = false := by rcases hw with hw | hw; (rw [hq] at hw; cases hw); exact hw
      have e2 : ((S[a + 1].toNat : Int) == 37) = false := u8_ne (k := 37) (by decide) hs2
      clear h2 hw hs2 hq
      have HT := Lib.hid (TokCell.new w 0 ⟨#[]⟩ 0)
      have HBW : Hid (Below w.heap.size w (w.alloc (.cells #[.int .u8 0, .string ⟨#[]⟩, .int .i64 0] 57))) := (Below.refl _ _).alloc (Nat.le_refl _) _
      go_enter Tryz.func29, Tryz.ntmps29
      go_upto_region 12 with (first | (go_at_call 50; refine (HLt.out _).mono ?_; rintro e w' ⟨rfl, rfl⟩) | (go_at_call 51; refine (HRN.out _).mono ?_; rintro e w' ⟨rfl, rfl⟩))
      generalize w.alloc (.cells #[.int .u8 0, .string ⟨#[]⟩, .int .i64 0] 57) = W at *
      have hsz := HT.out.cells.1
      obtain ⟨_, k0, k1, k2, g0, g1, g2⟩ := HT.out.cells
      go_region_with (first
        | (go_at_call 5; refine (rfWords_any _).mono ?_; rintro e w' ⟨rfl, rfl⟩)
        | (go_at_call 52; with_reducible refine (HAW.out _ _ _ (TextsAt.at _ words _ (by simp)).drew).mono ?_; rintro e w' ⟨rfl, rfl⟩)
        | (go_at_call 52; with_reducible refine (HAW.out _ _ _ (TextsAt.at _ words _ (by simp))).mono ?_; rintro e w' ⟨rfl, rfl⟩)
        | (go_at_call 52; with_reducible refine (HAW.out _ _ _ (TextsAt.at _ words _ (by simp)).drew.drew).mono ?_; rintro e w' ⟨rfl, rfl⟩))
      all_goals
        have hb2 : Below W.heap.size W (W.alloc (.cells (List.map (fun t => Value.string (mkS t)) words).toArray 9)).drew := ((Below.refl _ _).alloc (Nat.le_refl _) _).drew
        generalize (W.alloc (.cells (List.map (fun t => Value.string (mkS t)) words).toArray 9)).drew = W2 at *
        obtain ⟨hz0, x0, x1, x2, y0, y1, y2⟩ := (HT.out.later hb2 hsz).cells
        have HB2 := Lib.hid (HBW.out.trans (hb2.mono (Nat.le_of_lt hsz)))
        clear hb2
        go_wp2_with fail
        refine bodyPost_ret (v := .tuple #[.agg #[.int .u8 0, .string ⟨#[]⟩, .int .i64 0], .int .i64 0, .int .i64 101]) (by simp [results, Tryz.results29, go_sem, x0, x1, x2, y0, y1, y2]) rfl ⟨?_, ?_⟩
        · rw [HE.out]
          rfl
        · first | exact HB2.out | exact ((HB2.out.setCell (p := ⟨w.heap.size, 0, none⟩) (Nat.le_refl _) _).setCell (p := ⟨w.heap.size, 1, none⟩) (Nat.le_refl _) _).setCell (p := ⟨w.heap.size, 2, none⟩) (Nat.le_refl _) _
  · rw [hw2] at HAW
    have HE := Lib.hid (HN.out hw2)
    clear hw2
    rcases second_ways S a ha h2 with hn | ⟨hn, hw⟩
    · have u1 : ¬ ((a : Int) + 1 < (S.size : Int)) := by omega
      clear h2 hn
      have HT := Lib.hid (TokCell.new w 0 ⟨#[]⟩ 0)
      have HBW : Hid (Below w.heap.size w (w.alloc (.cells #[.int .u8 0, .string ⟨#[]⟩, .int .i64 0] 57))) := (Below.refl _ _).alloc (Nat.le_refl _) _
      go_enter Tryz.func29, Tryz.ntmps29
      go_upto_region 12 with (first | (go_at_call 50; refine (HLt.out _).mono ?_; rintro e w' ⟨rfl, rfl⟩) | (go_at_call 51; refine (HRN.out _).mono ?_; rintro e w' ⟨rfl, rfl⟩))
      generalize w.alloc (.cells #[.int .u8 0, .string ⟨#[]⟩, .int .i64 0] 57) = W at *
      have hsz := HT.out.cells.1
      obtain ⟨_, k0, k1, k2, g0, g1, g2⟩ := HT.out.cells
      go_region_with (first
        | (go_at_call 5; refine (rfWords_any _).mono ?_; rintro e w' ⟨rfl, rfl⟩)
        | (go_at_call 52; with_reducible refine (HAW.out _ _ _ (TextsAt.at _ words _ (by simp)).drew).mono ?_; rintro e w' ⟨rfl, rfl⟩)
        | (go_at_call 52; with_reducible refine (HAW.out _ _ _ (TextsAt.at _ words _ (by simp))).mono ?_; rintro e w' ⟨rfl, rfl⟩)
        | (go_at_call 52; with_reducible refine (HAW.out _ _ _ (TextsAt.at _ words _ (by simp)).drew.drew).mono ?_; rintro e w' ⟨rfl, rfl⟩))
      all_goals
        have hb2 : Below W.heap.size W (W.alloc (.cells (List.map (fun t => Value.string (mkS t)) words).toArray 9)).drew := ((Below.refl _ _).alloc (Nat.le_refl _) _).drew
        generalize (W.alloc (.cells (List.map (fun t => Value.string (mkS t)) words).toArray 9)).drew = W2 at *
        obtain ⟨hz0, x0, x1, x2, y0, y1, y2⟩ := (HT.out.later hb2 hsz).cells
        have HB2 := Lib.hid (HBW.out.trans (hb2.mono (Nat.le_of_lt hsz)))
        clear hb2
        go_wp2_with fail
        refine bodyPost_ret (v := .tuple #[.agg #[.int .u8 1, .string (mkS t), .int .i64 (a : Int)], .int .i64 ((a : Int) + 1 + (L : Int)), .int .i64 0]) (by simp [results, Tryz.results29, go_sem, x0, x1, x2, y0, y1, y2]) rfl ⟨?_, ?_⟩
        · rw [HE.out]
          unfold tkT; simp only [hcast]; rfl
        · first | exact HB2.out | exact ((HB2.out.setCell (p := ⟨w.heap.size, 0, none⟩) (Nat.le_refl _) _).setCell (p := ⟨w.heap.size, 1, none⟩) (Nat.le_refl _) _).setCell (p := ⟨w.heap.size, 2, none⟩) (Nat.le_refl _) _
    · have u1 : (a : Int) + 1 < (S.size : Int) := by omega
      have u3 : (0 : Int) ≤ (a : Int) + 1 := by omega
      have u4 : ((a : Int) + 1).toNat = a + 1 := by omega
      have hs2 : (S[a + 1] == 37) = false := by rcases hw with hw | hw; (rw [hq] at hw; cases hw); exact hw
      have e2 : ((S[a + 1].toNat : Int) == 37) = false := u8_ne (k := 37) (by decide) hs2
      clear h2 hw hs2 hq
      have HT := Lib.hid (TokCell.new w 0 ⟨#[]⟩ 0)
      have HBW : Hid (Below w.heap.size w (w.alloc (.cells #[.int .u8 0, .string ⟨#[]⟩, .int .i64 0] 57))) := (Below.refl _ _).alloc (Nat.le_refl _) _
      go_enter Tryz.func29, Tryz.ntmps29
      go_upto_region 12 with (first | (go_at_call 50; refine (HLt.out _).mono ?_; rintro e w' ⟨rfl, rfl⟩) | (go_at_call 51; refine (HRN.out _).mono ?_; rintro e w' ⟨rfl, rfl⟩))
      generalize w.alloc (.cells #[.int .u8 0, .string ⟨#[]⟩, .int .i64 0] 57) = W at *
      have hsz := HT.out.cells.1
      obtain ⟨_, k0, k1, k2, g0, g1, g2⟩ := HT.out.cells
      go_region_with (first
        | (go_at_call 5; refine (rfWords_any _).mono ?_; rintro e w' ⟨rfl, rfl⟩)
        | (go_at_call 52; with_reducible refine (HAW.out _ _ _ (TextsAt.at _ words _ (by simp)).drew).mono ?_; rintro e w' ⟨rfl, rfl⟩)
        | (go_at_call 52; with_reducible refine (HAW.out _ _ _ (TextsAt.at _ words _ (by simp))).mono ?_; rintro e w' ⟨rfl, rfl⟩)
        | (go_at_call 52; with_reducible refine (HAW.out _ _ _ (TextsAt.at _ words _ (by simp)).drew.drew).mono ?_; rintro e w' ⟨rfl, rfl⟩))
      all_goals
        have hb2 : Below W.heap.size W (W.alloc (.cells (List.map (fun t => Value.string (mkS t)) words).toArray 9)).drew := ((Below.refl _ _).alloc (Nat.le_refl _) _).drew
        generalize (W.alloc (.cells (List.map (fun t => Value.string (mkS t)) words).toArray 9)).drew = W2 at *
        obtain ⟨hz0, x0, x1, x2, y0, y1, y2⟩ := (HT.out.later hb2 hsz).cells
        have HB2 := Lib.hid (HBW.out.trans (hb2.mono (Nat.le_of_lt hsz)))
        clear hb2
        go_wp2_with fail
        refine bodyPost_ret (v := .tuple #[.agg #[.int .u8 1, .string (mkS t), .int .i64 (a : Int)], .int .i64 ((a : Int) + 1 + (L : Int)), .int .i64 0]) (by simp [results, Tryz.results29, go_sem, x0, x1, x2, y0, y1, y2]) rfl ⟨?_, ?_⟩
        · rw [HE.out]
          unfold tkT; simp only [hcast]; rfl
        · first | exact HB2.out | exact ((HB2.out.setCell (p := ⟨w.heap.size, 0, none⟩) (Nat.le_refl _) _).setCell (p := ⟨w.heap.size, 1, none⟩) (Nat.le_refl _) _).setCell (p := ⟨w.heap.size, 2, none⟩) (Nat.le_refl _) _
theorem inner_of (S : ByteArray) (a n : Nat) (h : 2 ≤ n) : S.extract (a + 1) (a + n - 1) = mkS (((restB S a).take (n - 1)).drop 1) := by
  have e : a + n - 1 = (a + 1) + (n - 2) := by omega
  rw [e, extract_take, List.drop_take, drop_rest]
  have : n - 1 - 1 = n - 2 := by omega
  rw [this]
theorem action_ends (S : ByteArray) (a : Nat) (ha : a < S.size) (hc : S[a] = 123) : (actB 0 (restB S a) = none → actionT (restB S a) = .error 101) ∧ ∀ n, actB 0 (restB S a) = some n → actionT (restB S a) = .ok (9, ((restB S a).take (n - 1)).drop 1, n) ∧ 2 ≤ n ∧ a + n ≤ S.size := by
  refine ⟨fun h => by unfold actionT; rw [h], fun n h => ⟨by unfold actionT; rw [h], ?_, ?_⟩⟩
  · rw [rest_get S a ha, hc, actB_first] at h
    cases e : actB 1 (restB S (a + 1)) with
    | none => rw [e] at h; cases h
    | some m =>
      rw [e] at h
      simp only [Option.map_some, Option.some.injEq] at h
      have := actB_len _ _ _ _ (Nat.le_refl _) e
      omega
  · have := actB_len _ _ _ _ (Nat.le_refl _) h
    rw [rest_len] at this
    omega
set_option maxHeartbeats 8000000 in
theorem rfToken_action (S : ByteArray) (a : Nat) (w : World) (hS : S.size ≤ 100000) (ha : a < S.size) (h1 : isLt S[a] = false) (h2 : [37, 37].isPrefixOf (restB S a) = false) (hc : S[a] = 123) : Calls Tryz.prog 29 #[.string S, .int .i64 a] w fun e w' => tkT (actionT (restB S a)) a e ∧ Below w.heap.size w w' := by
  have HLt : Hid (∀ w, Calls Tryz.prog 50 #[.int .u8 (S[a].toNat : Int), .bool false] w fun e w' => e = .returned (.bool false) ∧ w = w') := fun w => by
    have := rfLetter_false S[a] w
    rw [h1] at this
    exact this
  have ha0 : (0 : Int) ≤ (a : Int) := by omega
  have ha1 : (a : Int) < (S.size : Int) := by omega
  have e1 : ((S[a].toNat : Int) == 37) = false := by rw [hc]; rfl
  have e3 : ((S[a].toNat : Int) == 123) = true := by rw [hc]; rfl
  have HAC := Lib.hid (fun w => rfAction_any S a w hS ha hc)
  have HE0 := Lib.hid (action_ends S a ha hc)
  clear h1 hc
  rcases second_ways S a ha h2 with hn | ⟨hn, hw⟩
  · have u1 : ¬ ((a : Int) + 1 < (S.size : Int)) := by omega
    clear h2
    cases hR : actB 0 (restB S a) with
    | none =>
      rw [hR] at HAC
      have HE := Lib.hid (HE0.out.1 hR)
      clear hR
      go_enter Tryz.func29, Tryz.ntmps29
      go_wp2_with (first | (go_at_call 50; refine (HLt.out _).mono ?_; rintro e w' ⟨rfl, rfl⟩))
      refine (HAC.out _).mono ?_
      rintro e w' ⟨⟨z, rfl⟩, rfl⟩
      go_wp2_with fail
      refine bodyPost_ret (v := .tuple #[.agg #[.int .u8 0, .string ⟨#[]⟩, .int .i64 0], .int .i64 0, .int .i64 101]) (by simp [results, Tryz.results29, go_sem]) rfl ⟨?_, ?_⟩
      · rw [HE.out]; rfl
      · first | exact (Below.refl _ _).alloc (Nat.le_refl _) _ | exact (((((Below.refl w.heap.size w).alloc (Nat.le_refl _) (.cells #[.int .u8 0, .string ⟨#[]⟩, .int .i64 0] 57)).setCell (p := ⟨w.heap.size, 0, none⟩) (Nat.le_refl _) _).setCell (p := ⟨w.heap.size, 1, none⟩) (Nat.le_refl _) _).setCell (p := ⟨w.heap.size, 2, none⟩) (Nat.le_refl _) _)
    | some n =>
      rw [hR] at HAC
      obtain ⟨hE, hn2, hnl⟩ := HE0.out.2 n hR
      exfalso
      omega
  · have u1 : (a : Int) + 1 < (S.size : Int) := by omega
    have u3 : (0 : Int) ≤ (a : Int) + 1 := by omega
    have u4 : ((a : Int) + 1).toNat = a + 1 := by omega
    cases hs2 : (S[a + 1] == 37)
    · have e2 : ((S[a + 1].toNat : Int) == 37) = false := u8_ne (k := 37) (by decide) hs2
      clear h2 hw hs2
      cases hR : actB 0 (restB S a) with
      | none =>
        rw [hR] at HAC
        have HE := Lib.hid (HE0.out.1 hR)
        clear hR
        go_enter Tryz.func29, Tryz.ntmps29
        go_wp2_with (first | (go_at_call 50; refine (HLt.out _).mono ?_; rintro e w' ⟨rfl, rfl⟩))
        refine (HAC.out _).mono ?_
        rintro e w' ⟨⟨z, rfl⟩, rfl⟩
        go_wp2_with fail
        refine bodyPost_ret (v := .tuple #[.agg #[.int .u8 0, .string ⟨#[]⟩, .int .i64 0], .int .i64 0, .int .i64 101]) (by simp [results, Tryz.results29, go_sem]) rfl ⟨?_, ?_⟩
        · rw [HE.out]; rfl
        · first | exact (Below.refl _ _).alloc (Nat.le_refl _) _ | exact (((((Below.refl w.heap.size w).alloc (Nat.le_refl _) (.cells #[.int .u8 0, .string ⟨#[]⟩, .int .i64 0] 57)).setCell (p := ⟨w.heap.size, 0, none⟩) (Nat.le_refl _) _).setCell (p := ⟨w.heap.size, 1, none⟩) (Nat.le_refl _) _).setCell (p := ⟨w.heap.size, 2, none⟩) (Nat.le_refl _) _)
      | some n =>
        rw [hR] at HAC
        obtain ⟨hE, hn2, hnl⟩ := HE0.out.2 n hR
        have HE := Lib.hid hE
        clear hR hE
        obtain ⟨q, hq⟩ : ∃ q, a + n = q + 1 := ⟨a + n - 1, by omega⟩
        have hx := inner_of S a n hn2
        rw [show a + n - 1 = q from by omega] at hx
        obtain ⟨t, ht⟩ : ∃ t, ((restB S a).take (n - 1)).drop 1 = t := ⟨_, rfl⟩
        rw [ht] at hx HE
        clear ht
        have c1 : (a : Int) + 1 ≤ (q : Int) := by omega
        have c2 : (q : Int) ≤ (S.size : Int) := by omega
        have c4 : ((a : Int) + 1).toNat = a + 1 := by omega
        have c5 : (0 : Int) ≤ (a : Int) + 1 := by omega
        have hcast : ((a + n : Nat) : Int) = (q : Int) + 1 := by omega
        have hq1 : ((a + n : Nat) : Int) - 1 = (q : Int) := by omega
        have HQ := Lib.hid hq
        have HQ1 := Lib.hid hq1
        clear hq hq1
        go_enter Tryz.func29, Tryz.ntmps29
        go_wp2_with (first | (go_at_call 50; refine (HLt.out _).mono ?_; rintro e w' ⟨rfl, rfl⟩))
        refine (HAC.out _).mono ?_
        intro e w' hh
        have he : e = .returned (.tuple #[.int .i64 (q : Int), .bool true]) := by have := hh.1; unfold aT at this; rw [this, HQ1.out]
        obtain rfl := hh.2
        subst he
        clear hh
        go_upto_region 19 with fail
        go_wp2_with fail
        refine bodyPost_ret (v := .tuple #[.agg #[.int .u8 9, .string (mkS t), .int .i64 (a : Int)], .int .i64 ((q : Int) + 1), .int .i64 0]) (by simp [results, Tryz.results29, go_sem]) rfl ⟨?_, ?_⟩
        · rw [HE.out]
          unfold tkT
          simp only [hcast]
          rfl
        · first | exact (Below.refl _ _).alloc (Nat.le_refl _) _ | exact (((((Below.refl w.heap.size w).alloc (Nat.le_refl _) (.cells #[.int .u8 0, .string ⟨#[]⟩, .int .i64 0] 57)).setCell (p := ⟨w.heap.size, 0, none⟩) (Nat.le_refl _) _).setCell (p := ⟨w.heap.size, 1, none⟩) (Nat.le_refl _) _).setCell (p := ⟨w.heap.size, 2, none⟩) (Nat.le_refl _) _)
    · have e2 : ((S[a + 1].toNat : Int) == 37) = true := u8_eq (k := 37) (by decide) hs2
      clear h2 hw hs2
      cases hR : actB 0 (restB S a) with
      | none =>
        rw [hR] at HAC
        have HE := Lib.hid (HE0.out.1 hR)
        clear hR
        go_enter Tryz.func29, Tryz.ntmps29
        go_wp2_with (first | (go_at_call 50; refine (HLt.out _).mono ?_; rintro e w' ⟨rfl, rfl⟩))
        refine (HAC.out _).mono ?_
        rintro e w' ⟨⟨z, rfl⟩, rfl⟩
        go_wp2_with fail
        refine bodyPost_ret (v := .tuple #[.agg #[.int .u8 0, .string ⟨#[]⟩, .int .i64 0], .int .i64 0, .int .i64 101]) (by simp [results, Tryz.results29, go_sem]) rfl ⟨?_, ?_⟩
        · rw [HE.out]; rfl
        · first | exact (Below.refl _ _).alloc (Nat.le_refl _) _ | exact (((((Below.refl w.heap.size w).alloc (Nat.le_refl _) (.cells #[.int .u8 0, .string ⟨#[]⟩, .int .i64 0] 57)).setCell (p := ⟨w.heap.size, 0, none⟩) (Nat.le_refl _) _).setCell (p := ⟨w.heap.size, 1, none⟩) (Nat.le_refl _) _).setCell (p := ⟨w.heap.size, 2, none⟩) (Nat.le_refl _) _)
      | some n =>
        rw [hR] at HAC
        obtain ⟨hE, hn2, hnl⟩ := HE0.out.2 n hR
        have HE := Lib.hid hE
        clear hR hE
        obtain ⟨q, hq⟩ : ∃ q, a + n = q + 1 := ⟨a + n - 1, by omega⟩
        have hx := inner_of S a n hn2
        rw [show a + n - 1 = q from by omega] at hx
        obtain ⟨t, ht⟩ : ∃ t, ((restB S a).take (n - 1)).drop 1 = t := ⟨_, rfl⟩
        rw [ht] at hx HE
        clear ht
        have c1 : (a : Int) + 1 ≤ (q : Int) := by omega
        have c2 : (q : Int) ≤ (S.size : Int) := by omega
        have c4 : ((a : Int) + 1).toNat = a + 1 := by omega
        have c5 : (0 : Int) ≤ (a : Int) + 1 := by omega
        have hcast : ((a + n : Nat) : Int) = (q : Int) + 1 := by omega
        have hq1 : ((a + n : Nat) : Int) - 1 = (q : Int) := by omega
        have HQ := Lib.hid hq
        have HQ1 := Lib.hid hq1
        clear hq hq1
        go_enter Tryz.func29, Tryz.ntmps29
        go_wp2_with (first | (go_at_call 50; refine (HLt.out _).mono ?_; rintro e w' ⟨rfl, rfl⟩))
        refine (HAC.out _).mono ?_
        intro e w' hh
        have he : e = .returned (.tuple #[.int .i64 (q : Int), .bool true]) := by have := hh.1; unfold aT at this; rw [this, HQ1.out]
        obtain rfl := hh.2
        subst he
        clear hh
        go_upto_region 19 with fail
        go_wp2_with fail
        refine bodyPost_ret (v := .tuple #[.agg #[.int .u8 9, .string (mkS t), .int .i64 (a : Int)], .int .i64 ((q : Int) + 1), .int .i64 0]) (by simp [results, Tryz.results29, go_sem]) rfl ⟨?_, ?_⟩
        · rw [HE.out]
          unfold tkT
          simp only [hcast]
          rfl
        · first | exact (Below.refl _ _).alloc (Nat.le_refl _) _ | exact (((((Below.refl w.heap.size w).alloc (Nat.le_refl _) (.cells #[.int .u8 0, .string ⟨#[]⟩, .int .i64 0] 57)).setCell (p := ⟨w.heap.size, 0, none⟩) (Nat.le_refl _) _).setCell (p := ⟨w.heap.size, 1, none⟩) (Nat.le_refl _) _).setCell (p := ⟨w.heap.size, 2, none⟩) (Nat.le_refl _) _)
set_option maxHeartbeats 8000000 in
theorem rfToken_sign (S : ByteArray) (a : Nat) (w : World) (hS : S.size ≤ 100000) (ha : a < S.size) (h1 : isLt S[a] = false) (h2 : [37, 37].isPrefixOf (restB S a) = false) (h4 : (S[a] == 37) = false) (h3 : (S[a] == 123) = false) : Calls Tryz.prog 29 #[.string S, .int .i64 a] w fun e w' => tkT (if isSg S[a] then .ok (6, [S[a]], 1) else .error 100) a e ∧ Below w.heap.size w w' := by
  have HLt : Hid (∀ w, Calls Tryz.prog 50 #[.int .u8 (S[a].toNat : Int), .bool false] w fun e w' => e = .returned (.bool false) ∧ w = w') := fun w => by
    have := rfLetter_false S[a] w
    rw [h1] at this
    exact this
  have ha0 : (0 : Int) ≤ (a : Int) := by omega
  have ha1 : (a : Int) < (S.size : Int) := by omega
  have e1 : ((S[a].toNat : Int) == 37) = false := u8_ne (k := 37) (by decide) h4
  have e3 : ((S[a].toNat : Int) == 123) = false := u8_ne (k := 123) (by decide) h3
  have hx : S.extract a (a + 1) = mkS [S[a]] := by rw [extract_take, take_one S a ha, look_here S a ha]
  have HAM : Hid (∀ g c w, TextsAt w g sgTexts → Calls Tryz.prog 52 #[.string (mkS [S[a]]), .slice (some ⟨g, 0, none⟩) 8 c] w fun e w' => e = .returned (.bool (isSg S[a])) ∧ w = w') := fun g c w h => by
    have := rfAmong_any [S[a]] sgTexts g c w (by decide) h
    rwa [sg_contains] at this
  have c1 : (a : Int) ≤ (a : Int) + 1 := by omega
  have c2 : (a : Int) + 1 ≤ (S.size : Int) := by omega
  have c3 : ((a : Int) + 1).toNat = a + 1 := by omega
  have c5 : (0 : Int) ≤ (a : Int) + 1 := by omega
  have hcast : ((a + 1 : Nat) : Int) = (a : Int) + 1 := by omega
  clear h1 h3 h4
  cases hs : isSg S[a]
  · rw [hs] at HAM
    rw [if_neg (by decide)]
    clear hs
    rcases second_ways S a ha h2 with hn | ⟨hn, hw⟩
    · have u1 : ¬ ((a : Int) + 1 < (S.size : Int)) := by omega
      clear h2 hn
      have HT := Lib.hid (TokCell.new w 0 ⟨#[]⟩ 0)
      have HBW : Hid (Below w.heap.size w (w.alloc (.cells #[.int .u8 0, .string ⟨#[]⟩, .int .i64 0] 57))) := (Below.refl _ _).alloc (Nat.le_refl _) _
      go_enter Tryz.func29, Tryz.ntmps29
      go_upto_region 20 with (first | (go_at_call 50; refine (HLt.out _).mono ?_; rintro e w' ⟨rfl, rfl⟩))
      generalize w.alloc (.cells #[.int .u8 0, .string ⟨#[]⟩, .int .i64 0] 57) = W at *
      have hsz := HT.out.cells.1
      have hb2 : Below W.heap.size W (W.alloc (.cells (sgTexts.map fun t => Value.string (mkS t)).toArray 9)) := (Below.refl _ _).alloc (Nat.le_refl _) _
      obtain ⟨hz0, x0, x1, x2, y0, y1, y2⟩ := (HT.out.later hb2 hsz).cells
      have HB2 := Lib.hid (HBW.out.trans (hb2.mono (Nat.le_of_lt hsz)))
      have HAM2 := Lib.hid (HAM.out W.heap.size 8 _ (TextsAt.at W sgTexts _ rfl))
      clear hb2
      go_wp2_with fail
      refine HAM2.out.mono ?_
      rintro e w' ⟨rfl, rfl⟩
      have hz9 : w.heap.size < (W.alloc (.cells (sgTexts.map fun t => Value.string (mkS t)).toArray 9)).heap.size := hz0
      generalize W.alloc (.cells (sgTexts.map fun t => Value.string (mkS t)).toArray 9) = W2 at *
      go_wp2_with fail
      refine bodyPost_ret (v := .tuple #[.agg #[.int .u8 0, .string ⟨#[]⟩, .int .i64 0], .int .i64 0, .int .i64 100]) (by simp [results, Tryz.results29, go_sem, x0, x1, x2, y0, y1, y2]) rfl ⟨?_, ?_⟩
      · rfl
      · first | exact HB2.out | exact ((HB2.out.setCell (p := ⟨w.heap.size, 0, none⟩) (Nat.le_refl _) _).setCell (p := ⟨w.heap.size, 1, none⟩) (Nat.le_refl _) _).setCell (p := ⟨w.heap.size, 2, none⟩) (Nat.le_refl _) _
    · have u1 : (a : Int) + 1 < (S.size : Int) := by omega
      have u3 : (0 : Int) ≤ (a : Int) + 1 := by omega
      have u4 : ((a : Int) + 1).toNat = a + 1 := by omega
      cases hs2 : (S[a + 1] == 37)
      · have e2 : ((S[a + 1].toNat : Int) == 37) = false := u8_ne (k := 37) (by decide) hs2
        clear h2 hw hs2
        have HT := Lib.hid (TokCell.new w 0 ⟨#[]⟩ 0)
        have HBW : Hid (Below w.heap.size w (w.alloc (.cells #[.int .u8 0, .string ⟨#[]⟩, .int .i64 0] 57))) := (Below.refl _ _).alloc (Nat.le_refl _) _
        go_enter Tryz.func29, Tryz.ntmps29
        go_upto_region 20 with (first | (go_at_call 50; refine (HLt.out _).mono ?_; rintro e w' ⟨rfl, rfl⟩))
        generalize w.alloc (.cells #[.int .u8 0, .string ⟨#[]⟩, .int .i64 0] 57) = W at *
        have hsz := HT.out.cells.1
        have hb2 : Below W.heap.size W (W.alloc (.cells (sgTexts.map fun t => Value.string (mkS t)).toArray 9)) := (Below.refl _ _).alloc (Nat.le_refl _) _
        obtain ⟨hz0, x0, x1, x2, y0, y1, y2⟩ := (HT.out.later hb2 hsz).cells
        have HB2 := Lib.hid (HBW.out.trans (hb2.mono (Nat.le_of_lt hsz)))
        have HAM2 := Lib.hid (HAM.out W.heap.size 8 _ (TextsAt.at W sgTexts _ rfl))
        clear hb2
        go_wp2_with fail
        refine HAM2.out.mono ?_
        rintro e w' ⟨rfl, rfl⟩
        have hz9 : w.heap.size < (W.alloc (.cells (sgTexts.map fun t => Value.string (mkS t)).toArray 9)).heap.size := hz0
        generalize W.alloc (.cells (sgTexts.map fun t => Value.string (mkS t)).toArray 9) = W2 at *
        go_wp2_with fail
        refine bodyPost_ret (v := .tuple #[.agg #[.int .u8 0, .string ⟨#[]⟩, .int .i64 0], .int .i64 0, .int .i64 100]) (by simp [results, Tryz.results29, go_sem, x0, x1, x2, y0, y1, y2]) rfl ⟨?_, ?_⟩
        · rfl
        · first | exact HB2.out | exact ((HB2.out.setCell (p := ⟨w.heap.size, 0, none⟩) (Nat.le_refl _) _).setCell (p := ⟨w.heap.size, 1, none⟩) (Nat.le_refl _) _).setCell (p := ⟨w.heap.size, 2, none⟩) (Nat.le_refl _) _
      · have e2 : ((S[a + 1].toNat : Int) == 37) = true := u8_eq (k := 37) (by decide) hs2
        clear h2 hw hs2
        have HT := Lib.hid (TokCell.new w 0 ⟨#[]⟩ 0)
        have HBW : Hid (Below w.heap.size w (w.alloc (.cells #[.int .u8 0, .string ⟨#[]⟩, .int .i64 0] 57))) := (Below.refl _ _).alloc (Nat.le_refl _) _
        go_enter Tryz.func29, Tryz.ntmps29
        go_upto_region 20 with (first | (go_at_call 50; refine (HLt.out _).mono ?_; rintro e w' ⟨rfl, rfl⟩))
        generalize w.alloc (.cells #[.int .u8 0, .string ⟨#[]⟩, .int .i64 0] 57) = W at *
        have hsz := HT.out.cells.1
        have hb2 : Below W.heap.size W (W.alloc (.cells (sgTexts.map fun t => Value.string (mkS t)).toArray 9)) := (Below.refl _ _).alloc (Nat.le_refl _) _
        obtain ⟨hz0, x0, x1, x2, y0, y1, y2⟩ := (HT.out.later hb2 hsz).cells
        have HB2 := Lib.hid (HBW.out.trans (hb2.mono (Nat.le_of_lt hsz)))
        have HAM2 := Lib.hid (HAM.out W.heap.size 8 _ (TextsAt.at W sgTexts _ rfl))
        clear hb2
        go_wp2_with fail
        refine HAM2.out.mono ?_
        rintro e w' ⟨rfl, rfl⟩
        have hz9 : w.heap.size < (W.alloc (.cells (sgTexts.map fun t => Value.string (mkS t)).toArray 9)).heap.size := hz0
        generalize W.alloc (.cells (sgTexts.map fun t => Value.string (mkS t)).toArray 9) = W2 at *
        go_wp2_with fail
        refine bodyPost_ret (v := .tuple #[.agg #[.int .u8 0, .string ⟨#[]⟩, .int .i64 0], .int .i64 0, .int .i64 100]) (by simp [results, Tryz.results29, go_sem, x0, x1, x2, y0, y1, y2]) rfl ⟨?_, ?_⟩
        · rfl
        · first | exact HB2.out | exact ((HB2.out.setCell (p := ⟨w.heap.size, 0, none⟩) (Nat.le_refl _) _).setCell (p := ⟨w.heap.size, 1, none⟩) (Nat.le_refl _) _).setCell (p := ⟨w.heap.size, 2, none⟩) (Nat.le_refl _) _
  · rw [hs] at HAM
    rw [if_pos rfl]
    clear hs
    rcases second_ways S a ha h2 with hn | ⟨hn, hw⟩
    · have u1 : ¬ ((a : Int) + 1 < (S.size : Int)) := by omega
      clear h2 hn
      have HT := Lib.hid (TokCell.new w 0 ⟨#[]⟩ 0)
      have HBW : Hid (Below w.heap.size w (w.alloc (.cells #[.int .u8 0, .string ⟨#[]⟩, .int .i64 0] 57))) := (Below.refl _ _).alloc (Nat.le_refl _) _
      go_enter Tryz.func29, Tryz.ntmps29
      go_upto_region 20 with (first | (go_at_call 50; refine (HLt.out _).mono ?_; rintro e w' ⟨rfl, rfl⟩))
      generalize w.alloc (.cells #[.int .u8 0, .string ⟨#[]⟩, .int .i64 0] 57) = W at *
      have hsz := HT.out.cells.1
      have hb2 : Below W.heap.size W (W.alloc (.cells (sgTexts.map fun t => Value.string (mkS t)).toArray 9)) := (Below.refl _ _).alloc (Nat.le_refl _) _
      obtain ⟨hz0, x0, x1, x2, y0, y1, y2⟩ := (HT.out.later hb2 hsz).cells
      have HB2 := Lib.hid (HBW.out.trans (hb2.mono (Nat.le_of_lt hsz)))
      have HAM2 := Lib.hid (HAM.out W.heap.size 8 _ (TextsAt.at W sgTexts _ rfl))
      clear hb2
      go_wp2_with fail
      refine HAM2.out.mono ?_
      rintro e w' ⟨rfl, rfl⟩
      have hz9 : w.heap.size < (W.alloc (.cells (sgTexts.map fun t => Value.string (mkS t)).toArray 9)).heap.size := hz0
      generalize W.alloc (.cells (sgTexts.map fun t => Value.string (mkS t)).toArray 9) = W2 at *
      go_wp2_with fail
      refine bodyPost_ret (v := .tuple #[.agg #[.int .u8 6, .string (mkS [S[a]]), .int .i64 (a : Int)], .int .i64 ((a : Int) + 1), .int .i64 0]) (by simp [results, Tryz.results29, go_sem, x0, x1, x2, y0, y1, y2]) rfl ⟨?_, ?_⟩
      · unfold tkT; simp only [hcast]; rfl
      · first | exact HB2.out | exact ((HB2.out.setCell (p := ⟨w.heap.size, 0, none⟩) (Nat.le_refl _) _).setCell (p := ⟨w.heap.size, 1, none⟩) (Nat.le_refl _) _).setCell (p := ⟨w.heap.size, 2, none⟩) (Nat.le_refl _) _
    · have u1 : (a : Int) + 1 < (S.size : Int) := by omega
      have u3 : (0 : Int) ≤ (a : Int) + 1 := by omega
      have u4 : ((a : Int) + 1).toNat = a + 1 := by omega
      cases hs2 : (S[a + 1] == 37)
      · have e2 : ((S[a + 1].toNat : Int) == 37) = false := u8_ne (k := 37) (by decide) hs2
        clear h2 hw hs2
        have HT := Lib.hid (TokCell.new w 0 ⟨#[]⟩ 0)
        have HBW : Hid (Below w.heap.size w (w.alloc (.cells #[.int .u8 0, .string ⟨#[]⟩, .int .i64 0] 57))) := (Below.refl _ _).alloc (Nat.le_refl _) _
        go_enter Tryz.func29, Tryz.ntmps29
        go_upto_region 20 with (first | (go_at_call 50; refine (HLt.out _).mono ?_; rintro e w' ⟨rfl, rfl⟩))
        generalize w.alloc (.cells #[.int .u8 0, .string ⟨#[]⟩, .int .i64 0] 57) = W at *
        have hsz := HT.out.cells.1
        have hb2 : Below W.heap.size W (W.alloc (.cells (sgTexts.map fun t => Value.string (mkS t)).toArray 9)) := (Below.refl _ _).alloc (Nat.le_refl _) _
        obtain ⟨hz0, x0, x1, x2, y0, y1, y2⟩ := (HT.out.later hb2 hsz).cells
        have HB2 := Lib.hid (HBW.out.trans (hb2.mono (Nat.le_of_lt hsz)))
        have HAM2 := Lib.hid (HAM.out W.heap.size 8 _ (TextsAt.at W sgTexts _ rfl))
        clear hb2
        go_wp2_with fail
        refine HAM2.out.mono ?_
        rintro e w' ⟨rfl, rfl⟩
        have hz9 : w.heap.size < (W.alloc (.cells (sgTexts.map fun t => Value.string (mkS t)).toArray 9)).heap.size := hz0
        generalize W.alloc (.cells (sgTexts.map fun t => Value.string (mkS t)).toArray 9) = W2 at *
        go_wp2_with fail
        refine bodyPost_ret (v := .tuple #[.agg #[.int .u8 6, .string (mkS [S[a]]), .int .i64 (a : Int)], .int .i64 ((a : Int) + 1), .int .i64 0]) (by simp [results, Tryz.results29, go_sem, x0, x1, x2, y0, y1, y2]) rfl ⟨?_, ?_⟩
        · unfold tkT; simp only [hcast]; rfl
        · first | exact HB2.out | exact ((HB2.out.setCell (p := ⟨w.heap.size, 0, none⟩) (Nat.le_refl _) _).setCell (p := ⟨w.heap.size, 1, none⟩) (Nat.le_refl _) _).setCell (p := ⟨w.heap.size, 2, none⟩) (Nat.le_refl _) _
      · have e2 : ((S[a + 1].toNat : Int) == 37) = true := u8_eq (k := 37) (by decide) hs2
        clear h2 hw hs2
        have HT := Lib.hid (TokCell.new w 0 ⟨#[]⟩ 0)
        have HBW : Hid (Below w.heap.size w (w.alloc (.cells #[.int .u8 0, .string ⟨#[]⟩, .int .i64 0] 57))) := (Below.refl _ _).alloc (Nat.le_refl _) _
        go_enter Tryz.func29, Tryz.ntmps29
        go_upto_region 20 with (first | (go_at_call 50; refine (HLt.out _).mono ?_; rintro e w' ⟨rfl, rfl⟩))
        generalize w.alloc (.cells #[.int .u8 0, .string ⟨#[]⟩, .int .i64 0] 57) = W at *
        have hsz := HT.out.cells.1
        have hb2 : Below W.heap.size W (W.alloc (.cells (sgTexts.map fun t => Value.string (mkS t)).toArray 9)) := (Below.refl _ _).alloc (Nat.le_refl _) _
        obtain ⟨hz0, x0, x1, x2, y0, y1, y2⟩ := (HT.out.later hb2 hsz).cells
        have HB2 := Lib.hid (HBW.out.trans (hb2.mono (Nat.le_of_lt hsz)))
        have HAM2 := Lib.hid (HAM.out W.heap.size 8 _ (TextsAt.at W sgTexts _ rfl))
        clear hb2
        go_wp2_with fail
        refine HAM2.out.mono ?_
        rintro e w' ⟨rfl, rfl⟩
        have hz9 : w.heap.size < (W.alloc (.cells (sgTexts.map fun t => Value.string (mkS t)).toArray 9)).heap.size := hz0
        generalize W.alloc (.cells (sgTexts.map fun t => Value.string (mkS t)).toArray 9) = W2 at *
        go_wp2_with fail
        refine bodyPost_ret (v := .tuple #[.agg #[.int .u8 6, .string (mkS [S[a]]), .int .i64 (a : Int)], .int .i64 ((a : Int) + 1), .int .i64 0]) (by simp [results, Tryz.results29, go_sem, x0, x1, x2, y0, y1, y2]) rfl ⟨?_, ?_⟩
        · unfold tkT; simp only [hcast]; rfl
        · first | exact HB2.out | exact ((HB2.out.setCell (p := ⟨w.heap.size, 0, none⟩) (Nat.le_refl _) _).setCell (p := ⟨w.heap.size, 1, none⟩) (Nat.le_refl _) _).setCell (p := ⟨w.heap.size, 2, none⟩) (Nat.le_refl _) _
theorem rfToken_any (S : ByteArray) (a : Nat) (w : World) (hS : S.size ≤ 100000) (ha : a < S.size) : Calls Tryz.prog 29 #[.string S, .int .i64 a] w fun e w' => tkT (oneT (restB S a)) a e ∧ Below w.heap.size w w' := by
  have hl := look_here S a ha
  cases h1 : isLt S[a]
  · cases h3 : (S[a] == 123)
    · cases h2 : [37, 37].isPrefixOf (restB S a)
      · cases h4 : (S[a] == 37)
        · have := rfToken_sign S a w hS ha h1 h2 h4 h3
          cases h5 : isSg S[a]
          · rw [h5, if_neg (by decide)] at this
            rwa [one_none (by rw [hl]; exact h1) (by rw [hl]; exact h3) h2 (by rw [hl]; exact h4) (by rw [hl]; exact h5)]
          · rw [h5, if_pos rfl] at this
            rwa [one_sign (by rw [hl]; exact h1) (by rw [hl]; exact h3) h2 (by rw [hl]; exact h4) (by rw [hl]; exact h5), hl]
        · rw [one_word (by rw [hl]; exact h1) (by rw [hl]; exact h3) h2 (by rw [hl]; exact h4)]
          exact rfToken_word S a w hS ha h1 h2 h4
      · rw [one_two (by rw [hl]; exact h1) (by rw [hl]; exact h3) h2]
        exact rfToken_two S a w hS ha h1 h2
    · have hc : S[a] = 123 := by simpa using h3
      have h2 : [37, 37].isPrefixOf (restB S a) = false := by rw [two_at ha, hc]; rfl
      rw [one_action (by rw [hl]; exact h1) (by rw [hl]; exact h3)]
      exact rfToken_action S a w hS ha h1 h2 hc
  · rw [one_name (by rw [hl]; exact h1)]
    exact rfToken_name S a w hS ha h1
end Go.Proofs.YtkcgccbmndgepaaGreatDoor
