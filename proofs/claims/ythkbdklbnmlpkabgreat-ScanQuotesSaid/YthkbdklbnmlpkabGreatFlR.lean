/- ScanQuotes: the walk. -/
import Derived.Test.YthkbdklbnmlpkabGreatScnZa
import Derived.Test.YthkbdklbnmlpkabGreatFlQ
import Derived.Test.YthkbdklbnmlpkabGreatFlP
import Derived.Test.YthkbdklbnmlpkabGreatFlG
import Derived.Test.YthkbdklbnmlpkabGreatFlW
set_option maxRecDepth 100000
namespace Go.Proofs.YthkbdklbnmlpkabGreat
open Go.Instr Go.RowKit ScnT FlT
set_option linter.unusedVariables false
set_option linter.unusedSimpArgs false
theorem moves_below {S : Nat → Prop} {B : Nat} {w w' : World} (h : Moves S w w') (hB : B ≤ w.heap.size) (hS : ∀ b, S b → B ≤ b) : Below B w w' :=
  ⟨h.os, h.tape, h.output, h.size, fun b hb => h.block b (by omega) fun hs => by have := hS b hs; omega⟩
def wordsV (a : Nat) : Value := .slice (some ⟨a, 0, none⟩) 16 16
set_option maxHeartbeats 2000000 in
/-- Two rows of words, each new, lie apart. -/
theorem words_apart (w : World) (a b g : Nat) (w2 : World) (hw2 : w2 = ((w.alloc (.cells (wordTexts.map Value.string).toArray 9)).alloc (.cells (wordTexts.map Value.string).toArray 9)).alloc (.cells #[wordsV w.heap.size, wordsV (w.heap.size + 1)] 25)) (hg : g = w.heap.size + 2) :
    Calls Tryz.prog 10 #[.slice (some ⟨g, 0, none⟩) 2 2] w2 fun e w' => e = .returned (.bool true) ∧ Below w.heap.size w w' := by
  have hb : Below w.heap.size w w2 := by
    subst hw2
    exact (((Below.refl _ _).alloc (Nat.le_refl _) _).alloc (by simp) _).alloc (by simp; omega) _
  have h2 : w2.heap.size = w.heap.size + 3 := by subst hw2; simp
  refine (ApartTexts_of w.heap.size g 2 (fun k => if k = 0 then wordsV w.heap.size else wordsV (w.heap.size + 1)) (fun _ => 16) (fun _ => wordTexts.map Value.string) 2 w2 (by decide) (by decide) (fun _ _ => by decide) (fun k hk => ?_) (fun k hk => ?_) (fun k j hk hj hkj b h1 h2 => ?_) (by omega) (fun b v T S w h1 h2 h3 h4 => apart_any b v T S w h1 h2 h3 h4)).mono ?_
  · subst hw2 hg
    have hh : ((w.alloc (.cells (wordTexts.map Value.string).toArray 9)).alloc (.cells (wordTexts.map Value.string).toArray 9)).heap.size = w.heap.size + 2 := by simp
    rw [← hh, World.cell?_alloc_new]
    match k, hk with
    | 0, _ => rfl
    | 1, _ => rfl
  · subst hw2
    match k, hk with
    | 0, _ => exact ((World.ownsRow_lit w (wordTexts.map Value.string).toArray 16 (Nat.le_refl _) (by decide) rfl).alloc _).alloc _
    | 1, _ =>
      have hh : (w.alloc (.cells (wordTexts.map Value.string).toArray 9)).heap.size = w.heap.size + 1 := by simp
      have := (World.ownsRow_lit (base := w.heap.size) (e := 9) (size := 1) (w.alloc (.cells (wordTexts.map Value.string).toArray 9)) (wordTexts.map Value.string).toArray 16 (by simp) (by decide) rfl).alloc (.cells #[wordsV w.heap.size, wordsV (w.heap.size + 1)] 25)
      rw [hh] at this
      exact this
  · match k, hk, j, hj with
    | 0, _, 0, _ => exact hkj rfl
    | 1, _, 1, _ => exact hkj rfl
    | 0, _, 1, _ =>
      have e1 : w.heap.size = b := by simpa [wordsV, Value.ownBlock] using h1
      have e2 : w.heap.size + 1 = b := by simpa [wordsV, Value.ownBlock] using h2
      omega
    | 1, _, 0, _ =>
      have e1 : w.heap.size + 1 = b := by simpa [wordsV, Value.ownBlock] using h1
      have e2 : w.heap.size = b := by simpa [wordsV, Value.ownBlock] using h2
      omega
  · rintro e w' ⟨rfl, hm⟩
    refine ⟨rfl, hb.trans (moves_below hm (by omega) ?_)⟩
    rintro b ⟨k, hk, h1⟩
    match k, hk with
    | 0, _ =>
      have e1 : w.heap.size = b := by simpa [wordsV, Value.ownBlock] using h1
      omega
    | 1, _ =>
      have e1 : w.heap.size + 1 = b := by simpa [wordsV, Value.ownBlock] using h1
      omega
set_option maxHeartbeats 2000000 in
theorem ScanQuotes_any (s : ByteArray) (w : World) (hs : s.size ≤ maxLen) : Calls Tryz.prog 3 #[.string s] w fun e w' => e = .returned (.bool true) ∧ Below w.heap.size w w' := by
  unfold maxLen at hs
  by_cases h1 : s.size ≤ 70000
  · have g1 : decide ((70000 : Int) < (s.size : Int)) = false := by simp; omega
    have HQ1 := Lib.hid (fun ww => Quote_any s ww (by omega))
    have HQ2 := Lib.hid (fun ww => RefQuote_any s ww (by omega))
    obtain ⟨x, hx⟩ : ∃ x, mkS (quoteB s.data.toList) = x := ⟨_, rfl⟩
    rw [hx] at HQ1 HQ2
    clear hx
    have e1 : (x.toList == x.toList) = true := by simp
    go_enter Tryz.func3, Tryz.ntmps3
    go_wp2_with fail
    refine (HQ1.out w).mono ?_
    rintro e w1 ⟨rfl, hb1⟩
    have HB1 := Lib.hid hb1
    clear hb1
    go_wp2_with fail
    refine (HQ2.out w1).mono ?_
    rintro e w2 ⟨rfl, hb2⟩
    have HB2 : Hid (Below w.heap.size w w2) := HB1.out.trans (hb2.mono HB1.out.size)
    clear hb2 HB1
    go_wp2_with fail
    refine (WordsRow_any w2).mono ?_
    rintro e w3 ⟨rfl, rfl⟩
    go_wp2_with fail
    refine (RefWords_any _).mono ?_
    rintro e w3 ⟨rfl, rfl⟩
    have HS : Hid (Calls Tryz.prog 7 #[.slice (some ⟨w2.heap.size, 0, none⟩) 16 16, .slice (some ⟨w2.heap.size + 1, 0, none⟩) 16 16] ((w2.alloc (.cells (wordTexts.map Value.string).toArray 9)).alloc (.cells (wordTexts.map Value.string).toArray 9)) fun e w' => e = .returned (.bool true) ∧ Below w.heap.size w w') := by
      have hh : (w2.alloc (.cells (wordTexts.map Value.string).toArray 9)).heap.size = w2.heap.size + 1 := by simp
      refine (SameTexts_any wordTexts w2.heap.size (w2.heap.size + 1) 16 16 _ (by decide) (fun i t ht => ?_) (fun i t ht => ?_)).mono ?_
      · rw [World.cell?_alloc_old _ _ _ (by simp), World.cell?_alloc_new]
        simp [ht]
      · rw [← hh, World.cell?_alloc_new]
        simp [ht]
      · rintro e w' ⟨rfl, hb⟩
        have hz := HB2.out.size
        exact ⟨rfl, ((HB2.out.alloc hz _).alloc (by simp; omega) _).trans (hb.mono (by simp; omega))⟩
    go_wp2_with fail
    refine HS.out.mono ?_
    rintro e w4 ⟨rfl, hb4⟩
    have HB4 := Lib.hid hb4
    clear hb4 HS HB2
    go_wp2_with fail
    refine (WordsRow_any w4).mono ?_
    rintro e w5 ⟨rfl, rfl⟩
    go_wp2_with fail
    refine (WordsRow_any _).mono ?_
    rintro e w5 ⟨rfl, rfl⟩
    go_wp2_with fail
    refine (words_apart w4 0 0 (w4.heap.size + 1 + 1) _ rfl (by omega)).mono ?_
    rintro e w5 ⟨rfl, hb5⟩
    have HB5 : Hid (Below w.heap.size w w5) := HB4.out.trans (hb5.mono HB4.out.size)
    clear hb5 HB4
    go_wp2_with fail
    refine (awake_any w5).mono ?_
    rintro e w6 ⟨rfl, hb6⟩
    have HB6 : Hid (Below w.heap.size w w6) := HB5.out.trans (hb6.mono HB5.out.size)
    clear hb6 HB5
    go_wp2_with fail
    go_ret
    exact ⟨rfl, HB6.out⟩
  · have g1 : decide ((70000 : Int) < (s.size : Int)) = true := by simp; omega
    go_enter Tryz.func3, Tryz.ntmps3
    go_wp2_with fail
    refine (awake_any w).mono ?_
    rintro e w1 ⟨rfl, hb1⟩
    have HB1 := Lib.hid hb1
    clear hb1
    go_wp2_with fail
    go_ret
    exact ⟨rfl, HB1.out⟩
end Go.Proofs.YthkbdklbnmlpkabGreat
