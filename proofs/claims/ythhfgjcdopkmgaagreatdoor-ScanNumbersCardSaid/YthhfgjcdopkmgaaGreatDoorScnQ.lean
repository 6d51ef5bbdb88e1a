/- A name's token. -/
import Derived.Test.YthhfgjcdopkmgaaGreatDoorScnP
set_option maxRecDepth 100000
namespace Go.Proofs.YthhfgjcdopkmgaaGreatDoor
open Go.Instr Go.RowKit ScnT
set_option linter.unusedVariables false
variable {b fr a : Nat} {S : ByteArray} {tv pm : Value}
theorem name_word {l : Bs} (h : words.contains (l.takeWhile isLd) = true) : nameT l = .ok (1, l.takeWhile isLd, (l.takeWhile isLd).length) := by unfold nameT; rw [if_pos h]
theorem name_name {l : Bs} (h : words.contains (l.takeWhile isLd) = false) (h1 : l.takeWhile isLd ≠ [95]) (h2 : (l.takeWhile isLd).length ≤ 40) (h3 : foreignWords.contains (l.takeWhile isLd) = false) : nameT l = .ok (2, l.takeWhile isLd, (l.takeWhile isLd).length) := by
  unfold nameT
  rw [if_neg (by rw [h]; decide), if_pos (by rw [h3]; simp [h1, h2])]
theorem name_none {l : Bs} (h : words.contains (l.takeWhile isLd) = false) (h1 : l.takeWhile isLd = [95] ∨ 40 < (l.takeWhile isLd).length ∨ foreignWords.contains (l.takeWhile isLd) = true) : nameT l = .error 101 := by
  unfold nameT
  rw [if_neg (by rw [h]; decide), if_neg]
  rcases h1 with h1 | h1 | h1
  · rw [h1]; decide
  · have : ¬ (l.takeWhile isLd).length ≤ 40 := by omega
    simp [this]
  · rw [h1]; simp
set_option maxHeartbeats 2000000 in
theorem readName_any (ts : List Tok) (w : World) (h : St 67 w b S fr a ts tv pm) (ha : a ≤ S.size) (hS : S.size ≤ 65536) (hn : ts.length ≤ 100000) :
    Calls Tryz.prog 113 #[.pointer (some ⟨b, 0, none⟩)] w (TokOr 67 (nameT (restB S a)) (fun c => faulty c fr) ts w b S fr a pm) := by
  have hlt := h.box.lt
  have hls : ((restB S a).takeWhile isLd).length ≤ 65536 := by
    have h1 := (List.takeWhile_sublist isLd (l := restB S a)).length_le
    rw [rest_len] at h1
    omega
  have HW := Lib.hid (@name_word (restB S a))
  have HN := Lib.hid (@name_name (restB S a))
  have HO := Lib.hid (@name_none (restB S a))
  have HP : Hid (Calls Tryz.prog 105 #[.pointer (some ⟨b, 0, none⟩), .func (.func 174) #[] #[]] w (PassPost isLd w b S fr a tv pm)) := pass_name w h.box ha (by omega)
  have HH := Lib.hid h
  clear h
  unfold PassPost at HP
  generalize nameT (restB S a) = r at *
  generalize (restB S a).takeWhile isLd = t at *
  obtain ⟨s, hs⟩ : ∃ s, mkS t = s := ⟨_, rfl⟩
  have hsl : s.toList = t := by rw [← hs]; exact mkS_toList t
  have hsd : s.data.toList = t := by rw [← hs]; simp
  have hsz : s.size = t.length := by rw [← hs]; simp
  have HPUT : Hid (∀ (k : Nat) (w1 : World), 1 ≤ k ∧ k ≤ 8 → St 67 w1 b S fr (a + t.length) ts tv pm → Calls Tryz.prog 52 #[.pointer (some ⟨b, 0, none⟩), .int .u8 k, .string s] w1 (PutPost k t ts w1 b S fr (a + t.length) pm)) := by
    intro k w1 hk h1
    rw [← hs]
    exact put_any k t ts w1 h1 (by omega) hk
  have HWD : Hid (∀ w1, Calls Tryz.prog 175 #[.string s] w1 fun e w' => e = .returned (.bool (words.contains t)) ∧ Below w1.heap.size w1 w') := fun w1 => by have := isWord_any s w1; rwa [hsd] at this
  have HFW : Hid (∀ w1, Calls Tryz.prog 177 #[.string s] w1 fun e w' => e = .returned (.bool (foreignWords.contains t)) ∧ w1 = w') := fun w1 => by have := isForeignWord_any s w1; rwa [hsd] at this
  rw [hs] at HP
  have HSL := Lib.hid hsl
  have HSZ := Lib.hid hsz
  clear hs hsl hsd
  have hszb : s.size ≤ 65536 := by rw [hsz]; exact hls
  clear hsz
  cases hw : words.contains t
  · rw [hw] at HWD
    have HW0 := Lib.hid hw
    clear hw
    by_cases h1 : t = [95]
    · have e1 : (s.toList == [95]) = true := by rw [HSL.out, h1]; rfl
      have H1 := Lib.hid h1
      clear h1
      go_enter Tryz.func113, Tryz.ntmps113
      go_wp2_with fail
      refine HP.out.mono ?_
      rintro e w1 ⟨rfl, hb1, hg1⟩
      have HB := Lib.hid (And.intro hb1 hg1)
      clear hb1 hg1
      go_wp2_with fail
      refine (HWD.out w1).mono ?_
      rintro e w2 ⟨rfl, hb2⟩
      have HB2 := Lib.hid hb2
      clear hb2
      go_wp2_with fail
      refine (must_no w2 (HB.out.1.under HB2.out HB.out.1.lt)).mono ?_
      rintro e w3 ⟨rfl, rfl⟩
      exact ⟨rfl, .inr ⟨101, HO.out HW0.out (.inl H1.out), rfl, below_of_grownB (grown_trans HB.out.2 (grown_below HB2.out _)) hlt⟩⟩
    · have e1 : (s.toList == [95]) = false := by rw [HSL.out]; simpa using h1
      have H1 := Lib.hid h1
      clear h1
      by_cases h2 : s.size ≤ 40
      · have H2 : Hid (t.length ≤ 40) := by show _ ≤ _; rw [← HSZ.out]; exact h2
        cases h3 : foreignWords.contains t
        · rw [h3] at HFW
          have H3 := Lib.hid h3
          clear h3
          go_enter Tryz.func113, Tryz.ntmps113
          go_wp2_with fail
          refine HP.out.mono ?_
          rintro e w1 ⟨rfl, hb1, hg1⟩
          have HB := Lib.hid (And.intro hb1 hg1)
          clear hb1 hg1
          go_wp2_with fail
          refine (HWD.out w1).mono ?_
          rintro e w2 ⟨rfl, hb2⟩
          have HB2 := Lib.hid hb2
          clear hb2
          go_wp2_with fail
          refine (HFW.out w2).mono ?_
          rintro e w3 ⟨rfl, rfl⟩
          go_wp2_with fail
          refine (must_yes w2 b).mono ?_
          rintro e w3 ⟨rfl, rfl⟩
          go_wp2_with fail
          refine (HPUT.out 2 w2 (by omega) ((HH.out.keep HB.out.1 HB.out.2).under HB2.out)).mono ?_
          rintro e w3 ⟨rfl, hs3, hb3⟩
          have HS3 := Lib.hid (And.intro hs3 hb3)
          clear hs3 hb3
          go_wp2_with fail
          go_end0
          exact .inl ⟨2, t, t.length, HN.out HW0.out H1.out H2.out H3.out, rfl, HS3.out.1, (below_of_grownB (grown_trans HB.out.2 (grown_below HB2.out _)) hlt).trans HS3.out.2⟩
        · rw [h3] at HFW
          have H3 := Lib.hid h3
          clear h3
          go_enter Tryz.func113, Tryz.ntmps113
          go_wp2_with fail
          refine HP.out.mono ?_
          rintro e w1 ⟨rfl, hb1, hg1⟩
          have HB := Lib.hid (And.intro hb1 hg1)
          clear hb1 hg1
          go_wp2_with fail
          refine (HWD.out w1).mono ?_
          rintro e w2 ⟨rfl, hb2⟩
          have HB2 := Lib.hid hb2
          clear hb2
          go_wp2_with fail
          refine (HFW.out w2).mono ?_
          rintro e w3 ⟨rfl, rfl⟩
          go_wp2_with fail
          refine (must_no w2 (HB.out.1.under HB2.out HB.out.1.lt)).mono ?_
          rintro e w3 ⟨rfl, rfl⟩
          exact ⟨rfl, .inr ⟨101, HO.out HW0.out (.inr (.inr H3.out)), rfl, below_of_grownB (grown_trans HB.out.2 (grown_below HB2.out _)) hlt⟩⟩
      · have H2 : Hid (40 < t.length) := by show _ < _; rw [← HSZ.out]; omega
        have h2' : (s.size ≤ 40) = False := by simp; omega
        go_enter Tryz.func113, Tryz.ntmps113
        go_wp2_with fail
        refine HP.out.mono ?_
        rintro e w1 ⟨rfl, hb1, hg1⟩
        have HB := Lib.hid (And.intro hb1 hg1)
        clear hb1 hg1
        go_wp2_with fail
        refine (HWD.out w1).mono ?_
        rintro e w2 ⟨rfl, hb2⟩
        have HB2 := Lib.hid hb2
        clear hb2
        go_wp2_with fail
        refine (must_no w2 (HB.out.1.under HB2.out HB.out.1.lt)).mono ?_
        rintro e w3 ⟨rfl, rfl⟩
        exact ⟨rfl, .inr ⟨101, HO.out HW0.out (.inr (.inl H2.out)), rfl, below_of_grownB (grown_trans HB.out.2 (grown_below HB2.out _)) hlt⟩⟩
  · rw [hw] at HWD
    have HW0 := Lib.hid hw
    clear hw
    go_enter Tryz.func113, Tryz.ntmps113
    go_wp2_with fail
    refine HP.out.mono ?_
    rintro e w1 ⟨rfl, hb1, hg1⟩
    have HB := Lib.hid (And.intro hb1 hg1)
    clear hb1 hg1
    go_wp2_with fail
    refine (HWD.out w1).mono ?_
    rintro e w2 ⟨rfl, hb2⟩
    have HB2 := Lib.hid hb2
    clear hb2
    go_wp2_with fail
    refine (HPUT.out 1 w2 (by omega) ((HH.out.keep HB.out.1 HB.out.2).under HB2.out)).mono ?_
    rintro e w3 ⟨rfl, hs3, hb3⟩
    have HS3 := Lib.hid (And.intro hs3 hb3)
    clear hs3 hb3
    go_wp2_with fail
    go_end0
    exact .inl ⟨1, t, t.length, HW.out HW0.out, rfl, HS3.out.1, (below_of_grownB (grown_trans HB.out.2 (grown_below HB2.out _)) hlt).trans HS3.out.2⟩
end Go.Proofs.YthhfgjcdopkmgaaGreatDoor
