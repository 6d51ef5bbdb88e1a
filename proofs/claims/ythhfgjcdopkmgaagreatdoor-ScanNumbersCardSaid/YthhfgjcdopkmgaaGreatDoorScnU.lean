/- Any token; blanks and comments; all of a source. -/
import Derived.Test.YthhfgjcdopkmgaaGreatDoorScnT
set_option maxRecDepth 100000
namespace ScnT
theorem one_letter {l : Bs} (h : isLt (lookB l 0) = true) : oneT l = nameT l := by unfold oneT; rw [if_pos h]
theorem one_digit {l : Bs} (h : isLt (lookB l 0) = false) (h2 : isDg (lookB l 0) = true) : oneT l = numberT l := by unfold oneT; rw [if_neg (by rw [h]; decide), if_pos h2]
theorem one_string {l : Bs} (h : isLt (lookB l 0) = false) (h2 : isDg (lookB l 0) = false) (h3 : (lookB l 0 == 34) = true) : oneT l = stringT l := by
  unfold oneT; rw [if_neg (by rw [h]; decide), if_neg (by rw [h2]; decide), if_pos h3]
theorem one_dollar {l : Bs} (h : isLt (lookB l 0) = false) (h2 : isDg (lookB l 0) = false) (h3 : (lookB l 0 == 34) = false) (h4 : (lookB l 0 == 36) = true) : oneT l = dollarT l := by
  unfold oneT; rw [if_neg (by rw [h]; decide), if_neg (by rw [h2]; decide), if_neg (by rw [h3]; decide), if_pos h4]
theorem one_sign {l : Bs} (h : isLt (lookB l 0) = false) (h2 : isDg (lookB l 0) = false) (h3 : (lookB l 0 == 34) = false) (h4 : (lookB l 0 == 36) = false) : oneT l = signT l 3 := by
  unfold oneT; rw [if_neg (by rw [h]; decide), if_neg (by rw [h2]; decide), if_neg (by rw [h3]; decide), if_neg (by rw [h4]; decide)]
theorem skip_plain {S : ByteArray} {a : Nat} {t : Bs} (ht : (restB S a).takeWhile isBl = t) (h : [47, 47].isPrefixOf (restB S (a + t.length)) = false) : skipB (restB S a) = t.length := by
  unfold skipB
  simp only [ht, drop_rest, h, Bool.false_eq_true, if_false]
theorem skip_comment {S : ByteArray} {a : Nat} {t u : Bs} (ht : (restB S a).takeWhile isBl = t) (h : [47, 47].isPrefixOf (restB S (a + t.length)) = true) (hu : (restB S (a + t.length)).takeWhile notNL = u) : skipB (restB S a) = t.length + u.length := by
  unfold skipB
  have hu' : (restB S (a + t.length)).takeWhile (fun c => c != 10) = u := hu
  simp only [ht, drop_rest, h, if_true, hu']
end ScnT
namespace Go.Proofs.YthhfgjcdopkmgaaGreatDoor
open Go.Instr Go.RowKit ScnT
set_option linter.unusedVariables false
variable {b fr a : Nat} {S : ByteArray} {tv pm : Value} {pm0 : Nat}
theorem tokOr_go {r : Except Nat (Nat × Bs × Nat)} {F : Nat → List PanicEntry} {ts : List Tok} {w w1 : World} {e : Ending} {w' : World} (h : TokOr 67 r F ts w1 b S fr a pm e w') (hb : Below b w w1) : TokOr 67 r F ts w b S fr a pm e w' := by
  rcases h with ⟨k, t, n, h1, h2, h3, h4⟩ | ⟨c, h1, h2, h3⟩
  · exact .inl ⟨k, t, n, h1, h2, h3, hb.trans h4⟩
  · exact .inr ⟨c, h1, h2, hb.trans h3⟩
set_option maxHeartbeats 2000000 in
theorem readToken_any (ts : List Tok) (w : World) (h : St 67 w b S a a ts tv (.map (some pm0))) (hp : PairsAt w pm0) (hpb : pm0 < b) (ha : a < S.size) (hS : S.size ≤ 65536) (hn : ts.length ≤ 100000) :
    Calls Tryz.prog 51 #[.pointer (some ⟨b, 0, none⟩)] w (TokOr 67 (oneT (restB S a)) (fun c => faulty c a) ts w b S a a (.map (some pm0))) := by
  have hlt := h.box.lt
  have HL := Lib.hid (look_any 0 w h.box (by omega) (by omega) (by omega))
  have HH := Lib.hid h
  have HP : Hid (∀ w1, Below w.heap.size w w1 → PairsAt w1 pm0) := fun w1 hb => (hb.block pm0 (by omega)).trans hp
  clear h hp
  have O1 := Lib.hid (@one_letter (restB S a))
  have O2 := Lib.hid (@one_digit (restB S a))
  have O3 := Lib.hid (@one_string (restB S a))
  have O4 := Lib.hid (@one_dollar (restB S a))
  have O5 := Lib.hid (@one_sign (restB S a))
  have HD0 : Hid (∀ w1, Below w.heap.size w w1 → isDg (lookB (restB S a) 0) = true → Calls Tryz.prog 115 #[.pointer (some ⟨b, 0, none⟩)] w1 (TokOr 67 (numberT (restB S a)) (fun c => faulty c a) ts w1 b S a a (.map (some pm0)))) := fun w1 hb hd => readNumber_any ts w1 (HH.out.under hb) hd ha hS hn
  have HI := Lib.hid (fun ww => isLetter_any (lookB (restB S a) 0) ww)
  have HD := Lib.hid (fun ww => isDigit_any (lookB (restB S a) 0) ww)
  generalize hr : oneT (restB S a) = r at *
  clear hr
  generalize lookB (restB S a) 0 = c at *
  cases h1 : isLt c
  · rw [h1] at HI
    cases h2 : isDg c
    · rw [h2] at HD
      cases h3 : (c == 34)
      · have e34 : ((c.toNat : Int) == 34) = false := u8_ne (k := 34) (by decide) h3
        cases h4 : (c == 36)
        · have e36 : ((c.toNat : Int) == 36) = false := u8_ne (k := 36) (by decide) h4
          have HE := Lib.hid (O5.out h1 h2 h3 h4)
          clear h1 h2 h3 h4
          go_enter Tryz.func51, Tryz.ntmps51
          go_wp2_with fail
          refine HL.out.mono ?_
          rintro e w1 ⟨rfl, hb1⟩
          have HB1 := Lib.hid hb1
          clear hb1
          go_wp2_with (first | (go_at_call 112; refine (HI.out _).mono ?_; rintro e w' ⟨rfl, rfl⟩) | (go_at_call 114; refine (HD.out _).mono ?_; rintro e w' ⟨rfl, rfl⟩))
          refine (readSign_any ts w1 (HH.out.under HB1.out) (by omega) hS hn).mono ?_
          intro e w2 h2
          have H2 := Lib.hid (tokOr_go h2 (HB1.out.mono (Nat.le_of_lt hlt)))
          clear h2
          rcases H2.out with ⟨k, t, n, q1, rfl, q3, q4⟩ | ⟨cc, q1, rfl, q3⟩
          · clear q1 q3 q4
            go_wp2_with fail
            go_end0
            rw [HE.out]
            exact H2.out
          · exact ⟨rfl, by rw [HE.out]; exact H2.out⟩
        · have e36 : ((c.toNat : Int) == 36) = true := u8_eq (k := 36) (by decide) h4
          have HE := Lib.hid (O4.out h1 h2 h3 h4)
          clear h1 h2 h3 h4
          go_enter Tryz.func51, Tryz.ntmps51
          go_wp2_with fail
          refine HL.out.mono ?_
          rintro e w1 ⟨rfl, hb1⟩
          have HB1 := Lib.hid hb1
          clear hb1
          go_wp2_with (first | (go_at_call 112; refine (HI.out _).mono ?_; rintro e w' ⟨rfl, rfl⟩) | (go_at_call 114; refine (HD.out _).mono ?_; rintro e w' ⟨rfl, rfl⟩))
          refine (readDollar_any ts w1 (HH.out.under HB1.out) ha hS hn).mono ?_
          intro e w2 h2
          have H2 := Lib.hid (tokOr_go h2 (HB1.out.mono (Nat.le_of_lt hlt)))
          clear h2
          rcases H2.out with ⟨k, t, n, q1, rfl, q3, q4⟩ | ⟨cc, q1, rfl, q3⟩
          · clear q1 q3 q4
            go_wp2_with fail
            go_end0
            rw [HE.out]
            exact H2.out
          · exact ⟨rfl, by rw [HE.out]; exact H2.out⟩
      · have e34 : ((c.toNat : Int) == 34) = true := u8_eq (k := 34) (by decide) h3
        have HE := Lib.hid (O3.out h1 h2 h3)
        clear h1 h2 h3
        go_enter Tryz.func51, Tryz.ntmps51
        go_wp2_with fail
        refine HL.out.mono ?_
        rintro e w1 ⟨rfl, hb1⟩
        have HB1 := Lib.hid hb1
        clear hb1
        go_wp2_with (first | (go_at_call 112; refine (HI.out _).mono ?_; rintro e w' ⟨rfl, rfl⟩) | (go_at_call 114; refine (HD.out _).mono ?_; rintro e w' ⟨rfl, rfl⟩))
        refine (readString_any ts w1 (HH.out.under HB1.out) (HP.out w1 HB1.out) hpb ha hS hn).mono ?_
        intro e w2 h2
        have H2 := Lib.hid (tokOr_go h2 (HB1.out.mono (Nat.le_of_lt hlt)))
        clear h2
        rcases H2.out with ⟨k, t, n, q1, rfl, q3, q4⟩ | ⟨cc, q1, rfl, q3⟩
        · clear q1 q3 q4
          go_wp2_with fail
          go_end0
          rw [HE.out]
          exact H2.out
        · exact ⟨rfl, by rw [HE.out]; exact H2.out⟩
    · rw [h2] at HD
      have HE := Lib.hid (O2.out h1 h2)
      have HN := Lib.hid (fun w1 hb => HD0.out w1 hb h2)
      clear h1 h2
      go_enter Tryz.func51, Tryz.ntmps51
      go_wp2_with fail
      refine HL.out.mono ?_
      rintro e w1 ⟨rfl, hb1⟩
      have HB1 := Lib.hid hb1
      clear hb1
      go_wp2_with (first | (go_at_call 112; refine (HI.out _).mono ?_; rintro e w' ⟨rfl, rfl⟩) | (go_at_call 114; refine (HD.out _).mono ?_; rintro e w' ⟨rfl, rfl⟩))
      refine (HN.out w1 HB1.out).mono ?_
      intro e w2 h2
      have H2 := Lib.hid (tokOr_go h2 (HB1.out.mono (Nat.le_of_lt hlt)))
      clear h2
      rcases H2.out with ⟨k, t, n, q1, rfl, q3, q4⟩ | ⟨cc, q1, rfl, q3⟩
      · clear q1 q3 q4
        go_wp2_with fail
        go_end0
        rw [HE.out]
        exact H2.out
      · exact ⟨rfl, by rw [HE.out]; exact H2.out⟩
  · rw [h1] at HI
    have HE := Lib.hid (O1.out h1)
    clear h1
    go_enter Tryz.func51, Tryz.ntmps51
    go_wp2_with fail
    refine HL.out.mono ?_
    rintro e w1 ⟨rfl, hb1⟩
    have HB1 := Lib.hid hb1
    clear hb1
    go_wp2_with (first | (go_at_call 112; refine (HI.out _).mono ?_; rintro e w' ⟨rfl, rfl⟩) | (go_at_call 114; refine (HD.out _).mono ?_; rintro e w' ⟨rfl, rfl⟩))
    refine (readName_any ts w1 (HH.out.under HB1.out) (by omega) hS hn).mono ?_
    intro e w2 h2
    have H2 := Lib.hid (tokOr_go h2 (HB1.out.mono (Nat.le_of_lt hlt)))
    clear h2
    rcases H2.out with ⟨k, t, n, q1, rfl, q3, q4⟩ | ⟨cc, q1, rfl, q3⟩
    · clear q1 q3 q4
      go_wp2_with fail
      go_end0
      rw [HE.out]
      exact H2.out
    · exact ⟨rfl, by rw [HE.out]; exact H2.out⟩
set_option maxHeartbeats 1000000 in
theorem goesOn_any (w : World) (h : Box w b S fr a tv pm) (ha : a ≤ S.size) (hS : S.size ≤ 65536) :
    Calls Tryz.prog 47 #[.pointer (some ⟨b, 0, none⟩)] w fun e w' => e = .returned (.bool (!decide (a + skipB (restB S a) = S.size))) ∧ Box w' b S (a + skipB (restB S a)) (a + skipB (restB S a)) tv pm ∧ w.grownBy w' (some b) := by
  have hlt := h.lt
  have HP := Lib.hid (pass_blank w h ha (by omega))
  have hl := pass_len S a isBl ha
  have K1 := Lib.hid (@skip_plain S a _ rfl)
  have K2 := Lib.hid (fun hh => @skip_comment S a _ _ rfl hh rfl)
  have HSW : Hid (∀ w1, Box w1 b S fr (a + ((restB S a).takeWhile isBl).length) tv pm → Calls Tryz.prog 107 #[.pointer (some ⟨b, 0, none⟩), .string ⟨#[47, 47]⟩] w1 fun e w' => e = .returned (.bool ([47, 47].isPrefixOf (restB S (a + ((restB S a).takeWhile isBl).length)))) ∧ Below w1.heap.size w1 w') := fun w1 hb => startsWith_any w1 hb hl
  have HEND : Hid (∀ w1, Box w1 b S (a + skipB (restB S a)) (a + skipB (restB S a)) tv pm → Calls Tryz.prog 110 #[.pointer (some ⟨b, 0, none⟩)] w1 fun e w' => e = .returned (.bool (decide (a + skipB (restB S a) = S.size))) ∧ Below w1.heap.size w1 w') := fun w1 hb => (atEnd_any w1 hb).mono fun e w' ⟨h1, n, h2⟩ => ⟨h1, by rw [h2]; exact drawn_below _ _⟩
  have HPL : Hid (∀ w1, Box w1 b S fr (a + ((restB S a).takeWhile isBl).length) tv pm → Calls Tryz.prog 105 #[.pointer (some ⟨b, 0, none⟩), .func (.func 108) #[] #[]] w1 (PassPost notNL w1 b S fr (a + ((restB S a).takeWhile isBl).length) tv pm)) := fun w1 hb => pass_line w1 hb hl (by omega)
  have HH := Lib.hid h
  unfold PassPost at HP HPL
  clear h
  generalize ht : ((restB S a).takeWhile isBl).length = m at *
  generalize skipB (restB S a) = k at *
  generalize decide (a + k = S.size) = fin at *
  cases hpre : [47, 47].isPrefixOf (restB S (a + m))
  · rw [hpre] at HSW
    have HK := Lib.hid (K1.out hpre)
    clear hpre ht
    go_enter Tryz.func47, Tryz.ntmps47
    go_wp2_with fail
    refine HP.out.mono ?_
    rintro e w1 ⟨rfl, hb1, hg1⟩
    have HB := Lib.hid (And.intro hb1 hg1)
    clear hb1 hg1
    go_wp2_with fail
    refine (HSW.out w1 HB.out.1).mono ?_
    rintro e w2 ⟨rfl, hb2⟩
    have HB2 := Lib.hid hb2
    clear hb2
    go_wp2_with fail
    refine (begin_any w2 (HB.out.1.under HB2.out HB.out.1.lt)).mono ?_
    rintro e w3 ⟨rfl, hb3, hg3⟩
    rw [← HK.out] at hb3
    have HB3 := Lib.hid (And.intro hb3 hg3)
    clear hb3 hg3
    go_wp2_with fail
    refine (HEND.out w3 HB3.out.1).mono ?_
    rintro e w4 ⟨rfl, hb4⟩
    have HB4 := Lib.hid hb4
    clear hb4
    go_wp2_with fail
    go_ret
    exact ⟨rfl, HB3.out.1.under HB4.out HB3.out.1.lt, grown_trans (grown_trans (grown_trans HB.out.2 (grown_below HB2.out _)) HB3.out.2) (grown_below HB4.out _)⟩
  · rw [hpre] at HSW
    have HK := Lib.hid (K2.out hpre)
    clear hpre ht
    go_enter Tryz.func47, Tryz.ntmps47
    go_wp2_with fail
    refine HP.out.mono ?_
    rintro e w1 ⟨rfl, hb1, hg1⟩
    have HB := Lib.hid (And.intro hb1 hg1)
    clear hb1 hg1
    go_wp2_with fail
    refine (HSW.out w1 HB.out.1).mono ?_
    rintro e w2 ⟨rfl, hb2⟩
    have HB2 := Lib.hid hb2
    clear hb2
    go_wp2_with fail
    refine (HPL.out w2 (HB.out.1.under HB2.out HB.out.1.lt)).mono ?_
    rintro e w5 ⟨rfl, hb5, hg5⟩
    have HB5 := Lib.hid (And.intro hb5 hg5)
    clear hb5 hg5
    go_wp2_with fail
    refine (begin_any w5 HB5.out.1).mono ?_
    rintro e w3 ⟨rfl, hb3, hg3⟩
    rw [show a + m + ((restB S (a + m)).takeWhile notNL).length = a + k from by rw [HK.out, Nat.add_assoc]] at hb3
    have HB3 := Lib.hid (And.intro hb3 hg3)
    clear hb3 hg3
    go_wp2_with fail
    refine (HEND.out w3 HB3.out.1).mono ?_
    rintro e w4 ⟨rfl, hb4⟩
    have HB4 := Lib.hid hb4
    clear hb4
    go_wp2_with fail
    go_ret
    exact ⟨rfl, HB3.out.1.under HB4.out HB3.out.1.lt, grown_trans (grown_trans (grown_trans (grown_trans HB.out.2 (grown_below HB2.out _)) HB5.out.2) HB3.out.2) (grown_below HB4.out _)⟩
end Go.Proofs.YthhfgjcdopkmgaaGreatDoor
