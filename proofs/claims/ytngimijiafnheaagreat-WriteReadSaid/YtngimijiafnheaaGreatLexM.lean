/- Names, words, signs; blanks and comments. -/
import Derived.Test.YtngimijiafnheaaGreatLexL
set_option maxRecDepth 100000
namespace LexT
open Go Go.RowKit
set_option linter.unusedVariables false
/-- Comments, and blanks behind each. -/
def tailB (l : Bs) : Nat := if [47, 47].isPrefixOf l then (l.takeWhile notNL).length + skipB (l.drop (l.takeWhile notNL).length) else 0
theorem skip_tail (l : Bs) : skipB l = (l.takeWhile isBl).length + tailB (l.drop (l.takeWhile isBl).length) := by
  rw [skip_rec]
  unfold tailB
  simp only
  split
  · rw [List.drop_drop]
  · rfl
theorem pass_le (S : ByteArray) (a : Nat) (p : UInt8 → Bool) (ha : a ≤ S.size) : a + ((restB S a).takeWhile p).length ≤ S.size := by
  have h1 := takeWhile_len p (restB S a)
  rw [rest_len] at h1
  omega
/-- Blanks and comments have gone by up to q, and blanks behind. -/
structure Goes (w wr : World) (b : Nat) (S : ByteArray) (fr a q : Nat) (tv : Value) (o : Nat) (pm : Value) : Prop where
  box : Box wr b S fr q tv o pm
  gr : w.grownBy wr (some b)
  le : a ≤ q
  hi : q ≤ S.size
  eq : skipB (restB S a) = (q - a) + tailB (restB S q)
section
variable {w wr w1 w2 w3 : World} {b fr a q o : Nat} {S : ByteArray} {tv pm : Value}
theorem Goes.start (ha : a ≤ S.size) (h : Box w1 b S fr (a + ((restB S a).takeWhile isBl).length) tv o pm) (hg : w.grownBy w1 (some b)) : Goes w w1 b S fr a (a + ((restB S a).takeWhile isBl).length) tv o pm := by
  refine ⟨h, hg, by omega, pass_le S a isBl ha, ?_⟩
  rw [skip_tail, drop_rest]; omega
theorem Goes.next (h : Goes w wr b S fr a q tv o pm) (hp : [47, 47].isPrefixOf (restB S q) = true) (h2 : Box w3 b S fr (q + ((restB S q).takeWhile notNL).length + ((restB S (q + ((restB S q).takeWhile notNL).length)).takeWhile isBl).length) tv o pm) (hg : wr.grownBy w3 (some b)) :
    Goes w w3 b S fr a (q + ((restB S q).takeWhile notNL).length + ((restB S (q + ((restB S q).takeWhile notNL).length)).takeWhile isBl).length) tv o pm := by
  have hle := h.le
  refine ⟨h2, grown_trans h.gr hg, by omega, pass_le S _ isBl (pass_le S q notNL h.hi), ?_⟩
  rw [h.eq]
  have e : tailB (restB S q) = ((restB S q).takeWhile notNL).length + skipB (restB S (q + ((restB S q).takeWhile notNL).length)) := by
    unfold tailB
    rw [if_pos hp, drop_rest]
  rw [e, skip_tail, drop_rest]
  omega
theorem Goes.fin (h : Goes w wr b S fr a q tv o pm) (hp : [47, 47].isPrefixOf (restB S q) = false) : a + skipB (restB S a) = q := by
  have hle := h.le
  rw [h.eq]
  unfold tailB
  rw [if_neg (by rw [hp]; decide)]
  omega
end
end LexT
namespace Go.Proofs.YtngimijiafnheaaGreat
open Go.Instr Go.RowKit LexT
set_option linter.unusedVariables false
variable {b fr a o : Nat} {S : ByteArray} {tv pm : Value} {m : Nat}
set_option maxHeartbeats 2000000 in
theorem goesOn_any (w : World) (h : Box w b S fr a tv o pm) (ha : a ≤ S.size) (hS : S.size ≤ 65536) :
    Calls Tryz.prog 55 #[.pointer (some ⟨b, 0, none⟩)] w fun e w' => e = .returned (.bool (!decide (a + skipB (restB S a) = S.size))) ∧ Box w' b S (a + skipB (restB S a)) (a + skipB (restB S a)) tv o pm ∧ w.grownBy w' (some b) := by
  have hlt := h.lt
  have HP := Lib.hid (pass_blank w h ha (by omega))
  have HPB : Hid (∀ (q : Nat) (w1 : World), q ≤ S.size → Box w1 b S fr q tv o pm → Calls Tryz.prog 82 #[.pointer (some ⟨b, 0, none⟩), .func (.func 83) #[] #[]] w1 (PassPost isBl w1 b S fr q tv o pm)) := fun q w1 hq hb => pass_blank w1 hb hq (by omega)
  have HPL : Hid (∀ (q : Nat) (w1 : World), q ≤ S.size → Box w1 b S fr q tv o pm → Calls Tryz.prog 81 #[.pointer (some ⟨b, 0, none⟩)] w1 (PassPost notNL w1 b S fr q tv o pm)) := fun q w1 hq hb => passLine_any w1 hb hq (by omega)
  have HSW : Hid (∀ (q : Nat) (w1 : World), q ≤ S.size → Box w1 b S fr q tv o pm → Calls Tryz.prog 80 #[.pointer (some ⟨b, 0, none⟩), .string ⟨#[47, 47]⟩] w1 fun e w' => e = .returned (.bool ([47, 47].isPrefixOf (restB S q))) ∧ Below w1.heap.size w1 w') := fun q w1 hq hb => startsWith_comment w1 hb hq
  have HEND : Hid (∀ (q : Nat) (w1 : World), Box w1 b S q q tv o pm → Calls Tryz.prog 85 #[.pointer (some ⟨b, 0, none⟩)] w1 fun e w' => e = .returned (.bool (decide (q = S.size))) ∧ Below w1.heap.size w1 w') := fun q w1 hb => (atEnd_any w1 hb).mono fun e w' ⟨h1, n, h2⟩ => ⟨h1, by rw [h2]; exact drawn_below _ _⟩
  unfold PassPost at HP HPB HPL
  go_enter Tryz.func55, Tryz.ntmps55
  go_wp2_with fail
  refine HP.out.mono ?_
  rintro e w1 ⟨rfl, hb1, hg1⟩
  have HR := Lib.hid (Goes.start ha hb1 hg1)
  clear hb1 hg1 HP
  go_wp2_with fail
  go_loopg [7] (S.size + 1 - (a + ((restB S a).takeWhile isBl).length)) (fun g v7 wr => ∃ q : Nat, g = S.size + 1 - q ∧ Goes w wr b S fr a q tv o pm)
  case atStart => exact ⟨_, rfl, HR.out⟩
  case round =>
    obtain ⟨q, hgk, hR⟩ := hrel
    have HGK := Lib.hid hgk
    have hhi := hR.hi
    have HR2 := Lib.hid hR
    clear hgk hR HR
    have HS := HSW.out q wr hhi HR2.out.box
    cases hpre : [47, 47].isPrefixOf (restB S q)
    · rw [hpre] at HS
      have HS' := Lib.hid HS
      have HF := Lib.hid (HR2.out.fin hpre)
      clear HS hpre
      go_wp2_with fail
      refine HS'.out.mono ?_
      rintro e w2 ⟨rfl, hb2⟩
      have HB2 := Lib.hid hb2
      clear hb2
      go_wp2_with fail
      refine (begin_any w2 (HR2.out.box.under HB2.out HR2.out.box.lt)).mono ?_
      rintro e w3 ⟨rfl, hb3, hg3⟩
      have HB3 := Lib.hid (And.intro hb3 hg3)
      clear hb3 hg3
      go_wp2_with fail
      refine (HEND.out q w3 HB3.out.1).mono ?_
      rintro e w4 ⟨rfl, hb4⟩
      have HB4 := Lib.hid hb4
      clear hb4
      go_wp2_with fail
      go_ret
      rw [HF.out]
      exact ⟨rfl, HB3.out.1.under HB4.out HB3.out.1.lt, grown_trans (grown_trans (grown_trans HR2.out.gr (grown_below HB2.out _)) HB3.out.2) (grown_below HB4.out _)⟩
    · rw [hpre] at HS
      have HS' := Lib.hid HS
      have HN := Lib.hid (fun (w3 : World) => HR2.out.next (w3 := w3) hpre)
      have h2 := comment_pos hpre
      have hq1 := pass_le S q notNL hhi
      have HPLQ := Lib.hid (fun (w1 : World) (hb : Box w1 b S fr q tv o pm) => HPL.out q w1 hhi hb)
      clear HS hpre
      generalize ((restB S q).takeWhile notNL).length = k at *
      have hq2 := pass_le S (q + k) isBl hq1
      go_wp2_with fail
      refine HS'.out.mono ?_
      rintro e w2 ⟨rfl, hb2⟩
      have HB2 := Lib.hid hb2
      clear hb2
      go_wp2_with fail
      refine (HPLQ.out w2 (HR2.out.box.under HB2.out HR2.out.box.lt)).mono ?_
      rintro e w3 ⟨rfl, hb3, hg3⟩
      have HB3 := Lib.hid (And.intro hb3 hg3)
      clear hb3 hg3
      go_wp2_with fail
      refine (HPB.out (q + k) w3 hq1 HB3.out.1).mono ?_
      rintro e w4 ⟨rfl, hb4, hg4⟩
      have HG := Lib.hid (HN.out w4 hb4 (grown_trans (grown_trans (grown_below HB2.out _) HB3.out.2) hg4))
      clear hb4 hg4
      go_wp2_with fail
      go_roundg (S.size + 1 - (q + k + ((restB S (q + k)).takeWhile isBl).length))
      case rel => exact ⟨_, rfl, HG.out⟩
      case measure => rw [HGK.out]; omega
theorem name_name {l : Bs} (h2 : (l.takeWhile isLd).length ≤ 40) : nameT l = .ok (2, l.takeWhile isLd, (l.takeWhile isLd).length) := by
  unfold nameT; simp only; rw [if_pos h2]
theorem name_none {l : Bs} (h2 : 40 < (l.takeWhile isLd).length) : nameT l = .error 101 := by
  unfold nameT; simp only; rw [if_neg (by omega)]
theorem take_pass (S : ByteArray) (a : Nat) (p : UInt8 → Bool) : (restB S a).take (a + ((restB S a).takeWhile p).length - a) = (restB S a).takeWhile p := by
  rw [Nat.add_sub_cancel_left, ← takeWhile_take]
set_option maxHeartbeats 1000000 in
theorem readName_any (ts : List Tok) (w : World) (h : St 110 w b S a a ts tv 0 pm) (ha : a ≤ S.size) (hS : S.size ≤ 65536) (hn : ts.length ≤ 100000) :
    Calls Tryz.prog 87 #[.pointer (some ⟨b, 0, none⟩)] w (TokOr 110 (nameT (restB S a)) (fun c => faulty c a) ts w b S a a pm) := by
  have hlt := h.box.lt
  have hls := pass_le S a isLd ha
  have HN := Lib.hid (@name_name (restB S a))
  have HO := Lib.hid (@name_none (restB S a))
  have HP : Hid (Calls Tryz.prog 82 #[.pointer (some ⟨b, 0, none⟩), .func (.func 107) #[] #[]] w (PassPost isLd w b S a a tv 0 pm)) := pass_name w h.box ha (by omega)
  have HT : Hid (∀ w1, Box w1 b S a (a + ((restB S a).takeWhile isLd).length) tv 0 pm → Calls Tryz.prog 108 #[.pointer (some ⟨b, 0, none⟩)] w1 fun e w' => e = .returned (.string (mkS ((restB S a).takeWhile isLd))) ∧ Below w1.heap.size w1 w') := fun w1 hb => by
    have := taken_any w1 hb (by omega) hls (by omega)
    rwa [take_pass] at this
  have HH := Lib.hid h
  clear h
  unfold PassPost at HP
  generalize nameT (restB S a) = r at *
  generalize (restB S a).takeWhile isLd = t at *
  obtain ⟨s, hs⟩ : ∃ s, mkS t = s := ⟨_, rfl⟩
  have hsz : s.size = t.length := by rw [← hs]; simp
  have HPUT : Hid (∀ (w1 : World), St 110 w1 b S a (a + t.length) ts tv 0 pm → Calls Tryz.prog 57 #[.pointer (some ⟨b, 0, none⟩), .int .u8 2, .string s] w1 (PutPost 2 t ts w1 b S a (a + t.length) 0 pm)) := by
    intro w1 h1
    rw [← hs]
    exact put_any 2 t ts w1 h1 (by omega)
  rw [hs] at HT
  have HSZ := Lib.hid hsz
  clear hs hsz
  by_cases h2 : s.size ≤ 40
  · have H2 : Hid (t.length ≤ 40) := by show _ ≤ _; rw [← HSZ.out]; exact h2
    have e2 : decide ((s.size : Int) ≤ 40) = true := by simp; omega
    go_enter Tryz.func87, Tryz.ntmps87
    go_wp2_with fail
    refine HP.out.mono ?_
    rintro e w1 ⟨rfl, hb1, hg1⟩
    have HB := Lib.hid (And.intro hb1 hg1)
    clear hb1 hg1
    go_wp2_with fail
    refine (HT.out w1 HB.out.1).mono ?_
    rintro e w2 ⟨rfl, hb2⟩
    have HB2 := Lib.hid hb2
    clear hb2
    go_wp2_with fail
    refine (must_yes w2 b).mono ?_
    rintro e w3 ⟨rfl, rfl⟩
    go_wp2_with fail
    refine (HPUT.out w2 ((HH.out.keep HB.out.1 HB.out.2).under HB2.out)).mono ?_
    rintro e w3 ⟨rfl, hs3, hb3⟩
    have HS3 := Lib.hid (And.intro hs3 hb3)
    clear hs3 hb3
    go_wp2_with fail
    go_end0
    exact .inl ⟨2, t, t.length, HN.out H2.out, rfl, HS3.out.1, (nigh_of_grown (grown_trans HB.out.2 (grown_below HB2.out _))).trans HS3.out.2⟩
  · have H2 : Hid (40 < t.length) := by show _ < _; rw [← HSZ.out]; omega
    have e2 : decide ((s.size : Int) ≤ 40) = false := by simp; omega
    go_enter Tryz.func87, Tryz.ntmps87
    go_wp2_with fail
    refine HP.out.mono ?_
    rintro e w1 ⟨rfl, hb1, hg1⟩
    have HB := Lib.hid (And.intro hb1 hg1)
    clear hb1 hg1
    go_wp2_with fail
    refine (HT.out w1 HB.out.1).mono ?_
    rintro e w2 ⟨rfl, hb2⟩
    have HB2 := Lib.hid hb2
    clear hb2
    go_wp2_with fail
    refine (must_no w2 (HB.out.1.under HB2.out HB.out.1.lt)).mono ?_
    rintro e w3 ⟨rfl, rfl⟩
    exact ⟨rfl, .inr ⟨101, HO.out H2.out, rfl, nigh_of_grown (grown_trans HB.out.2 (grown_below HB2.out _))⟩⟩
theorem word_word {S : ByteArray} {a : Nat} (h2 : words.contains ((restB S (a + 1)).takeWhile isLd) = true) : wordT (restB S a) = .ok (1, (restB S (a + 1)).takeWhile isLd, 1 + ((restB S (a + 1)).takeWhile isLd).length) := by
  unfold wordT; simp only [drop_rest]; rw [if_pos h2]
theorem word_none {S : ByteArray} {a : Nat} (h2 : words.contains ((restB S (a + 1)).takeWhile isLd) = false) : wordT (restB S a) = .error 101 := by
  unfold wordT; simp only [drop_rest]; rw [if_neg (by rw [h2]; decide)]
theorem word_text (S : ByteArray) (a : Nat) (ha : a < S.size) : (mkS ((restB S a).take (a + 1 + ((restB S (a + 1)).takeWhile isLd).length - a))).extract 1 (mkS ((restB S a).take (a + 1 + ((restB S (a + 1)).takeWhile isLd).length - a))).size = mkS ((restB S (a + 1)).takeWhile isLd) := by
  have e : a + 1 + ((restB S (a + 1)).takeWhile isLd).length - a = ((restB S (a + 1)).takeWhile isLd).length + 1 := by omega
  rw [e]
  have e2 : (restB S a).take (((restB S (a + 1)).takeWhile isLd).length + 1) = lookB (restB S a) 0 :: (restB S (a + 1)).takeWhile isLd := by
    conv => lhs; rw [rest_cons_look S a ha]
    rw [List.take_succ_cons, ← takeWhile_take]
  rw [e2, Lib.extract_eq, mkS_list]
  show mkS _ = mkS _
  congr 1
  rw [List.drop_succ_cons, List.drop_zero, List.take_of_length_le (by simp)]
set_option maxHeartbeats 1000000 in
theorem readWord_any (ts : List Tok) (w : World) (h : St 110 w b S a a ts tv 0 pm) (ha : a < S.size) (hS : S.size ≤ 65536) (hn : ts.length ≤ 100000) :
    Calls Tryz.prog 90 #[.pointer (some ⟨b, 0, none⟩)] w (TokOr 110 (wordT (restB S a)) (fun c => faulty c a) ts w b S a a pm) := by
  have hlt := h.box.lt
  have hls := pass_le S (a + 1) isLd ha
  have HN := Lib.hid (@word_word S a)
  have HO := Lib.hid (@word_none S a)
  have HP : Hid (∀ w1, Box w1 b S a (a + 1) tv 0 pm → Calls Tryz.prog 82 #[.pointer (some ⟨b, 0, none⟩), .func (.func 107) #[] #[]] w1 (PassPost isLd w1 b S a (a + 1) tv 0 pm)) := fun w1 hb => pass_name w1 hb ha (by omega)
  have HT : Hid (∀ w1, Box w1 b S a (a + 1 + ((restB S (a + 1)).takeWhile isLd).length) tv 0 pm → Calls Tryz.prog 108 #[.pointer (some ⟨b, 0, none⟩)] w1 fun e w' => e = .returned (.string (mkS ((restB S a).take (a + 1 + ((restB S (a + 1)).takeWhile isLd).length - a)))) ∧ Below w1.heap.size w1 w') := fun w1 hb => taken_any w1 hb (by omega) hls (by omega)
  have hx := word_text S a ha
  have hx2 : (mkS ((restB S a).take (a + 1 + ((restB S (a + 1)).takeWhile isLd).length - a))).size = 1 + ((restB S (a + 1)).takeWhile isLd).length := by rw [mkS_size, List.length_take, rest_len]; omega
  have HH := Lib.hid h
  clear h
  unfold PassPost at HP
  generalize wordT (restB S a) = r at *
  generalize (restB S (a + 1)).takeWhile isLd = t at *
  generalize mkS ((restB S a).take (a + 1 + t.length - a)) = s0 at *
  have hx3 : (1 : Int) ≤ (s0.size : Int) := by omega
  obtain ⟨s, hs⟩ : ∃ s, s0.extract 1 s0.size = s := ⟨_, rfl⟩
  rw [hs] at hx
  have HPUT : Hid (∀ (w1 : World), St 110 w1 b S a (a + 1 + t.length) ts tv 0 pm → Calls Tryz.prog 57 #[.pointer (some ⟨b, 0, none⟩), .int .u8 1, .string s] w1 (PutPost 1 t ts w1 b S a (a + 1 + t.length) 0 pm)) := by
    intro w1 h1
    rw [hx]
    exact put_any 1 t ts w1 h1 (by omega)
  have HWD : Hid (∀ w1, Calls Tryz.prog 110 #[.string s] w1 fun e w' => e = .returned (.bool (words.contains t)) ∧ w1 = w') := fun w1 => by have := isWord_any s w1; rwa [show s.data.toList = t from by rw [hx]; simp] at this
  have HSE := Lib.hid hs
  have HX := Lib.hid hx
  clear hx hx2
  cases h2 : words.contains t
  · rw [h2] at HWD
    have H2 := Lib.hid h2
    clear h2
    go_enter Tryz.func90, Tryz.ntmps90
    go_wp2_with fail
    refine (step_1 w HH.out.box (by omega)).mono ?_
    rintro e w0 ⟨rfl, hb0, hg0⟩
    have HB0 := Lib.hid (And.intro hb0 hg0)
    clear hb0 hg0
    go_wp2_with fail
    refine (HP.out w0 HB0.out.1).mono ?_
    rintro e w1 ⟨rfl, hb1, hg1⟩
    have HB := Lib.hid (And.intro hb1 (grown_trans HB0.out.2 hg1))
    clear hb1 hg1
    go_wp2_with fail
    refine (HT.out w1 HB.out.1).mono ?_
    rintro e w2 ⟨rfl, hb2⟩
    have HB2 := Lib.hid hb2
    clear hb2
    go_wp2_with (go_at_call 110; refine (HWD.out _).mono ?_; rintro e w' ⟨rfl, rfl⟩)
    refine (must_no w2 (HB.out.1.under HB2.out HB.out.1.lt)).mono ?_
    rintro e w3 ⟨rfl, rfl⟩
    exact ⟨rfl, .inr ⟨101, HO.out H2.out, rfl, nigh_of_grown (grown_trans HB.out.2 (grown_below HB2.out _))⟩⟩
  · rw [h2] at HWD
    have H2 := Lib.hid h2
    clear h2
    go_enter Tryz.func90, Tryz.ntmps90
    go_wp2_with fail
    refine (step_1 w HH.out.box (by omega)).mono ?_
    rintro e w0 ⟨rfl, hb0, hg0⟩
    have HB0 := Lib.hid (And.intro hb0 hg0)
    clear hb0 hg0
    go_wp2_with fail
    refine (HP.out w0 HB0.out.1).mono ?_
    rintro e w1 ⟨rfl, hb1, hg1⟩
    have HB := Lib.hid (And.intro hb1 (grown_trans HB0.out.2 hg1))
    clear hb1 hg1
    go_wp2_with fail
    refine (HT.out w1 HB.out.1).mono ?_
    rintro e w2 ⟨rfl, hb2⟩
    have HB2 := Lib.hid hb2
    clear hb2
    go_wp2_with (go_at_call 110; refine (HWD.out _).mono ?_; rintro e w' ⟨rfl, rfl⟩)
    refine (must_yes w2 b).mono ?_
    rintro e w3 ⟨rfl, rfl⟩
    go_wp2_with fail
    refine (HPUT.out w2 ((HH.out.keep HB.out.1 HB.out.2).under HB2.out)).mono ?_
    rintro e w3 ⟨rfl, hs3, hb3⟩
    have HS3 := Lib.hid (And.intro hs3 hb3)
    clear hs3 hb3
    go_wp2_with fail
    go_end0
    exact .inl ⟨1, t, 1 + t.length, HN.out H2.out, rfl, by rw [← Nat.add_assoc]; exact HS3.out.1, (nigh_of_grown (grown_trans HB.out.2 (grown_below HB2.out _))).trans HS3.out.2⟩
theorem readSign_any (n : Nat) (t : Bs) (ts : List Tok) (w : World) (h : St 110 w b S a a ts tv 0 pm) (ha : a + n ≤ S.size) (ht : (restB S a).take n = t) (hS : S.size ≤ 65536) (hn : ts.length ≤ 100000) :
    Calls Tryz.prog 89 #[.pointer (some ⟨b, 0, none⟩), .int .i64 n] w (PutPost 6 t ts w b S a (a + n) 0 pm) := by
  have hlt := h.box.lt
  have HS := Lib.hid (step_any n w h.box (by omega) (by omega))
  have HT : Hid (∀ w1, Box w1 b S a (a + n) tv 0 pm → Calls Tryz.prog 108 #[.pointer (some ⟨b, 0, none⟩)] w1 fun e w' => e = .returned (.string (mkS t)) ∧ Below w1.heap.size w1 w') := fun w1 hb => by
    have := taken_any w1 hb (by omega) ha (by omega)
    rwa [Nat.add_sub_cancel_left, ht] at this
  have HH := Lib.hid h
  clear h ht
  go_enter Tryz.func89, Tryz.ntmps89
  go_wp2_with fail
  refine HS.out.mono ?_
  rintro e w1 ⟨rfl, hb1, hg1⟩
  have HB := Lib.hid (And.intro hb1 hg1)
  clear hb1 hg1
  go_wp2_with fail
  refine (HT.out w1 HB.out.1).mono ?_
  rintro e w2 ⟨rfl, hb2⟩
  have HB2 := Lib.hid hb2
  clear hb2
  go_wp2_with fail
  refine (put_any 6 t ts w2 ((HH.out.keep HB.out.1 HB.out.2).under HB2.out) (by omega)).mono ?_
  rintro e w3 ⟨rfl, hs3, hb3⟩
  have HS3 := Lib.hid (And.intro hs3 hb3)
  clear hs3 hb3
  go_wp2_with fail
  go_end0
  exact ⟨rfl, HS3.out.1, (nigh_of_grown (grown_trans HB.out.2 (grown_below HB2.out _))).trans HS3.out.2⟩
end Go.Proofs.YtngimijiafnheaaGreat
