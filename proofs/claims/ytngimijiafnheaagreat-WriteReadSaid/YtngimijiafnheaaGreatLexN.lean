/- Any token; all of a source. -/
import Derived.Test.YtngimijiafnheaaGreatLexM
set_option maxRecDepth 100000
namespace LexT
open Go Go.RowKit
set_option linter.unusedVariables false
theorem take_one (S : ByteArray) (a : Nat) (h : a < S.size) : (restB S a).take 1 = [lookB (restB S a) 0] := by
  conv => lhs; rw [rest_cons_look S a h]
  rfl
theorem two_take (l : Bs) (h : [37, 37].isPrefixOf l = true) : l.take 2 = [37, 37] ∧ 2 ≤ l.length := by
  cases l with
  | nil => cases h
  | cons c l =>
    cases l with
    | nil => simp [List.isPrefixOf] at h
    | cons d l =>
      simp only [List.isPrefixOf, Bool.and_eq_true, beq_iff_eq] at h
      obtain ⟨rfl, rfl, _⟩ := h
      exact ⟨rfl, by simp⟩
theorem go_fin {f : Nat} {S : ByteArray} {p k : Nat} {ts : List Tok} (hk : skipB (restB S p) = k) (h : p + k = S.size) : goT (f + 1) (restB S p) p ts = .ok (ts ++ [⟨7, [], p + k⟩]) := by
  rw [goT]
  simp only [hk, drop_rest]
  rw [rest_nil S (p + k) (by omega)]
theorem go_tok {f : Nat} {S : ByteArray} {p k : Nat} {ts : List Tok} (hk : skipB (restB S p) = k) (h : p + k < S.size) {kd n : Nat} {t : Bs} (ho : oneT (restB S (p + k)) = .ok (kd, t, n)) : goT (f + 1) (restB S p) p ts = goT f (restB S (p + k + n)) (p + k + n) (ts ++ [⟨kd, t, p + k⟩]) := by
  rw [goT]
  simp only [hk, drop_rest]
  have h2 : (restB S (p + k)).drop n = restB S (p + k + n) := drop_rest S (p + k) n
  have h1 := rest_cons_look S (p + k) h
  generalize lookB (restB S (p + k)) 0 = c at *
  rw [h1] at ho h2
  rw [h1]
  simp only [ho, h2]
theorem go_bad {f : Nat} {S : ByteArray} {p k : Nat} {ts : List Tok} (hk : skipB (restB S p) = k) (h : p + k < S.size) {e : Nat} (ho : oneT (restB S (p + k)) = .error e) : goT (f + 1) (restB S p) p ts = .error (e, p + k) := by
  rw [goT]
  simp only [hk, drop_rest]
  have h1 := rest_cons_look S (p + k) h
  generalize lookB (restB S (p + k)) 0 = c at *
  rw [h1] at ho
  rw [h1]
  simp only [ho]
/-- What readAll leaves. -/
def AllOr (E : TypeId) (R : Except (Nat × Nat) (List Tok)) (F : Nat → Nat → List PanicEntry) (w : World) (b : Nat) (S : ByteArray) (pm : Value) (e : Ending) (w' : World) : Prop :=
  (∃ out, R = .ok out ∧ e = .returned (.tuple #[]) ∧ out.length ≤ 70000 ∧ (∃ fr a tv', St E w' b S fr a out tv' 0 pm) ∧ Nigh b w w') ∨ (∃ c q, R = .error (c, q) ∧ e = .panicked (F c q) ∧ Nigh b w w')
/-- A round's state. -/
structure Run (E : TypeId) (R : Except (Nat × Nat) (List Tok)) (w wr : World) (b : Nat) (S : ByteArray) (p : Nat) (ts : List Tok) (pm : Value) : Prop where
  st : ∃ fr tv, St E wr b S fr p ts tv 0 pm
  below : Nigh b w wr
  le : p ≤ S.size
  len : ts.length ≤ p
  run : ∃ f, S.size - p < f ∧ goT f (restB S p) p ts = R
end LexT
namespace Go.Proofs.YtngimijiafnheaaGreat
open Go.Instr Go.RowKit LexT
set_option linter.unusedVariables false
variable {b fr a o : Nat} {S : ByteArray} {tv pm : Value} {m : Nat}
theorem tokOr_go {r : Except Nat (Nat × Bs × Nat)} {F : Nat → List PanicEntry} {ts : List Tok} {w w1 : World} {e : Ending} {w' : World} (h : TokOr 110 r F ts w1 b S fr a pm e w') (hb : Nigh b w w1) : TokOr 110 r F ts w b S fr a pm e w' := by
  rcases h with ⟨k, t, n, h1, h2, h3, h4⟩ | ⟨c, h1, h2, h3⟩
  · exact .inl ⟨k, t, n, h1, h2, h3, hb.trans h4⟩
  · exact .inr ⟨c, h1, h2, hb.trans h3⟩
set_option maxHeartbeats 2000000 in
theorem readToken_any (ts : List Tok) (w : World) (h : St 110 w b S a a ts tv 0 (.map (some m))) (hm : ActsAt w m b) (hmb : Hid (m = b + 1)) (ha : a < S.size) (hS : S.size ≤ 65536) (hn : ts.length ≤ 100000) :
    Calls Tryz.prog 56 #[.pointer (some ⟨b, 0, none⟩)] w (TokOr 110 (oneT (restB S a)) (fun c => faulty c a) ts w b S a a (.map (some m))) := by
  have hlt := h.box.lt
  have HH := Lib.hid h
  have HST : Hid (∀ n, St 110 (w.drewN n) b S a a ts tv 0 (.map (some m))) := fun n => HH.out.under (drawn_below _ _)
  have hL := look_here S a ha
  have HM : Hid (∀ w1, Below w.heap.size w w1 → ActsAt w1 m b) := fun w1 hb => (hb.block m (Array.getElem?_eq_some_iff.1 hm).1).trans hm
  obtain ⟨c0, c1, c2, c3, c4, c5, f1, f2, f3, f4⟩ := id h.box
  clear h hm c1 c3 c4 c5 f1 f2 f3 f4
  have hai : (a : Int) < (S.size : Int) := by omega
  have ha0 : (0 : Int) ≤ (a : Int) := by omega
  have O1 := Lib.hid (@one_name (restB S a))
  have O2 := Lib.hid (@one_action (restB S a))
  have O3 := Lib.hid (@one_two (restB S a))
  have O4 := Lib.hid (@one_word (restB S a))
  have O5 := Lib.hid (@one_sign (restB S a))
  have O6 := Lib.hid (@one_none (restB S a))
  have HI := Lib.hid (fun ww => isLetter_any S[a] ww)
  have HG := Lib.hid (fun ww => isSign_any S[a] ww)
  have H1 := Lib.hid (take_one S a ha)
  have H2 := Lib.hid (two_take (restB S a))
  have HSW : Hid (∀ n, Calls Tryz.prog 80 #[.pointer (some ⟨b, 0, none⟩), .string ⟨#[37, 37]⟩] (w.drewN n) fun e w' => e = .returned (.bool ([37, 37].isPrefixOf (restB S a))) ∧ Below (w.drewN n).heap.size (w.drewN n) w') := fun n => startsWith_two (w.drewN n) (HST.out n).box (by omega)
  have HACT : Hid (lookB (restB S a) 0 = 123 → ∀ n, Calls Tryz.prog 88 #[.pointer (some ⟨b, 0, none⟩)] (w.drewN n) (TokOr 110 (actionT (restB S a)) (fun c => faulty c a) ts (w.drewN n) b S a a (.map (some m)))) := fun hc n => readAction_any ts _ (HST.out n) (HM.out _ (drawn_below _ _)) hmb ha hc hS hn
  rw [hL] at O1 O2 O3 O4 O5 O6 H1 HACT
  clear hL
  generalize hr : oneT (restB S a) = r at *
  clear hr
  have HBD : Hid (∀ n, Nigh b w (w.drewN n)) := fun n => nigh_of_below (drawn_below w n) b
  cases h1 : isLt S[a]
  · rw [h1] at HI
    cases h2 : (S[a] == 123)
    · have e2 : ((S[a].toNat : Int) == 123) = false := u8_ne (k := 123) (by decide) h2
      cases h3 : [37, 37].isPrefixOf (restB S a)
      · rw [h3] at HSW
        cases h4 : (S[a] == 37)
        · have e4 : ((S[a].toNat : Int) == 37) = false := u8_ne (k := 37) (by decide) h4
          cases h5 : isSg S[a]
          · rw [h5] at HG
            have HE := Lib.hid (O6.out h1 h2 h3 h4 h5)
            clear h1 h2 h3 h4 h5
            go_enter Tryz.func56, Tryz.ntmps56
            go_wp2_with fail
            go_quiet (fail)
            go_wp2_with (go_at_call 86; refine (HI.out _).mono ?_; rintro e w' ⟨rfl, rfl⟩)
            refine (HSW.out _).mono ?_
            rintro e w1 ⟨rfl, hb1⟩
            have HB1 := Lib.hid hb1
            clear hb1
            go_wp2_with (go_at_call 91; refine (HG.out _).mono ?_; rintro e w' ⟨rfl, rfl⟩)
            refine (refuse_any 100 w1 (((HST.out _).under HB1.out).box)).mono ?_
            rintro e w2 ⟨rfl, rfl⟩
            exact ⟨rfl, .inr ⟨100, HE.out, rfl, (HBD.out _).trans (nigh_of_below HB1.out b)⟩⟩
          · rw [h5] at HG
            have HE := Lib.hid (O5.out h1 h2 h3 h4 h5)
            clear h1 h2 h3 h4 h5
            go_enter Tryz.func56, Tryz.ntmps56
            go_wp2_with fail
            go_quiet (fail)
            go_wp2_with (go_at_call 86; refine (HI.out _).mono ?_; rintro e w' ⟨rfl, rfl⟩)
            refine (HSW.out _).mono ?_
            rintro e w1 ⟨rfl, hb1⟩
            have HB1 := Lib.hid hb1
            clear hb1
            go_wp2_with (go_at_call 91; refine (HG.out _).mono ?_; rintro e w' ⟨rfl, rfl⟩)
            refine (readSign_any 1 [S[a]] ts w1 ((HST.out _).under HB1.out) (by omega) H1.out hS hn).mono ?_
            rintro e w2 ⟨rfl, hs2, hb2⟩
            have HS2 := Lib.hid (And.intro hs2 hb2)
            clear hs2 hb2
            go_wp2_with fail
            go_end0
            exact .inl ⟨6, _, 1, HE.out, rfl, HS2.out.1, ((HBD.out _).trans (nigh_of_below HB1.out b)).trans HS2.out.2⟩
        · have e4 : ((S[a].toNat : Int) == 37) = true := u8_eq (k := 37) (by decide) h4
          have HE := Lib.hid (O4.out h1 h2 h3 h4)
          clear h1 h2 h3 h4
          go_enter Tryz.func56, Tryz.ntmps56
          go_wp2_with fail
          go_quiet (fail)
          go_wp2_with (go_at_call 86; refine (HI.out _).mono ?_; rintro e w' ⟨rfl, rfl⟩)
          refine (HSW.out _).mono ?_
          rintro e w1 ⟨rfl, hb1⟩
          have HB1 := Lib.hid hb1
          clear hb1
          go_wp2_with fail
          refine (readWord_any ts w1 ((HST.out _).under HB1.out) ha hS hn).mono ?_
          intro e w2 h2
          have H2 := Lib.hid (tokOr_go h2 ((HBD.out _).trans (nigh_of_below HB1.out b)))
          clear h2
          rcases H2.out with ⟨k, t, n, q1, rfl, q3, q4⟩ | ⟨cc, q1, rfl, q3⟩
          · clear q1 q3 q4
            go_wp2_with fail
            go_end0
            rw [HE.out]
            exact H2.out
          · exact ⟨rfl, by rw [HE.out]; exact H2.out⟩
      · rw [h3] at HSW
        have HE := Lib.hid (O3.out h1 h2 h3)
        have hq := H2.out h3
        rw [rest_len] at hq
        have HQ := Lib.hid hq.1
        have hq2 := hq.2
        clear h1 h2 h3 hq
        go_enter Tryz.func56, Tryz.ntmps56
        go_wp2_with fail
        go_quiet (fail)
        go_wp2_with (go_at_call 86; refine (HI.out _).mono ?_; rintro e w' ⟨rfl, rfl⟩)
        refine (HSW.out _).mono ?_
        rintro e w1 ⟨rfl, hb1⟩
        have HB1 := Lib.hid hb1
        clear hb1
        go_wp2_with fail
        refine (readSign_any 2 [37, 37] ts w1 ((HST.out _).under HB1.out) (by omega) HQ.out hS hn).mono ?_
        rintro e w2 ⟨rfl, hs2, hb2⟩
        have HS2 := Lib.hid (And.intro hs2 hb2)
        clear hs2 hb2
        go_wp2_with fail
        go_end0
        exact .inl ⟨6, _, 2, HE.out, rfl, HS2.out.1, ((HBD.out _).trans (nigh_of_below HB1.out b)).trans HS2.out.2⟩
    · have e2 : ((S[a].toNat : Int) == 123) = true := u8_eq (k := 123) (by decide) h2
      have HE := Lib.hid (O2.out h1 h2)
      have HAC := Lib.hid (HACT.out (by simpa using h2))
      clear h1 h2
      go_enter Tryz.func56, Tryz.ntmps56
      go_wp2_with fail
      go_quiet (fail)
      go_wp2_with (go_at_call 86; refine (HI.out _).mono ?_; rintro e w' ⟨rfl, rfl⟩)
      refine (HAC.out _).mono ?_
      intro e w2 h2
      have H2 := Lib.hid (tokOr_go h2 (HBD.out _))
      clear h2
      rcases H2.out with ⟨k, t, n, q1, rfl, q3, q4⟩ | ⟨cc, q1, rfl, q3⟩
      · clear q1 q3 q4
        go_wp2_with fail
        go_end0
        rw [HE.out]
        exact H2.out
      · exact ⟨rfl, by rw [HE.out]; exact H2.out⟩
  · rw [h1] at HI
    have HE := Lib.hid (O1.out h1)
    clear h1
    go_enter Tryz.func56, Tryz.ntmps56
    go_wp2_with fail
    go_quiet (fail)
    go_wp2_with (go_at_call 86; refine (HI.out _).mono ?_; rintro e w' ⟨rfl, rfl⟩)
    refine (readName_any ts _ (HST.out _) (by omega) hS hn).mono ?_
    intro e w2 h2
    have H2 := Lib.hid (tokOr_go h2 (HBD.out _))
    clear h2
    rcases H2.out with ⟨k, t, n, q1, rfl, q3, q4⟩ | ⟨cc, q1, rfl, q3⟩
    · clear q1 q3 q4
      go_wp2_with fail
      go_end0
      rw [HE.out]
      exact H2.out
    · exact ⟨rfl, by rw [HE.out]; exact H2.out⟩
set_option maxHeartbeats 2000000 in
theorem readAll_any (w : World) (h : St 110 w b S 0 0 [] tv 0 (.map (some m))) (hm : ActsAt w m b) (hmb : Hid (m = b + 1)) (hS : S.size ≤ 65536) :
    Calls Tryz.prog 33 #[.pointer (some ⟨b, 0, none⟩)] w (AllOr 110 (goT (S.size + 1) S.data.toList 0 []) (fun c q => faulty c q) w b S (.map (some m))) := by
  have hlt := h.box.lt
  have HM := Lib.hid hm
  have hmw : m < w.heap.size := (Array.getElem?_eq_some_iff.1 hm).1
  generalize hR : goT (S.size + 1) S.data.toList 0 [] = R
  have HR0 : Hid (Run 110 R w w b S 0 [] (.map (some m))) := ⟨⟨_, _, h⟩, Nigh.refl _ _, by omega, by simp, S.size + 1, by omega, hR⟩
  clear h hm hR
  go_enter Tryz.func33, Tryz.ntmps33
  go_wp2_with fail
  go_loopg [2] (S.size + 1) (fun g v2 wr => ∃ (p : Nat) (ts : List Tok), g = S.size + 1 - p ∧ Run 110 R w wr b S p ts (.map (some m)))
  case atStart => exact ⟨0, [], rfl, HR0.out⟩
  case round =>
    obtain ⟨p, ts, hgk, hrun⟩ := hrel
    obtain ⟨⟨fr, tv', hst⟩, hbel, hle, hlen, f, hf, hgo⟩ := hrun
    have HGK := Lib.hid hgk
    have HST := Lib.hid hst
    have HBE := Lib.hid hbel
    have HGO := Lib.hid hgo
    have HPW : Hid (ActsAt wr m b) := (hbel.block m hmw (by have := hmb.out; omega) (by have := hmb.out; omega)).trans HM.out
    clear hgk hst hbel hgo HR0
    obtain ⟨f, rfl⟩ : ∃ m, f = m + 1 := ⟨f - 1, by omega⟩
    have hsk := skip_le (restB S p)
    rw [rest_len] at hsk
    have HG := Lib.hid (goesOn_any wr HST.out.box hle hS)
    obtain ⟨k, hk⟩ : ∃ k, skipB (restB S p) = k := ⟨_, rfl⟩
    rw [hk] at HG hsk
    have HK := Lib.hid hk
    clear hk
    obtain ⟨q, hq⟩ : ∃ q, p + k = q := ⟨_, rfl⟩
    rw [hq] at HG
    have hqS : q ≤ S.size := by omega
    have hpq : p ≤ q := by omega
    have HQ := Lib.hid hq
    clear hq hsk
    by_cases hfin : q = S.size
    · have HE : Hid (R = .ok (ts ++ [⟨7, [], q⟩])) := by
        show _ = _
        rw [← HGO.out, go_fin HK.out (by rw [HQ.out]; exact hfin), HQ.out]
      rw [show decide (q = S.size) = true from by simp [hfin]] at HG
      clear hfin
      go_wp2_with fail
      refine HG.out.mono ?_
      rintro e w1 ⟨rfl, hb1, hg1⟩
      have HB := Lib.hid (And.intro hb1 hg1)
      clear hb1 hg1
      go_wp2_with fail
      refine (put_any 7 [] ts w1 (HST.out.keep HB.out.1 HB.out.2) (by omega)).mono ?_
      rintro e w3 ⟨rfl, ⟨tv3, hs3⟩, hb3⟩
      have HS3 := Lib.hid (And.intro hs3 hb3)
      clear hs3 hb3
      go_wp2_with fail
      go_end0
      refine .inl ⟨_, HE.out, rfl, by simp; omega, ⟨_, _, _, HS3.out.1⟩, (HBE.out.trans (nigh_of_grown HB.out.2)).trans HS3.out.2⟩
    · have hq2 : q < S.size := by omega
      rw [show decide (q = S.size) = false from by simp [hfin]] at HG
      clear hfin
      have HT : Hid (∀ kd t n, oneT (restB S q) = .ok (kd, t, n) → goT f (restB S (q + n)) (q + n) (ts ++ [⟨kd, t, q⟩]) = R) := fun kd t n ho => by
        have := go_tok (f := f) (ts := ts) HK.out (by rw [HQ.out]; exact hq2) (by rw [HQ.out]; exact ho)
        rw [HQ.out] at this
        rw [← this]; exact HGO.out
      have HX : Hid (∀ c, oneT (restB S q) = .error c → R = .error (c, q)) := fun c ho => by
        have := go_bad (f := f) (ts := ts) HK.out (by rw [HQ.out]; exact hq2) (by rw [HQ.out]; exact ho)
        rw [HQ.out] at this
        rw [← HGO.out]; exact this
      go_wp2_with fail
      refine HG.out.mono ?_
      rintro e w1 ⟨rfl, hb1, hg1⟩
      have HB := Lib.hid (And.intro hb1 hg1)
      clear hb1 hg1
      have hm1 : ActsAt w1 m b := (HB.out.2.block m (Nat.lt_of_lt_of_le hmw HBE.out.size) (by have := hmb.out; intro hh; injection hh; omega)).trans HPW.out
      have HM1 := Lib.hid hm1
      clear hm1
      go_wp2_with fail
      refine (readToken_any ts w1 (HST.out.keep HB.out.1 HB.out.2) HM1.out hmb hq2 hS (by omega)).mono ?_
      rintro e w3 (⟨kd, t, n, ho, rfl, ⟨tv3, hs3⟩, hb3⟩ | ⟨c, ho, rfl, hb3⟩)
      · have hn := told_one ho
        have hn1 := hn.pos
        have hn2 := hn.le
        rw [rest_len] at hn2
        have HRUN : Hid (Run 110 R w w3 b S (q + n) (ts ++ [⟨kd, t, q⟩]) (.map (some m))) := by
          refine ⟨⟨_, _, hs3⟩, (HBE.out.trans (nigh_of_grown HB.out.2)).trans hb3, by omega, by simp; omega, f, by omega, HT.out _ _ _ ho⟩
        clear ho hs3 hb3 hn
        go_wp2_with fail
        go_roundg (S.size + 1 - (q + n))
        case rel => exact ⟨q + n, _, rfl, HRUN.out⟩
        case measure => rw [HGK.out]; omega
      · exact ⟨rfl, .inr ⟨c, q, HX.out c ho, rfl, (HBE.out.trans (nigh_of_grown HB.out.2)).trans hb3⟩⟩
end Go.Proofs.YtngimijiafnheaaGreat
