/- A number's token. -/
import Derived.Test.YthhfgjcdopkmgaaGreatDoorScnS
set_option maxRecDepth 100000
namespace ScnT
open Go Go.RowKit
/-- A number as far as it goes: its digits t, those behind the point u. -/
structure NumK (S : ByteArray) (a : Nat) (t u : Bs) (k q : Nat) : Prop where
  res : numberT (restB S a) = if (lookB t 0 != 48 || t.length == 1) && (decide (t.length + u.length ≤ 40) && (!isLt (lookB (restB S q) 0) && lookB (restB S q) 0 != 46)) then .ok (k, (restB S a).take (q - a), q - a) else .error 101
  le : a ≤ q
  hi : q ≤ S.size
  kind : k = 3 ∨ k = 4
  short : u.length ≤ 65536
theorem num_int {S : ByteArray} {a : Nat} {t : Bs} (ht : (restB S a).takeWhile isDg = t) (hl : a + t.length ≤ S.size) (h : (lookB (restB S (a + t.length)) 0 == 46 && isDg (lookB (restB S (a + t.length)) 1)) = false) : NumK S a t [] 3 (a + t.length) := by
  refine ⟨?_, by omega, hl, .inl rfl, by simp⟩
  unfold numberT
  simp only [ht, drop_rest, h, Bool.false_eq_true, if_false, List.length_nil, Nat.add_zero]
  have e : a + t.length - a = t.length := by omega
  rw [e]
theorem num_float {S : ByteArray} {a : Nat} {t u : Bs} (ht : (restB S a).takeWhile isDg = t) (hu : (restB S (a + t.length + 1)).takeWhile isDg = u) (hl : a + t.length + 1 + u.length ≤ S.size) (hS : S.size ≤ 65536) (h : (lookB (restB S (a + t.length)) 0 == 46 && isDg (lookB (restB S (a + t.length)) 1)) = true) : NumK S a t u 4 (a + t.length + 1 + u.length) := by
  refine ⟨?_, by omega, hl, .inr rfl, by omega⟩
  unfold numberT
  simp only [ht, drop_rest, h, if_true, hu]
  have e : a + t.length + 1 + u.length - a = t.length + 1 + u.length := by omega
  have e2 : a + (t.length + 1 + u.length) = a + t.length + 1 + u.length := by omega
  rw [e, e2]
theorem pass_len (S : ByteArray) (a : Nat) (p : UInt8 → Bool) (ha : a ≤ S.size) : a + ((restB S a).takeWhile p).length ≤ S.size := by
  have h1 := (List.takeWhile_sublist p (l := restB S a)).length_le
  rw [rest_len] at h1
  omega
end ScnT
namespace Go.Proofs.YthhfgjcdopkmgaaGreatDoor
open Go.Instr Go.RowKit ScnT
set_option linter.unusedVariables false
variable {b a : Nat} {S : ByteArray} {tv pm : Value}
def NumMid (w : World) (b : Nat) (S : ByteArray) (a : Nat) (t : Bs) (tv pm v2 v4 : Value) (wr : World) : Prop :=
  ∃ (k q : Nat) (u : Bs), v2 = .int .u8 (k : Int) ∧ v4 = .string (mkS u) ∧ NumK S a t u k q ∧ Box wr b S a q tv pm ∧ w.grownBy wr (some b)
set_option maxHeartbeats 4000000 in
theorem readNumber_any (ts : List Tok) (w : World) (h : St 67 w b S a a ts tv pm) (hd : isDg (lookB (restB S a) 0) = true) (ha : a < S.size) (hS : S.size ≤ 65536) (hn : ts.length ≤ 100000) :
    Calls Tryz.prog 115 #[.pointer (some ⟨b, 0, none⟩)] w (TokOr 67 (numberT (restB S a)) (fun c => faulty c a) ts w b S a a pm) := by
  have hlt := h.box.lt
  have HH := Lib.hid h
  have hP := pass_digit w h.box (by omega) (by omega)
  unfold PassPost at hP
  have hl := pass_len S a isDg (by omega)
  have ht0 : 0 < ((restB S a).takeWhile isDg).length := by
    rw [rest_get S a ha] at hd ⊢
    have : isDg S[a] = true := hd
    rw [List.takeWhile_cons, if_pos this]
    simp
  clear h hd
  generalize hr : numberT (restB S a) = r
  have HR := Lib.hid hr
  clear hr
  generalize ht : (restB S a).takeWhile isDg = t at *
  have HT := Lib.hid ht
  obtain ⟨s, hs⟩ : ∃ s, mkS t = s := ⟨_, rfl⟩
  have hsz : s.size = t.length := by rw [← hs]; simp
  have hs0 : 0 < s.size := by omega
  have HZ : Hid (lookB t 0 = s[0]) := mk_zero hs hs0
  rw [hs] at hP
  have HP := Lib.hid hP
  have HSZ := Lib.hid hsz
  have hsb : s.size ≤ 65536 := by omega
  have HLEN := Lib.hid hl
  clear ht hs hP hsz hl ht0
  go_enter Tryz.func115, Tryz.ntmps115
  go_wp2_with fail
  refine HP.out.mono ?_
  rintro e w1 ⟨rfl, hb1, hg1⟩
  have HB := Lib.hid (And.intro hb1 hg1)
  clear hb1 hg1
  go_upto_region 2 with fail
  go_cut [20] (fun v20 wr => v20 = .bool (lookB (restB S (a + t.length)) 0 == 46 && isDg (lookB (restB S (a + t.length)) 1)) ∧ Box wr b S a (a + t.length) tv pm ∧ w.grownBy wr (some b))
  case first =>
    have HL0 := Lib.hid (look_any 0 w1 HB.out.1 (by have := HLEN.out; omega) (by omega) (by omega))
    cases h46 : (lookB (restB S (a + t.length)) 0 == 46)
    · have e46 : (((lookB (restB S (a + t.length)) 0).toNat : Int) == 46) = false := u8_ne (k := 46) (by decide) h46
      have HQ := Lib.hid h46
      clear h46
      go_wp2_with fail
      refine HL0.out.mono ?_
      rintro e w2 ⟨rfl, hb2⟩
      have HB2 := Lib.hid hb2
      clear hb2
      go_wp2_with fail
      go_meet
      exact ⟨by rw [HQ.out]; rfl, HB.out.1.under HB2.out HB.out.1.lt, grown_trans HB.out.2 (grown_below HB2.out _)⟩
    · have e46 : (((lookB (restB S (a + t.length)) 0).toNat : Int) == 46) = true := u8_eq (k := 46) (by decide) h46
      have HL1 : Hid (∀ w2, Box w2 b S a (a + t.length) tv pm → Calls Tryz.prog 48 #[.pointer (some ⟨b, 0, none⟩), .int .i64 1] w2 fun e w' => e = .returned (.int .u8 (lookB (restB S (a + t.length)) 1).toNat) ∧ Below w2.heap.size w2 w') := fun w2 hb => look_any 1 w2 hb (by have := HLEN.out; omega) (by omega) (by omega)
      have HD := Lib.hid (fun ww => isDigit_any (lookB (restB S (a + t.length)) 1) ww)
      generalize isDg (lookB (restB S (a + t.length)) 1) = dgb at *
      have HQ := Lib.hid h46
      clear h46
      go_wp2_with fail
      refine HL0.out.mono ?_
      rintro e w2 ⟨rfl, hb2⟩
      have HB2 := Lib.hid hb2
      clear hb2
      go_wp2_with fail
      have HBX := Lib.hid (HB.out.1.under HB2.out HB.out.1.lt)
      refine (HL1.out w2 HBX.out).mono ?_
      rintro e w3 ⟨rfl, hb3⟩
      have HB3 := Lib.hid hb3
      clear hb3
      go_wp2_with (go_at_call 114; refine (HD.out _).mono ?_; rintro e w' ⟨rfl, rfl⟩)
      go_meet
      exact ⟨by rw [HQ.out]; rfl, HBX.out.under HB3.out HBX.out.lt, grown_trans (grown_trans HB.out.2 (grown_below HB2.out _)) (grown_below HB3.out _)⟩
  case rest =>
  obtain ⟨rfl, hbp, hgp⟩ := hcut
  have HBP := Lib.hid (And.intro hbp hgp)
  have HN := Lib.hid (num_int HT.out HLEN.out)
  have HF := Lib.hid (fun u => @num_float S a t u HT.out)
  clear hbp hgp HB HP
  generalize wc = wp at *
  generalize hpp : (lookB (restB S (a + t.length)) 0 == 46 && isDg (lookB (restB S (a + t.length)) 1)) = p
  have HPP := Lib.hid hpp
  clear hpp
  go_upto_if 20 with fail
  go_cut [2, 4] (fun v2 v4 wr => NumMid w b S a t tv pm v2 v4 wr)
  case first =>
    cases p
    · go_wp2_with fail
      go_meet
      exact ⟨3, a + t.length, [], rfl, rfl, HN.out HPP.out, HBP.out.1, HBP.out.2⟩
    · have hle2 : a + t.length + 1 ≤ S.size := by
        apply Decidable.byContradiction
        intro hge
        have h1 : a + t.length = S.size := by have := HLEN.out; omega
        have h2 := HPP.out
        rw [h1, rest_nil S S.size (Nat.le_refl _)] at h2
        exact absurd h2 (by decide)
      have H46 := Lib.hid (HF.out _ rfl (pass_len S (a + t.length + 1) isDg hle2) hS HPP.out)
      go_wp2_with fail
      refine (step_1 wp HBP.out.1 (by omega)).mono ?_
      rintro e w4 ⟨rfl, hb4, hg4⟩
      have HB4 := Lib.hid (And.intro hb4 hg4)
      clear hb4 hg4
      go_wp2_with fail
      refine (pass_digit w4 HB4.out.1 (by omega) (by omega)).mono ?_
      rintro e w5 ⟨rfl, hb5, hg5⟩
      have HB5 := Lib.hid (And.intro hb5 hg5)
      clear hb5 hg5
      go_wp2_with fail
      go_meet
      exact ⟨4, _, _, rfl, rfl, H46.out, HB5.out.1, grown_trans (grown_trans HBP.out.2 HB4.out.2) HB5.out.2⟩
  case rest =>
    obtain ⟨k, q, u, rfl, rfl, hK, hbq, hgq⟩ := hcut
    have HBQ := Lib.hid (And.intro hbq hgq)
    have hKr := hK.res
    rw [HR.out] at hKr
    have HK := Lib.hid hK
    have hqS := hK.hi
    have haq := hK.le
    have hk8 : 1 ≤ k ∧ k ≤ 8 := by rcases hK.kind with h | h <;> omega
    have hus := hK.short
    clear hbq hgq hK
    obtain ⟨z, hz⟩ : ∃ z, mkS u = z := ⟨_, rfl⟩
    have hzz : z.size = u.length := by rw [← hz]; simp
    have hzb : z.size ≤ 65536 := by omega
    rw [hz]
    have HL : Hid (∀ w2, Box w2 b S a q tv pm → Calls Tryz.prog 48 #[.pointer (some ⟨b, 0, none⟩), .int .i64 0] w2 fun e w' => e = .returned (.int .u8 (lookB (restB S q) 0).toNat) ∧ Below w2.heap.size w2 w') := fun w2 hb => look_any 0 w2 hb (by omega) (by omega) (by omega)
    have HI := Lib.hid (fun ww => isLetter_any (lookB (restB S q) 0) ww)
    have HTK : Hid (∀ w2, Box w2 b S a q tv pm → Calls Tryz.prog 178 #[.pointer (some ⟨b, 0, none⟩)] w2 fun e w' => e = .returned (.string (mkS ((restB S a).take (q - a)))) ∧ Below w2.heap.size w2 w') := fun w2 hb => taken_any w2 hb haq hqS (by omega)
    have HPUT : Hid (∀ w2, St 67 w2 b S a q ts tv pm → Calls Tryz.prog 52 #[.pointer (some ⟨b, 0, none⟩), .int .u8 (k : Int), .string (mkS ((restB S a).take (q - a)))] w2 (PutPost k ((restB S a).take (q - a)) ts w2 b S a q pm)) := fun w2 h2 => put_any k _ ts w2 h2 (by omega) hk8
    have hg1 : Below b w wc := below_of_grownB HBQ.out.2 hlt
    have HG := Lib.hid hg1
    clear hg1
    generalize hTX : (restB S a).take (q - a) = tx at *
    clear hTX
    have hzs := HSZ.out
    rw [← hzz, ← hzs] at hKr
    rw [HZ.out] at hKr
    clear hzz hzs hz
    generalize wc = wq at *
    have hA : (((s[0].toNat : Int) != 48) = true ∧ (s[0] != 48 || s.size == 1) = true) ∨ (((s[0].toNat : Int) != 48) = false ∧ ((s.size : Int) == 1) = true ∧ (s[0] != 48 || s.size == 1) = true) ∨ (((s[0].toNat : Int) != 48) = false ∧ ((s.size : Int) == 1) = false ∧ (s[0] != 48 || s.size == 1) = false) := by
      cases h : (s[0] == 48)
      · have e : ((s[0].toNat : Int) == 48) = false := u8_ne (k := 48) (by decide) h
        exact .inl ⟨by rw [bne, e]; rfl, by rw [bne, h]; rfl⟩
      · have e : ((s[0].toNat : Int) == 48) = true := u8_eq (k := 48) (by decide) h
        by_cases h1 : s.size = 1
        · exact .inr (.inl ⟨by rw [bne, e]; rfl, by simp [h1], by simp [h1]⟩)
        · refine .inr (.inr ⟨by rw [bne, e]; rfl, by simp; omega, ?_⟩)
          rw [bne, h]
          simpa using h1
    by_cases m2 : s.size + z.size ≤ 40
    · have m2i : decide ((s.size : Int) + (z.size : Int) ≤ 40) = true := by simp; omega
      cases m3 : isLt (lookB (restB S q) 0)
      · rw [m3] at HI
        cases m4 : (lookB (restB S q) 0 == 46)
        · have e46' : (((lookB (restB S q) 0).toNat : Int) == 46) = false := u8_ne (k := 46) (by decide) m4
          have e46 : (((lookB (restB S q) 0).toNat : Int) != 46) = true := by rw [bne, e46']; rfl
          clear e46'
          rcases hA with ⟨g1, gg⟩ | ⟨g1, g2, gg⟩ | ⟨g1, g2, gg⟩
          · have hr' : r = .ok (k, tx, q - a) := by
              rw [hKr, if_pos]
              rw [gg, m3, bne, m4]
              simp [m2]
            have HR' := Lib.hid hr'
            clear hr' hKr gg m3 m4
            go_wp2_with fail
            refine (must_yes wq b).mono ?_
            rintro e w2 ⟨rfl, rfl⟩
            go_wp2_with fail
            refine (must_yes wq b).mono ?_
            rintro e w2 ⟨rfl, rfl⟩
            go_wp2_with fail
            refine (HL.out wq HBQ.out.1).mono ?_
            rintro e w3 ⟨rfl, hb3⟩
            have HB3 := Lib.hid hb3
            clear hb3
            have HBX := Lib.hid (HBQ.out.1.under HB3.out HBQ.out.1.lt)
            go_wp2_with (go_at_call 112; refine (HI.out _).mono ?_; rintro e w' ⟨rfl, rfl⟩)
            refine (HL.out w3 HBX.out).mono ?_
            rintro e w4 ⟨rfl, hb4⟩
            have HB4 := Lib.hid hb4
            clear hb4
            have HBY := Lib.hid (HBX.out.under HB4.out HBX.out.lt)
            go_wp2_with fail
            refine (must_yes w4 b).mono ?_
            rintro e w5 ⟨rfl, rfl⟩
            go_wp2_with fail
            refine (HTK.out w4 HBY.out).mono ?_
            rintro e w5 ⟨rfl, hb5⟩
            have HB5 := Lib.hid hb5
            clear hb5
            have HBZ := Lib.hid (HBY.out.under HB5.out HBY.out.lt)
            go_wp2_with fail
            have HGG : Hid (w.grownBy w5 (some b)) := grown_trans (grown_trans (grown_trans HBQ.out.2 (grown_below HB3.out _)) (grown_below HB4.out _)) (grown_below HB5.out _)
            refine (HPUT.out w5 (HH.out.keep HBZ.out HGG.out)).mono ?_
            rintro e w6 ⟨rfl, hs6, hb6⟩
            have HS6 := Lib.hid (And.intro hs6 hb6)
            clear hs6 hb6
            go_wp2_with fail
            go_end0
            refine .inl ⟨k, tx, q - a, HR'.out, rfl, ?_, (below_of_grownB HGG.out hlt).trans HS6.out.2⟩
            have := HS6.out.1
            rwa [show a + (q - a) = q from by omega]
          · have hr' : r = .ok (k, tx, q - a) := by
              rw [hKr, if_pos]
              rw [gg, m3, bne, m4]
              simp [m2]
            have HR' := Lib.hid hr'
            clear hr' hKr gg m3 m4
            go_wp2_with fail
            refine (must_yes wq b).mono ?_
            rintro e w2 ⟨rfl, rfl⟩
            go_wp2_with fail
            refine (must_yes wq b).mono ?_
            rintro e w2 ⟨rfl, rfl⟩
            go_wp2_with fail
            refine (HL.out wq HBQ.out.1).mono ?_
            rintro e w3 ⟨rfl, hb3⟩
            have HB3 := Lib.hid hb3
            clear hb3
            have HBX := Lib.hid (HBQ.out.1.under HB3.out HBQ.out.1.lt)
            go_wp2_with (go_at_call 112; refine (HI.out _).mono ?_; rintro e w' ⟨rfl, rfl⟩)
            refine (HL.out w3 HBX.out).mono ?_
            rintro e w4 ⟨rfl, hb4⟩
            have HB4 := Lib.hid hb4
            clear hb4
            have HBY := Lib.hid (HBX.out.under HB4.out HBX.out.lt)
            go_wp2_with fail
            refine (must_yes w4 b).mono ?_
            rintro e w5 ⟨rfl, rfl⟩
            go_wp2_with fail
            refine (HTK.out w4 HBY.out).mono ?_
            rintro e w5 ⟨rfl, hb5⟩
            have HB5 := Lib.hid hb5
            clear hb5
            have HBZ := Lib.hid (HBY.out.under HB5.out HBY.out.lt)
            go_wp2_with fail
            have HGG : Hid (w.grownBy w5 (some b)) := grown_trans (grown_trans (grown_trans HBQ.out.2 (grown_below HB3.out _)) (grown_below HB4.out _)) (grown_below HB5.out _)
            refine (HPUT.out w5 (HH.out.keep HBZ.out HGG.out)).mono ?_
            rintro e w6 ⟨rfl, hs6, hb6⟩
            have HS6 := Lib.hid (And.intro hs6 hb6)
            clear hs6 hb6
            go_wp2_with fail
            go_end0
            refine .inl ⟨k, tx, q - a, HR'.out, rfl, ?_, (below_of_grownB HGG.out hlt).trans HS6.out.2⟩
            have := HS6.out.1
            rwa [show a + (q - a) = q from by omega]
          · have hr' : r = .error 101 := by
              rw [hKr, if_neg]
              rw [gg]
              simp
            have HR' := Lib.hid hr'
            clear hr' hKr gg
            go_wp2_with fail
            refine (must_no wq HBQ.out.1).mono ?_
            rintro e w9 ⟨rfl, rfl⟩
            exact ⟨rfl, .inr ⟨101, HR'.out, rfl, below_of_grownB (HBQ.out.2) hlt⟩⟩
        · have e46' : (((lookB (restB S q) 0).toNat : Int) == 46) = true := u8_eq (k := 46) (by decide) m4
          have e46 : (((lookB (restB S q) 0).toNat : Int) != 46) = false := by rw [bne, e46']; rfl
          clear e46'
          rcases hA with ⟨g1, gg⟩ | ⟨g1, g2, gg⟩ | ⟨g1, g2, gg⟩
          · have hr' : r = .error 101 := by
              rw [hKr, if_neg]
              rw [show (lookB (restB S q) 0 != 46) = false from by rw [bne, m4]; rfl]
              simp
            have HR' := Lib.hid hr'
            clear hr' hKr gg
            go_wp2_with fail
            refine (must_yes wq b).mono ?_
            rintro e w2 ⟨rfl, rfl⟩
            go_wp2_with fail
            refine (must_yes wq b).mono ?_
            rintro e w2 ⟨rfl, rfl⟩
            go_wp2_with fail
            refine (HL.out wq HBQ.out.1).mono ?_
            rintro e w3 ⟨rfl, hb3⟩
            have HB3 := Lib.hid hb3
            clear hb3
            have HBX := Lib.hid (HBQ.out.1.under HB3.out HBQ.out.1.lt)
            go_wp2_with (go_at_call 112; refine (HI.out _).mono ?_; rintro e w' ⟨rfl, rfl⟩)
            refine (HL.out w3 HBX.out).mono ?_
            rintro e w4 ⟨rfl, hb4⟩
            have HB4 := Lib.hid hb4
            clear hb4
            have HBY := Lib.hid (HBX.out.under HB4.out HBX.out.lt)
            go_wp2_with fail
            refine (must_no w4 HBY.out).mono ?_
            rintro e w9 ⟨rfl, rfl⟩
            exact ⟨rfl, .inr ⟨101, HR'.out, rfl, below_of_grownB (grown_trans (grown_trans HBQ.out.2 (grown_below HB3.out _)) (grown_below HB4.out _)) hlt⟩⟩
          · have hr' : r = .error 101 := by
              rw [hKr, if_neg]
              rw [show (lookB (restB S q) 0 != 46) = false from by rw [bne, m4]; rfl]
              simp
            have HR' := Lib.hid hr'
            clear hr' hKr gg
            go_wp2_with fail
            refine (must_yes wq b).mono ?_
            rintro e w2 ⟨rfl, rfl⟩
            go_wp2_with fail
            refine (must_yes wq b).mono ?_
            rintro e w2 ⟨rfl, rfl⟩
            go_wp2_with fail
            refine (HL.out wq HBQ.out.1).mono ?_
            rintro e w3 ⟨rfl, hb3⟩
            have HB3 := Lib.hid hb3
            clear hb3
            have HBX := Lib.hid (HBQ.out.1.under HB3.out HBQ.out.1.lt)
            go_wp2_with (go_at_call 112; refine (HI.out _).mono ?_; rintro e w' ⟨rfl, rfl⟩)
            refine (HL.out w3 HBX.out).mono ?_
            rintro e w4 ⟨rfl, hb4⟩
            have HB4 := Lib.hid hb4
            clear hb4
            have HBY := Lib.hid (HBX.out.under HB4.out HBX.out.lt)
            go_wp2_with fail
            refine (must_no w4 HBY.out).mono ?_
            rintro e w9 ⟨rfl, rfl⟩
            exact ⟨rfl, .inr ⟨101, HR'.out, rfl, below_of_grownB (grown_trans (grown_trans HBQ.out.2 (grown_below HB3.out _)) (grown_below HB4.out _)) hlt⟩⟩
          · have hr' : r = .error 101 := by
              rw [hKr, if_neg]
              rw [gg]
              simp
            have HR' := Lib.hid hr'
            clear hr' hKr gg
            go_wp2_with fail
            refine (must_no wq HBQ.out.1).mono ?_
            rintro e w9 ⟨rfl, rfl⟩
            exact ⟨rfl, .inr ⟨101, HR'.out, rfl, below_of_grownB (HBQ.out.2) hlt⟩⟩
      · rw [m3] at HI
        rcases hA with ⟨g1, gg⟩ | ⟨g1, g2, gg⟩ | ⟨g1, g2, gg⟩
        · have hr' : r = .error 101 := by
            rw [hKr, if_neg]
            rw [m3]
            simp
          have HR' := Lib.hid hr'
          clear hr' hKr gg
          go_wp2_with fail
          refine (must_yes wq b).mono ?_
          rintro e w2 ⟨rfl, rfl⟩
          go_wp2_with fail
          refine (must_yes wq b).mono ?_
          rintro e w2 ⟨rfl, rfl⟩
          go_wp2_with fail
          refine (HL.out wq HBQ.out.1).mono ?_
          rintro e w3 ⟨rfl, hb3⟩
          have HB3 := Lib.hid hb3
          clear hb3
          have HBX := Lib.hid (HBQ.out.1.under HB3.out HBQ.out.1.lt)
          go_wp2_with (go_at_call 112; refine (HI.out _).mono ?_; rintro e w' ⟨rfl, rfl⟩)
          refine (must_no w3 HBX.out).mono ?_
          rintro e w9 ⟨rfl, rfl⟩
          exact ⟨rfl, .inr ⟨101, HR'.out, rfl, below_of_grownB (grown_trans HBQ.out.2 (grown_below HB3.out _)) hlt⟩⟩
        · have hr' : r = .error 101 := by
            rw [hKr, if_neg]
            rw [m3]
            simp
          have HR' := Lib.hid hr'
          clear hr' hKr gg
          go_wp2_with fail
          refine (must_yes wq b).mono ?_
          rintro e w2 ⟨rfl, rfl⟩
          go_wp2_with fail
          refine (must_yes wq b).mono ?_
          rintro e w2 ⟨rfl, rfl⟩
          go_wp2_with fail
          refine (HL.out wq HBQ.out.1).mono ?_
          rintro e w3 ⟨rfl, hb3⟩
          have HB3 := Lib.hid hb3
          clear hb3
          have HBX := Lib.hid (HBQ.out.1.under HB3.out HBQ.out.1.lt)
          go_wp2_with (go_at_call 112; refine (HI.out _).mono ?_; rintro e w' ⟨rfl, rfl⟩)
          refine (must_no w3 HBX.out).mono ?_
          rintro e w9 ⟨rfl, rfl⟩
          exact ⟨rfl, .inr ⟨101, HR'.out, rfl, below_of_grownB (grown_trans HBQ.out.2 (grown_below HB3.out _)) hlt⟩⟩
        · have hr' : r = .error 101 := by
            rw [hKr, if_neg]
            rw [gg]
            simp
          have HR' := Lib.hid hr'
          clear hr' hKr gg
          go_wp2_with fail
          refine (must_no wq HBQ.out.1).mono ?_
          rintro e w9 ⟨rfl, rfl⟩
          exact ⟨rfl, .inr ⟨101, HR'.out, rfl, below_of_grownB (HBQ.out.2) hlt⟩⟩
    · have m2' : decide ((s.size : Int) + (z.size : Int) ≤ 40) = false := by simp; omega
      rcases hA with ⟨g1, gg⟩ | ⟨g1, g2, gg⟩ | ⟨g1, g2, gg⟩
      · have hr' : r = .error 101 := by
          rw [hKr, if_neg]
          simp [m2]
        have HR' := Lib.hid hr'
        clear hr' hKr gg
        go_wp2_with fail
        refine (must_yes wq b).mono ?_
        rintro e w2 ⟨rfl, rfl⟩
        go_wp2_with fail
        refine (must_no wq HBQ.out.1).mono ?_
        rintro e w9 ⟨rfl, rfl⟩
        exact ⟨rfl, .inr ⟨101, HR'.out, rfl, below_of_grownB (HBQ.out.2) hlt⟩⟩
      · have hr' : r = .error 101 := by
          rw [hKr, if_neg]
          simp [m2]
        have HR' := Lib.hid hr'
        clear hr' hKr gg
        go_wp2_with fail
        refine (must_yes wq b).mono ?_
        rintro e w2 ⟨rfl, rfl⟩
        go_wp2_with fail
        refine (must_no wq HBQ.out.1).mono ?_
        rintro e w9 ⟨rfl, rfl⟩
        exact ⟨rfl, .inr ⟨101, HR'.out, rfl, below_of_grownB (HBQ.out.2) hlt⟩⟩
      · have hr' : r = .error 101 := by
          rw [hKr, if_neg]
          rw [gg]
          simp
        have HR' := Lib.hid hr'
        clear hr' hKr gg
        go_wp2_with fail
        refine (must_no wq HBQ.out.1).mono ?_
        rintro e w9 ⟨rfl, rfl⟩
        exact ⟨rfl, .inr ⟨101, HR'.out, rfl, below_of_grownB (HBQ.out.2) hlt⟩⟩
end Go.Proofs.YthhfgjcdopkmgaaGreatDoor
