/- A dollar's token. -/
import Derived.Test.YthhfgjcdopkmgaaGreatDoorScnQ
set_option maxRecDepth 100000
namespace ScnT
open Go Go.RowKit
theorem drop_rest (S : ByteArray) (a n : Nat) : (restB S a).drop n = restB S (a + n) := by unfold restB; rw [List.drop_drop]
theorem dollar_two {S : ByteArray} {a : Nat} (h : (lookB (restB S (a + 1)) 0 == 36) = true) : dollarT (restB S a) = .ok (8, [36], 2) := by
  unfold dollarT
  rw [look_rest S a 1, if_pos h]
theorem dollar_digits {S : ByteArray} {a : Nat} {t : Bs} (h : (lookB (restB S (a + 1)) 0 == 36) = false) (ht : (restB S (a + 1)).takeWhile isDg = t) (h1 : t ≠ []) (h2 : t.length ≤ 2) (h3 : lookB t 0 ≠ 48) (h4 : isLt (lookB (restB S (a + 1 + t.length)) 0) = false) : dollarT (restB S a) = .ok (8, t, 1 + t.length) := by
  unfold dollarT
  rw [look_rest S a 1, if_neg (by rw [h]; decide), drop_rest S a 1]
  simp only [ht]
  have e : (restB S a).drop (1 + t.length) = restB S (a + 1 + t.length) := by rw [drop_rest]; congr 1; omega
  rw [e, h4, if_pos]
  simp [h1, h2, h3]
theorem dollar_none {S : ByteArray} {a : Nat} {t : Bs} (h : (lookB (restB S (a + 1)) 0 == 36) = false) (ht : (restB S (a + 1)).takeWhile isDg = t) (h1 : t = [] ∨ 2 < t.length ∨ lookB t 0 = 48 ∨ isLt (lookB (restB S (a + 1 + t.length)) 0) = true) : dollarT (restB S a) = .error 101 := by
  unfold dollarT
  rw [look_rest S a 1, if_neg (by rw [h]; decide), drop_rest S a 1]
  simp only [ht]
  have e : (restB S a).drop (1 + t.length) = restB S (a + 1 + t.length) := by rw [drop_rest]; congr 1; omega
  rw [e, if_neg]
  rcases h1 with h1 | h1 | h1 | h1
  · simp [h1]
  · have : ¬ t.length ≤ 2 := by omega
    simp [this]
  · simp [h1]
  · simp [h1]
theorem u8_ne {c : UInt8} {k : Nat} (hk : k < 256) (h : (c == UInt8.ofNat k) = false) : ((c.toNat : Int) == (k : Int)) = false := by
  have e : (UInt8.ofNat k).toNat = k := by rw [UInt8.toNat_ofNat']; omega
  rw [← Bool.not_eq_true, beq_iff_eq]
  intro hh
  have : c = UInt8.ofNat k := UInt8.toNat_inj.1 (by rw [e]; omega)
  rw [this] at h
  simp at h
theorem u8_eq {c : UInt8} {k : Nat} (hk : k < 256) (h : (c == UInt8.ofNat k) = true) : ((c.toNat : Int) == (k : Int)) = true := by
  have e : (UInt8.ofNat k).toNat = k := by rw [UInt8.toNat_ofNat']; omega
  rw [beq_iff_eq] at h
  rw [h, e]
  simp
theorem mk_zero {t : Bs} {s : ByteArray} (hs : mkS t = s) (h : 0 < s.size) : lookB t 0 = s[0] := by
  subst hs
  unfold lookB
  rw [List.getD_eq_getElem?_getD, List.getElem?_eq_getElem (by simpa using h)]
  simp [mkS, ByteArray.getElem_eq_getElem_data]
end ScnT
namespace Go.Proofs.YthhfgjcdopkmgaaGreatDoor
open Go.Instr Go.RowKit ScnT
set_option linter.unusedVariables false
variable {b fr a : Nat} {S : ByteArray} {tv pm : Value}
set_option maxHeartbeats 4000000 in
theorem readDollar_any (ts : List Tok) (w : World) (h : St 67 w b S fr a ts tv pm) (ha : a < S.size) (hS : S.size ≤ 65536) (hn : ts.length ≤ 100000) :
    Calls Tryz.prog 117 #[.pointer (some ⟨b, 0, none⟩)] w (TokOr 67 (dollarT (restB S a)) (fun c => faulty c fr) ts w b S fr a pm) := by
  have hlt := h.box.lt
  have H1 := Lib.hid (step_1 w h.box (by omega))
  have HL : Hid (∀ w1, Box w1 b S fr (a + 1) tv pm → Calls Tryz.prog 48 #[.pointer (some ⟨b, 0, none⟩), .int .i64 0] w1 fun e w' => e = .returned (.int .u8 (lookB (restB S (a + 1)) 0).toNat) ∧ Below w1.heap.size w1 w') := fun w1 hb => look_any 0 w1 hb (by omega) (by omega) (by omega)
  have HH := Lib.hid h
  clear h
  cases h36 : (lookB (restB S (a + 1)) 0 == 36)
  · have e36 : (((lookB (restB S (a + 1)) 0).toNat : Int) == 36) = false := u8_ne (k := 36) (by decide) h36
    have HT := Lib.hid (fun t => @dollar_digits S a t h36)
    have HN := Lib.hid (fun t => @dollar_none S a t h36)
    clear h36
    have HP : Hid (∀ w1, Box w1 b S fr (a + 1) tv pm → Calls Tryz.prog 105 #[.pointer (some ⟨b, 0, none⟩), .func (.func 114) #[] #[]] w1 (PassPost isDg w1 b S fr (a + 1) tv pm)) := fun w1 hb => pass_digit w1 hb (by omega) (by omega)
    unfold PassPost at HP
    have hls : a + 1 + ((restB S (a + 1)).takeWhile isDg).length ≤ S.size := by
      have h1 := (List.takeWhile_sublist isDg (l := restB S (a + 1))).length_le
      rw [rest_len] at h1
      omega
    generalize ht : (restB S (a + 1)).takeWhile isDg = t at *
    generalize lookB (restB S (a + 1)) 0 = c at *
    have HT' := Lib.hid (HT.out t rfl)
    have HN' := Lib.hid (HN.out t rfl)
    clear HT HN ht
    obtain ⟨s, hs⟩ : ∃ s, mkS t = s := ⟨_, rfl⟩
    have hsl : s.toList = t := by rw [← hs]; exact mkS_toList t
    have hsz : s.size = t.length := by rw [← hs]; simp
    have HZ : Hid (∀ h0 : 0 < s.size, lookB t 0 = s[0]) := fun h0 => mk_zero hs h0
    have HPUT : Hid (∀ (w1 : World), St 67 w1 b S fr (a + 1 + t.length) ts tv pm → Calls Tryz.prog 52 #[.pointer (some ⟨b, 0, none⟩), .int .u8 8, .string s] w1 (PutPost 8 t ts w1 b S fr (a + 1 + t.length) pm)) := by
      intro w1 h1
      rw [← hs]
      exact put_any 8 t ts w1 h1 (by omega) (by omega)
    have HL2 : Hid (∀ w1, Box w1 b S fr (a + 1 + t.length) tv pm → Calls Tryz.prog 48 #[.pointer (some ⟨b, 0, none⟩), .int .i64 0] w1 fun e w' => e = .returned (.int .u8 (lookB (restB S (a + 1 + t.length)) 0).toNat) ∧ Below w1.heap.size w1 w') := fun w1 hb => look_any 0 w1 hb (by omega) (by omega) (by omega)
    rw [hs] at HP
    have HSL := Lib.hid hsl
    have HSZ := Lib.hid hsz
    have hszb : s.size ≤ 65536 := by omega
    have hab : a + 1 + t.length ≤ 65536 := by omega
    clear hs hsl hsz hls
    by_cases h1 : t = []
    · have e1 : s.toList.isEmpty = true := by rw [HSL.out, h1]; rfl
      have e1' : s.toList = [] := by rw [HSL.out, h1]
      have E1 := Lib.hid h1
      clear h1
      go_enter Tryz.func117, Tryz.ntmps117
      go_wp2_with fail
      refine H1.out.mono ?_
      rintro e w1 ⟨rfl, hb1, hg1⟩
      have HB := Lib.hid (And.intro hb1 hg1)
      clear hb1 hg1
      go_wp2_with fail
      refine (HL.out w1 HB.out.1).mono ?_
      rintro e w2 ⟨rfl, hb2⟩
      have HB2 := Lib.hid hb2
      clear hb2
      go_wp2_with fail
      refine (HP.out w2 (HB.out.1.under HB2.out HB.out.1.lt)).mono ?_
      rintro e w3 ⟨rfl, hb3, hg3⟩
      have HB3 := Lib.hid (And.intro hb3 hg3)
      clear hb3 hg3
      go_wp2_with fail
      refine (must_no w3 HB3.out.1).mono ?_
      rintro e w4 ⟨rfl, rfl⟩
      exact ⟨rfl, .inr ⟨101, HN'.out (.inl E1.out), rfl, below_of_grownB (grown_trans (grown_trans HB.out.2 (grown_below HB2.out _)) HB3.out.2) hlt⟩⟩
    · have e1 : s.toList.isEmpty = false := by rw [HSL.out]; simpa using h1
      have e1' : ¬ s.toList = [] := by rw [HSL.out]; exact h1
      have h0 : 0 < s.size := by
        rw [HSZ.out]
        exact List.length_pos_iff.2 h1
      have E1 := Lib.hid h1
      clear h1
      by_cases h2 : s.size ≤ 2
      · have E2 : Hid (t.length ≤ 2) := by show _ ≤ _; rw [← HSZ.out]; exact h2
        cases h3 : (s[0] == 48)
        · have e3 : ((s[0].toNat : Int) == 48) = false := u8_ne (k := 48) (by decide) h3
          have E3 : Hid (lookB t 0 ≠ 48) := by
            show _ ≠ _
            rw [HZ.out h0]
            intro hh
            rw [hh] at h3
            exact absurd h3 (by decide)
          have e3' : ((s[0].toNat : Int) != 48) = true := by rw [bne, e3]; rfl
          clear h3 e3
          have HI := Lib.hid (fun ww => isLetter_any (lookB (restB S (a + 1 + t.length)) 0) ww)
          cases h4 : isLt (lookB (restB S (a + 1 + t.length)) 0)
          · rw [h4] at HI
            have E4 := Lib.hid h4
            clear h4
            go_enter Tryz.func117, Tryz.ntmps117
            go_wp2_with fail
            refine H1.out.mono ?_
            rintro e w1 ⟨rfl, hb1, hg1⟩
            have HB := Lib.hid (And.intro hb1 hg1)
            clear hb1 hg1
            go_wp2_with fail
            refine (HL.out w1 HB.out.1).mono ?_
            rintro e w2 ⟨rfl, hb2⟩
            have HB2 := Lib.hid hb2
            clear hb2
            go_wp2_with fail
            refine (HP.out w2 (HB.out.1.under HB2.out HB.out.1.lt)).mono ?_
            rintro e w3 ⟨rfl, hb3, hg3⟩
            have HB3 := Lib.hid (And.intro hb3 hg3)
            clear hb3 hg3
            go_wp2_with fail
            refine (must_yes w3 b).mono ?_
            rintro e w4 ⟨rfl, rfl⟩
            go_wp2_with fail
            refine (HL2.out w3 HB3.out.1).mono ?_
            rintro e w4 ⟨rfl, hb4⟩
            have HB4 := Lib.hid hb4
            clear hb4
            go_wp2_with (go_at_call 112; refine (HI.out _).mono ?_; rintro e w' ⟨rfl, rfl⟩)
            refine (must_yes w4 b).mono ?_
            rintro e w5 ⟨rfl, rfl⟩
            go_wp2_with fail
            have HG : Hid (w.grownBy w4 (some b)) := grown_trans (grown_trans (grown_trans HB.out.2 (grown_below HB2.out _)) HB3.out.2) (grown_below HB4.out _)
            refine (HPUT.out w4 (HH.out.keep (HB3.out.1.under HB4.out HB3.out.1.lt) HG.out)).mono ?_
            rintro e w5 ⟨rfl, hs5, hb5⟩
            have HS5 := Lib.hid (And.intro hs5 hb5)
            clear hs5 hb5
            go_wp2_with fail
            go_end0
            refine .inl ⟨8, t, 1 + t.length, HT'.out E1.out E2.out E3.out E4.out, rfl, ?_, (below_of_grownB HG.out hlt).trans HS5.out.2⟩
            have := HS5.out.1
            rwa [show a + (1 + t.length) = a + 1 + t.length from by omega]
          · rw [h4] at HI
            have E4 := Lib.hid h4
            clear h4
            go_enter Tryz.func117, Tryz.ntmps117
            go_wp2_with fail
            refine H1.out.mono ?_
            rintro e w1 ⟨rfl, hb1, hg1⟩
            have HB := Lib.hid (And.intro hb1 hg1)
            clear hb1 hg1
            go_wp2_with fail
            refine (HL.out w1 HB.out.1).mono ?_
            rintro e w2 ⟨rfl, hb2⟩
            have HB2 := Lib.hid hb2
            clear hb2
            go_wp2_with fail
            refine (HP.out w2 (HB.out.1.under HB2.out HB.out.1.lt)).mono ?_
            rintro e w3 ⟨rfl, hb3, hg3⟩
            have HB3 := Lib.hid (And.intro hb3 hg3)
            clear hb3 hg3
            go_wp2_with fail
            refine (must_yes w3 b).mono ?_
            rintro e w4 ⟨rfl, rfl⟩
            go_wp2_with fail
            refine (HL2.out w3 HB3.out.1).mono ?_
            rintro e w4 ⟨rfl, hb4⟩
            have HB4 := Lib.hid hb4
            clear hb4
            go_wp2_with (go_at_call 112; refine (HI.out _).mono ?_; rintro e w' ⟨rfl, rfl⟩)
            refine (must_no w4 (HB3.out.1.under HB4.out HB3.out.1.lt)).mono ?_
            rintro e w5 ⟨rfl, rfl⟩
            exact ⟨rfl, .inr ⟨101, HN'.out (.inr (.inr (.inr E4.out))), rfl, below_of_grownB (grown_trans (grown_trans (grown_trans HB.out.2 (grown_below HB2.out _)) HB3.out.2) (grown_below HB4.out _)) hlt⟩⟩
        · have e3 : ((s[0].toNat : Int) == 48) = true := u8_eq (k := 48) (by decide) h3
          have E3 : Hid (lookB t 0 = 48) := by
            show _ = _
            rw [HZ.out h0]
            simpa using h3
          have e3' : ((s[0].toNat : Int) != 48) = false := by rw [bne, e3]; rfl
          clear h3 e3
          go_enter Tryz.func117, Tryz.ntmps117
          go_wp2_with fail
          refine H1.out.mono ?_
          rintro e w1 ⟨rfl, hb1, hg1⟩
          have HB := Lib.hid (And.intro hb1 hg1)
          clear hb1 hg1
          go_wp2_with fail
          refine (HL.out w1 HB.out.1).mono ?_
          rintro e w2 ⟨rfl, hb2⟩
          have HB2 := Lib.hid hb2
          clear hb2
          go_wp2_with fail
          refine (HP.out w2 (HB.out.1.under HB2.out HB.out.1.lt)).mono ?_
          rintro e w3 ⟨rfl, hb3, hg3⟩
          have HB3 := Lib.hid (And.intro hb3 hg3)
          clear hb3 hg3
          go_wp2_with fail
          refine (must_no w3 HB3.out.1).mono ?_
          rintro e w4 ⟨rfl, rfl⟩
          exact ⟨rfl, .inr ⟨101, HN'.out (.inr (.inr (.inl E3.out))), rfl, below_of_grownB (grown_trans (grown_trans HB.out.2 (grown_below HB2.out _)) HB3.out.2) hlt⟩⟩
      · have E2 : Hid (2 < t.length) := by show _ < _; rw [← HSZ.out]; omega
        have h2' : (s.size ≤ 2) = False := by simp; omega
        go_enter Tryz.func117, Tryz.ntmps117
        go_wp2_with fail
        refine H1.out.mono ?_
        rintro e w1 ⟨rfl, hb1, hg1⟩
        have HB := Lib.hid (And.intro hb1 hg1)
        clear hb1 hg1
        go_wp2_with fail
        refine (HL.out w1 HB.out.1).mono ?_
        rintro e w2 ⟨rfl, hb2⟩
        have HB2 := Lib.hid hb2
        clear hb2
        go_wp2_with fail
        refine (HP.out w2 (HB.out.1.under HB2.out HB.out.1.lt)).mono ?_
        rintro e w3 ⟨rfl, hb3, hg3⟩
        have HB3 := Lib.hid (And.intro hb3 hg3)
        clear hb3 hg3
        go_wp2_with fail
        refine (must_no w3 HB3.out.1).mono ?_
        rintro e w4 ⟨rfl, rfl⟩
        exact ⟨rfl, .inr ⟨101, HN'.out (.inr (.inl E2.out)), rfl, below_of_grownB (grown_trans (grown_trans HB.out.2 (grown_below HB2.out _)) HB3.out.2) hlt⟩⟩
  · have e36 : (((lookB (restB S (a + 1)) 0).toNat : Int) == 36) = true := u8_eq (k := 36) (by decide) h36
    have HT := Lib.hid (@dollar_two S a h36)
    clear h36
    go_enter Tryz.func117, Tryz.ntmps117
    go_wp2_with fail
    refine H1.out.mono ?_
    rintro e w1 ⟨rfl, hb1, hg1⟩
    have HB := Lib.hid (And.intro hb1 hg1)
    clear hb1 hg1
    go_wp2_with fail
    refine (HL.out w1 HB.out.1).mono ?_
    rintro e w2 ⟨rfl, hb2⟩
    have HB2 := Lib.hid hb2
    clear hb2
    go_wp2_with fail
    refine (step_1 w2 (HB.out.1.under HB2.out HB.out.1.lt) (by omega)).mono ?_
    rintro e w3 ⟨rfl, hb3, hg3⟩
    have HB3 := Lib.hid (And.intro hb3 hg3)
    clear hb3 hg3
    go_wp2_with fail
    have HG : Hid (w.grownBy w3 (some b)) := grown_trans (grown_trans HB.out.2 (grown_below HB2.out _)) HB3.out.2
    refine (put_any 8 [36] ts w3 (HH.out.keep HB3.out.1 HG.out) (by omega) (by omega)).mono ?_
    rintro e w5 ⟨rfl, hs5, hb5⟩
    have HS5 := Lib.hid (And.intro hs5 hb5)
    clear hs5 hb5
    go_wp2_with fail
    go_end0
    exact .inl ⟨8, [36], 2, HT.out, rfl, HS5.out.1, (below_of_grownB HG.out hlt).trans HS5.out.2⟩
end Go.Proofs.YthhfgjcdopkmgaaGreatDoor
