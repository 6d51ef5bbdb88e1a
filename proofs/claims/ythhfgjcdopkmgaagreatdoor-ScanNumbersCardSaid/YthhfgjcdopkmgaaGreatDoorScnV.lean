/- All tokens of a source. -/
import Derived.Test.YthhfgjcdopkmgaaGreatDoorScnU
set_option maxRecDepth 100000
namespace ScnT
open Go Go.RowKit
set_option linter.unusedVariables false
theorem go_fin {f : Nat} {S : ByteArray} {p k : Nat} {ts : List Tok} (hk : skipB (restB S p) = k) (h : p + k = S.size) : goT (f + 1) (restB S p) p ts = .ok (endLine ts (p + k) ++ [⟨7, [], p + k⟩]) := by
  rw [goT]
  simp only [hk, drop_rest]
  rw [rest_nil S (p + k) (by omega)]
theorem go_line {f : Nat} {S : ByteArray} {p k : Nat} {ts : List Tok} (hk : skipB (restB S p) = k) (h : p + k < S.size) (hc : (lookB (restB S (p + k)) 0 == 10) = true) : goT (f + 1) (restB S p) p ts = goT f (restB S (p + k + 1)) (p + k + 1) (endLine ts (p + k)) := by
  rw [goT]
  simp only [hk, drop_rest]
  have h1 := rest_cons_look S (p + k) h
  generalize lookB (restB S (p + k)) 0 = c at *
  rw [h1]
  simp only [hc, if_true]
theorem go_tok {f : Nat} {S : ByteArray} {p k : Nat} {ts : List Tok} (hk : skipB (restB S p) = k) (h : p + k < S.size) (hc : (lookB (restB S (p + k)) 0 == 10) = false) {kd n : Nat} {t : Bs} (ho : oneT (restB S (p + k)) = .ok (kd, t, n)) : goT (f + 1) (restB S p) p ts = goT f (restB S (p + k + n)) (p + k + n) (ts ++ [⟨kd, t, p + k⟩]) := by
  rw [goT]
  simp only [hk, drop_rest]
  have h2 : (restB S (p + k)).drop n = restB S (p + k + n) := drop_rest S (p + k) n
  have h1 := rest_cons_look S (p + k) h
  generalize lookB (restB S (p + k)) 0 = c at *
  rw [h1] at ho h2
  rw [h1]
  simp only [hc, Bool.false_eq_true, if_false, ho]
theorem go_bad {f : Nat} {S : ByteArray} {p k : Nat} {ts : List Tok} (hk : skipB (restB S p) = k) (h : p + k < S.size) (hc : (lookB (restB S (p + k)) 0 == 10) = false) {e : Nat} (ho : oneT (restB S (p + k)) = .error e) : goT (f + 1) (restB S p) p ts = .error (e, p + k) := by
  rw [goT]
  simp only [hk, drop_rest]
  have h1 := rest_cons_look S (p + k) h
  generalize lookB (restB S (p + k)) 0 = c at *
  rw [h1] at ho
  rw [h1]
  simp only [hc, Bool.false_eq_true, if_false, ho]
theorem endLine_len (ts : List Tok) (p : Nat) : (endLine ts p).length ≤ ts.length + 1 := by
  rcases endLine_ways ts p with h | h <;> rw [h] <;> simp
/-- What readAll leaves. -/
def AllOr (E : TypeId) (R : Except (Nat × Nat) (List Tok)) (F : Nat → Nat → List PanicEntry) (w : World) (b : Nat) (S : ByteArray) (pm : Value) (e : Ending) (w' : World) : Prop :=
  (∃ out, R = .ok out ∧ e = .returned (.tuple #[]) ∧ out.length ≤ 70000 ∧ (∃ fr a tv', St E w' b S fr a out tv' pm) ∧ Below b w w') ∨ (∃ c q, R = .error (c, q) ∧ e = .panicked (F c q) ∧ Below b w w')
/-- A round's state. -/
structure Run (E : TypeId) (R : Except (Nat × Nat) (List Tok)) (w wr : World) (b : Nat) (S : ByteArray) (p : Nat) (ts : List Tok) (pm : Value) : Prop where
  st : ∃ fr tv, St E wr b S fr p ts tv pm
  below : Below b w wr
  le : p ≤ S.size
  len : ts.length ≤ p
  run : ∃ f, S.size - p < f ∧ goT f (restB S p) p ts = R
end ScnT
namespace Go.Proofs.YthhfgjcdopkmgaaGreatDoor
open Go.Instr Go.RowKit ScnT
set_option linter.unusedVariables false
variable {b fr a : Nat} {S : ByteArray} {tv pm : Value} {pm0 : Nat}
set_option maxHeartbeats 2000000 in
theorem readAll_any (w : World) (h : St 67 w b S 0 0 [] tv (.map (some pm0))) (hp : PairsAt w pm0) (hpb : pm0 < b) (hS : S.size ≤ 65536) :
    Calls Tryz.prog 28 #[.pointer (some ⟨b, 0, none⟩)] w (AllOr 67 (goT (S.size + 1) S.data.toList 0 []) (fun c q => faulty c q) w b S (.map (some pm0))) := by
  have hlt := h.box.lt
  have HP := Lib.hid hp
  generalize hR : goT (S.size + 1) S.data.toList 0 [] = R
  have HR0 : Hid (Run 67 R w w b S 0 [] (.map (some pm0))) := ⟨⟨_, _, h⟩, Below.refl _ _, by omega, by simp, S.size + 1, by omega, hR⟩
  clear h hp hR
  go_enter Tryz.func28, Tryz.ntmps28
  go_wp2_with fail
  go_loopg [2] (S.size + 1) (fun g v2 wr => ∃ (p : Nat) (ts : List Tok), g = S.size + 1 - p ∧ Run 67 R w wr b S p ts (.map (some pm0)))
  case atStart => exact ⟨0, [], rfl, HR0.out⟩
  case round =>
    obtain ⟨p, ts, hgk, hrun⟩ := hrel
    obtain ⟨⟨fr, tv', hst⟩, hbel, hle, hlen, f, hf, hgo⟩ := hrun
    have HGK := Lib.hid hgk
    have HST := Lib.hid hst
    have HBE := Lib.hid hbel
    have HGO := Lib.hid hgo
    have HPW : Hid (PairsAt wr pm0) := (hbel.block pm0 hpb).trans HP.out
    clear hgk hst hbel hgo HR0
    obtain ⟨f, rfl⟩ : ∃ m, f = m + 1 := ⟨f - 1, by omega⟩
    have hsk := skip_le (restB S p)
    rw [rest_len] at hsk
    have HG := Lib.hid (goesOn_any wr HST.out.box hle hS)
    obtain ⟨k, hk⟩ : ∃ k, skipB (restB S p) = k := ⟨_, rfl⟩
    rw [hk] at HG hsk
    have HK := Lib.hid hk
    clear hk
    obtain ⟨q, hq⟩ : ∃ q, p + k = q := ⟨_, rfl⟩
    rw [hq] at HG
    have hqS : q ≤ S.size := by omega
    have hpq : p ≤ q := by omega
    have HQ := Lib.hid hq
    clear hq hsk
    by_cases hfin : q = S.size
    · have HE : Hid (R = .ok (endLine ts q ++ [⟨7, [], q⟩])) := by
        show _ = _
        rw [← HGO.out, go_fin HK.out (by rw [HQ.out]; exact hfin), HQ.out]
      rw [show decide (q = S.size) = true from by simp [hfin]] at HG
      clear hfin
      go_wp2_with fail
      refine HG.out.mono ?_
      rintro e w1 ⟨rfl, hb1, hg1⟩
      have HB := Lib.hid (And.intro hb1 hg1)
      clear hb1 hg1
      go_wp2_with fail
      refine (endLine_any ts w1 (HST.out.keep HB.out.1 HB.out.2) (by omega)).mono ?_
      rintro e w2 ⟨rfl, ⟨tv2, hs2⟩, hb2⟩
      have HS2 := Lib.hid (And.intro hs2 hb2)
      clear hs2 hb2
      go_wp2_with fail
      refine (put_any 7 [] (endLine ts q) w2 HS2.out.1 (by have := endLine_len ts q; omega) (by omega)).mono ?_
      rintro e w3 ⟨rfl, ⟨tv3, hs3⟩, hb3⟩
      have HS3 := Lib.hid (And.intro hs3 hb3)
      clear hs3 hb3
      go_wp2_with fail
      go_end0
      refine .inl ⟨_, HE.out, rfl, by have := endLine_len ts q; simp; omega, ⟨_, _, _, HS3.out.1⟩, ((HBE.out.trans (below_of_grownB HB.out.2 HST.out.box.lt)).trans HS2.out.2).trans HS3.out.2⟩
    · have hq2 : q < S.size := by omega
      rw [show decide (q = S.size) = false from by simp [hfin]] at HG
      clear hfin
      have HL : Hid (∀ w1, Box w1 b S q q tv' (.map (some pm0)) → Calls Tryz.prog 48 #[.pointer (some ⟨b, 0, none⟩), .int .i64 0] w1 fun e w' => e = .returned (.int .u8 (lookB (restB S q) 0).toNat) ∧ Below w1.heap.size w1 w') := fun w1 hb => look_any 0 w1 hb (by omega) (by omega) (by omega)
      have hcut : ∀ kk, p + kk = p + k → kk = k := fun kk h => by omega
      cases hc : (lookB (restB S q) 0 == 10)
      · have e10 : (((lookB (restB S q) 0).toNat : Int) == 10) = false := u8_ne (k := 10) (by decide) hc
        have hc' : (lookB (restB S (p + k)) 0 == 10) = false := by rw [HQ.out]; exact hc
        have HT : Hid (∀ kd t n, oneT (restB S q) = .ok (kd, t, n) → goT f (restB S (q + n)) (q + n) (ts ++ [⟨kd, t, q⟩]) = R) := fun kd t n ho => by
          have := go_tok (f := f) (ts := ts) HK.out (by rw [HQ.out]; exact hq2) hc' (by rw [HQ.out]; exact ho)
          rw [HQ.out] at this
          rw [← this]; exact HGO.out
        have HX : Hid (∀ c, oneT (restB S q) = .error c → R = .error (c, q)) := fun c ho => by
          have := go_bad (f := f) (ts := ts) HK.out (by rw [HQ.out]; exact hq2) hc' (by rw [HQ.out]; exact ho)
          rw [HQ.out] at this
          rw [← HGO.out]; exact this
        clear hc hc' hcut
        go_wp2_with fail
        refine HG.out.mono ?_
        rintro e w1 ⟨rfl, hb1, hg1⟩
        have HB := Lib.hid (And.intro hb1 hg1)
        clear hb1 hg1
        go_wp2_with fail
        refine (HL.out w1 HB.out.1).mono ?_
        rintro e w2 ⟨rfl, hb2⟩
        have HB2 := Lib.hid hb2
        clear hb2
        go_wp2_with fail
        have hp2 : PairsAt w2 pm0 := (HB2.out.block pm0 (by have := HB.out.1.lt; omega)).trans ((HB.out.2.block pm0 (by have := HST.out.box.lt; omega) (by intro hh; injection hh; omega)).trans HPW.out)
        refine (readToken_any ts w2 ((HST.out.keep HB.out.1 HB.out.2).under HB2.out) hp2 hpb hq2 hS (by omega)).mono ?_
        rintro e w3 (⟨kd, t, n, ho, rfl, ⟨tv3, hs3⟩, hb3⟩ | ⟨c, ho, rfl, hb3⟩)
        · have hn := (good_one ho).2
          have hn1 := hn.1
          have hn2 := hn.2.1
          rw [rest_len] at hn2
          have HRUN : Hid (Run 67 R w w3 b S (q + n) (ts ++ [⟨kd, t, q⟩]) (.map (some pm0))) := by
            refine ⟨⟨_, _, hs3⟩, ((HBE.out.trans (below_of_grownB HB.out.2 HST.out.box.lt)).trans (HB2.out.mono (Nat.le_of_lt HB.out.1.lt))).trans hb3, by omega, by simp; omega, f, by omega, HT.out _ _ _ ho⟩
          clear ho hs3 hb3 hn hp2
          go_wp2_with fail
          go_roundg (S.size + 1 - (q + n))
          case rel => exact ⟨q + n, _, rfl, HRUN.out⟩
          case measure => rw [HGK.out]; omega
        · exact ⟨rfl, .inr ⟨c, q, HX.out c ho, rfl, ((HBE.out.trans (below_of_grownB HB.out.2 HST.out.box.lt)).trans (HB2.out.mono (Nat.le_of_lt HB.out.1.lt))).trans hb3⟩⟩
      · have e10 : (((lookB (restB S q) 0).toNat : Int) == 10) = true := u8_eq (k := 10) (by decide) hc
        have hc' : (lookB (restB S (p + k)) 0 == 10) = true := by rw [HQ.out]; exact hc
        have HT : Hid (goT f (restB S (q + 1)) (q + 1) (endLine ts q) = R) := by
          show _ = _
          have := go_line (f := f) (ts := ts) HK.out (by rw [HQ.out]; exact hq2) hc'
          rw [HQ.out] at this
          rw [← this]; exact HGO.out
        clear hc hc' hcut
        go_wp2_with fail
        refine HG.out.mono ?_
        rintro e w1 ⟨rfl, hb1, hg1⟩
        have HB := Lib.hid (And.intro hb1 hg1)
        clear hb1 hg1
        go_wp2_with fail
        refine (HL.out w1 HB.out.1).mono ?_
        rintro e w2 ⟨rfl, hb2⟩
        have HB2 := Lib.hid hb2
        clear hb2
        go_wp2_with fail
        refine (endLine_any ts w2 ((HST.out.keep HB.out.1 HB.out.2).under HB2.out) (by omega)).mono ?_
        rintro e w3 ⟨rfl, ⟨tv3, hs3⟩, hb3⟩
        have HS3 := Lib.hid (And.intro hs3 hb3)
        clear hs3 hb3
        go_wp2_with fail
        refine (step_1 w3 HS3.out.1.box (by omega)).mono ?_
        rintro e w4 ⟨rfl, hb4, hg4⟩
        have HRUN : Hid (Run 67 R w w4 b S (q + 1) (endLine ts q) (.map (some pm0))) := by
          refine ⟨⟨_, _, HS3.out.1.keep hb4 hg4⟩, (((HBE.out.trans (below_of_grownB HB.out.2 HST.out.box.lt)).trans (HB2.out.mono (Nat.le_of_lt HB.out.1.lt))).trans HS3.out.2).trans (below_of_grownB hg4 HS3.out.1.box.lt), by omega, by have := endLine_len ts q; omega, f, by omega, HT.out⟩
        clear hb4 hg4
        go_wp2_with fail
        go_roundg (S.size + 1 - (q + 1))
        case rel => exact ⟨q + 1, _, rfl, HRUN.out⟩
        case measure => rw [HGK.out]; omega
end Go.Proofs.YthhfgjcdopkmgaaGreatDoor
