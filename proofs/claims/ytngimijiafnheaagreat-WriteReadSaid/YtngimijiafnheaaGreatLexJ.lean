/- A string of an action; what goes by at once in it. -/
import Derived.Test.YtngimijiafnheaaGreatLexI
set_option maxRecDepth 100000
namespace LexT
open Go Go.RowKit
set_option linter.unusedVariables false
theorem str_end {c : UInt8} {r : Bs} (h : (c == 34) = true) : strB (c :: r) = some 1 := by rw [strB.eq_def]; simp [h]
theorem str_line {c : UInt8} {r : Bs} (h : (c == 34) = false) (h2 : (c == 10) = true) : strB (c :: r) = none := by rw [strB.eq_def]; simp [h, h2]
theorem str_two {c d : UInt8} {r : Bs} (h : (c == 34) = false) (h2 : (c == 10) = false) (h3 : (c == 92) = true) : strB (c :: d :: r) = (strB r).map (· + 2) := by rw [strB.eq_def]; simp [h, h2, h3]
theorem str_cut {c : UInt8} (h : (c == 34) = false) (h2 : (c == 10) = false) (h3 : (c == 92) = true) : strB [c] = none := by rw [strB.eq_def]; simp [h, h2, h3]
theorem str_one {c : UInt8} {r : Bs} (h : (c == 34) = false) (h2 : (c == 10) = false) (h3 : (c == 92) = false) : strB (c :: r) = (strB r).map (· + 1) := by rw [strB.eq_def]; simp [h, h2, h3]
theorem rest_cons_look (S : ByteArray) (a : Nat) (h : a < S.size) : restB S a = lookB (restB S a) 0 :: restB S (a + 1) := by
  have := rest_get S a h
  rw [this]
  rfl
/-- The byte at q has just been told. -/
structure Strs (w wr : World) (b : Nat) (S : ByteArray) (fr a q : Nat) (tv : Value) (o : Nat) (pm : Value) : Prop where
  box : Box wr b S fr (q + 1) tv o pm
  gr : w.grownBy wr (some b)
  lt : q < S.size
  le : a ≤ q
  eq : strB (restB S a) = (strB (restB S q)).map (· + (q - a))
section
variable {w wr w2 : World} {b fr a q o : Nat} {S : ByteArray} {tv pm : Value}
theorem Strs.fin (h : Strs w wr b S fr a q tv o pm) (hc : (lookB (restB S q) 0 == 34) = true) : strB (restB S a) = some (q + 1 - a) := by
  have hle := h.le
  rw [h.eq, rest_cons_look S q h.lt, str_end hc]
  simp; omega
theorem Strs.line (h : Strs w wr b S fr a q tv o pm) (h1 : (lookB (restB S q) 0 == 34) = false) (h2 : (lookB (restB S q) 0 == 10) = true) : strB (restB S a) = none := by
  rw [h.eq, rest_cons_look S q h.lt, str_line h1 h2]; rfl
theorem Strs.two_cut (h : Strs w wr b S fr a q tv o pm) (h1 : (lookB (restB S q) 0 == 34) = false) (h2 : (lookB (restB S q) 0 == 10) = false) (h3 : (lookB (restB S q) 0 == 92) = true) (he : S.size ≤ q + 2) : strB (restB S a) = none := by
  rw [h.eq, rest_cons_look S q h.lt]
  by_cases hlt : q + 1 < S.size
  · rw [rest_cons_look S (q + 1) hlt, str_two h1 h2 h3, rest_nil S (q + 1 + 1) (by omega)]; rfl
  · rw [rest_nil S (q + 1) (by omega), str_cut h1 h2 h3]; rfl
theorem Strs.two_eq (h : Strs w wr b S fr a q tv o pm) (h1 : (lookB (restB S q) 0 == 34) = false) (h2 : (lookB (restB S q) 0 == 10) = false) (h3 : (lookB (restB S q) 0 == 92) = true) (he : q + 2 < S.size) : strB (restB S a) = (strB (restB S (q + 2))).map (· + (q + 2 - a)) := by
  have hle := h.le
  rw [h.eq, rest_cons_look S q h.lt, rest_cons_look S (q + 1) (by omega), str_two h1 h2 h3, Option.map_map]
  congr 1
  funext x
  simp only [Function.comp]
  omega
theorem Strs.one_cut (h : Strs w wr b S fr a q tv o pm) (h1 : (lookB (restB S q) 0 == 34) = false) (h2 : (lookB (restB S q) 0 == 10) = false) (h3 : (lookB (restB S q) 0 == 92) = false) (he : S.size ≤ q + 1) : strB (restB S a) = none := by
  rw [h.eq, rest_cons_look S q h.lt, str_one h1 h2 h3, rest_nil S (q + 1) he]; rfl
theorem Strs.one_eq (h : Strs w wr b S fr a q tv o pm) (h1 : (lookB (restB S q) 0 == 34) = false) (h2 : (lookB (restB S q) 0 == 10) = false) (h3 : (lookB (restB S q) 0 == 92) = false) : strB (restB S a) = (strB (restB S (q + 1))).map (· + (q + 1 - a)) := by
  have hle := h.le
  rw [h.eq, rest_cons_look S q h.lt, str_one h1 h2 h3, Option.map_map]
  congr 1
  funext x
  simp only [Function.comp]
  omega
end
end LexT
namespace Go.Proofs.YtngimijiafnheaaGreat
open Go.Instr Go.RowKit LexT
set_option linter.unusedVariables false
variable {b fr a o : Nat} {S : ByteArray} {tv pm : Value}
/-- So many bytes go by, or the token is none. -/
def GoOr (r : Option Nat) (w : World) (b : Nat) (S : ByteArray) (fr a : Nat) (tv : Value) (o : Nat) (pm : Value) (e : Ending) (w' : World) : Prop :=
  (∃ n, r = some n ∧ e = .returned (.tuple #[]) ∧ Box w' b S fr (a + n) tv o pm ∧ w.grownBy w' (some b)) ∨ (r = none ∧ e = .panicked (faulty 101 fr) ∧ w.grownBy w' (some b))
set_option maxHeartbeats 2000000 in
theorem passString_any (w : World) (h : Box w b S fr a tv o pm) (ha : a ≤ S.size) (hS : S.size ≤ 65536) :
    Calls Tryz.prog 53 #[.pointer (some ⟨b, 0, none⟩)] w (GoOr (strB (restB S a)) w b S fr a tv o pm) := by
  have HH := Lib.hid h
  have HT1 : Hid (∀ (q : Nat) (w1 : World), q < S.size → Box w1 b S fr q tv o pm → Calls Tryz.prog 78 #[.pointer (some ⟨b, 0, none⟩)] w1 fun e w' => e = .returned (.int .u8 (lookB (restB S q) 0).toNat) ∧ Box w' b S fr (q + 1) tv o pm ∧ w1.grownBy w' (some b)) := fun q w1 hq hb => take_in w1 hb hq (by omega)
  have HT2 : Hid (∀ (q : Nat) (w1 : World), q = S.size → Box w1 b S fr q tv o pm → Calls Tryz.prog 78 #[.pointer (some ⟨b, 0, none⟩)] w1 fun e w' => e = .panicked (faulty 101 fr) ∧ w1.grownBy w' (some b)) := fun q w1 hq hb => take_out w1 hb hq
  clear h
  by_cases hlt : a < S.size
  · go_enter Tryz.func53, Tryz.ntmps53
    go_wp2_with fail
    refine (HT1.out a w hlt HH.out).mono ?_
    rintro e w1 ⟨rfl, hb1, hg1⟩
    have HR : Hid (Strs w w1 b S fr a a tv o pm) := ⟨hb1, hg1, hlt, Nat.le_refl _, by cases strB (restB S a) <;> simp⟩
    clear hb1 hg1
    go_wp2_with fail
    go_loopg [2] (S.size - a) (fun g v2 wr => ∃ q : Nat, g = S.size - q ∧ v2 = .int .u8 (lookB (restB S q) 0).toNat ∧ Strs w wr b S fr a q tv o pm)
    case atStart => exact ⟨a, rfl, rfl, HR.out⟩
    case round =>
      obtain ⟨q, hgk, rfl, hR⟩ := hrel
      have HGK := Lib.hid hgk
      have hqs := hR.lt
      have haq := hR.le
      have HR2 := Lib.hid hR
      clear hgk hR HR
      have F1 := Lib.hid HR2.out.fin
      have F2 := Lib.hid HR2.out.line
      have F3 := Lib.hid HR2.out.two_cut
      have F4 := Lib.hid HR2.out.two_eq
      have F5 := Lib.hid HR2.out.one_cut
      have F6 := Lib.hid HR2.out.one_eq
      generalize lookB (restB S q) 0 = c at *
      cases h1 : (c == 34)
      · have e1 : ((c.toNat : Int) != 34) = true := by show (!((c.toNat : Int) == ((34 : Nat) : Int))) = _; rw [u8_ne (k := 34) (by decide) h1]; rfl
        cases h2 : (c == 10)
        · have e2 : ((c.toNat : Int) != 10) = true := by show (!((c.toNat : Int) == ((10 : Nat) : Int))) = _; rw [u8_ne (k := 10) (by decide) h2]; rfl
          cases h3 : (c == 92)
          · have e3 : ((c.toNat : Int) == 92) = false := u8_ne (k := 92) (by decide) h3
            by_cases hq1 : q + 1 < S.size
            · have HE := Lib.hid (F6.out h1 h2 h3)
              clear h1 h2 h3
              go_wp2_with fail
              refine (must_yes wr b).mono ?_
              rintro e w2 ⟨rfl, rfl⟩
              go_wp2_with fail
              refine (HT1.out (q + 1) wr hq1 HR2.out.box).mono ?_
              rintro e w2 ⟨rfl, hb2, hg2⟩
              have HS : Hid (Strs w w2 b S fr a (q + 1) tv o pm) := ⟨hb2, grown_trans HR2.out.gr hg2, hq1, by omega, HE.out⟩
              clear hb2 hg2
              go_wp2_with fail
              go_roundg (S.size - (q + 1))
              case rel => exact ⟨q + 1, rfl, rfl, HS.out⟩
              case measure => rw [HGK.out]; omega
            · have HE := Lib.hid (F5.out h1 h2 h3 (by omega))
              clear h1 h2 h3
              go_wp2_with fail
              refine (must_yes wr b).mono ?_
              rintro e w2 ⟨rfl, rfl⟩
              go_wp2_with fail
              refine (HT2.out (q + 1) wr (by omega) HR2.out.box).mono ?_
              rintro e w2 ⟨rfl, hg2⟩
              exact ⟨rfl, .inr ⟨HE.out, rfl, grown_trans HR2.out.gr hg2⟩⟩
          · have e3 : ((c.toNat : Int) == 92) = true := u8_eq (k := 92) (by decide) h3
            by_cases hq1 : q + 1 < S.size
            · by_cases hq2 : q + 2 < S.size
              · have HE := Lib.hid (F4.out h1 h2 h3 hq2)
                clear h1 h2 h3
                go_wp2_with fail
                refine (must_yes wr b).mono ?_
                rintro e w2 ⟨rfl, rfl⟩
                go_wp2_with fail
                refine (HT1.out (q + 1) wr hq1 HR2.out.box).mono ?_
                rintro e w2 ⟨rfl, hb2, hg2⟩
                have HB2 := Lib.hid (And.intro hb2 hg2)
                clear hb2 hg2
                go_wp2_with fail
                refine (HT1.out (q + 2) w2 hq2 HB2.out.1).mono ?_
                rintro e w3 ⟨rfl, hb3, hg3⟩
                have HS : Hid (Strs w w3 b S fr a (q + 2) tv o pm) := ⟨hb3, grown_trans (grown_trans HR2.out.gr HB2.out.2) hg3, hq2, by omega, HE.out⟩
                clear hb3 hg3
                go_wp2_with fail
                go_roundg (S.size - (q + 2))
                case rel => exact ⟨q + 2, rfl, rfl, HS.out⟩
                case measure => rw [HGK.out]; omega
              · have HE := Lib.hid (F3.out h1 h2 h3 (by omega))
                clear h1 h2 h3
                go_wp2_with fail
                refine (must_yes wr b).mono ?_
                rintro e w2 ⟨rfl, rfl⟩
                go_wp2_with fail
                refine (HT1.out (q + 1) wr hq1 HR2.out.box).mono ?_
                rintro e w2 ⟨rfl, hb2, hg2⟩
                have HB2 := Lib.hid (And.intro hb2 hg2)
                clear hb2 hg2
                go_wp2_with fail
                refine (HT2.out (q + 2) w2 (by omega) HB2.out.1).mono ?_
                rintro e w3 ⟨rfl, hg3⟩
                exact ⟨rfl, .inr ⟨HE.out, rfl, grown_trans (grown_trans HR2.out.gr HB2.out.2) hg3⟩⟩
            · have HE := Lib.hid (F3.out h1 h2 h3 (by omega))
              clear h1 h2 h3
              go_wp2_with fail
              refine (must_yes wr b).mono ?_
              rintro e w2 ⟨rfl, rfl⟩
              go_wp2_with fail
              refine (HT2.out (q + 1) wr (by omega) HR2.out.box).mono ?_
              rintro e w2 ⟨rfl, hg2⟩
              exact ⟨rfl, .inr ⟨HE.out, rfl, grown_trans HR2.out.gr hg2⟩⟩
        · have e2 : ((c.toNat : Int) != 10) = false := by show (!((c.toNat : Int) == ((10 : Nat) : Int))) = _; rw [u8_eq (k := 10) (by decide) h2]; rfl
          have HE := Lib.hid (F2.out h1 h2)
          clear h1 h2
          go_wp2_with fail
          refine (must_no wr HR2.out.box).mono ?_
          rintro e w2 ⟨rfl, rfl⟩
          exact ⟨rfl, .inr ⟨HE.out, rfl, HR2.out.gr⟩⟩
      · have e1 : ((c.toNat : Int) != 34) = false := by show (!((c.toNat : Int) == ((34 : Nat) : Int))) = _; rw [u8_eq (k := 34) (by decide) h1]; rfl
        have HE := Lib.hid (F1.out h1)
        have HQ : Hid (a + (q + 1 - a) = q + 1) := by show _ = _; omega
        clear h1
        go_wp2_with fail
        go_end0
        exact .inl ⟨_, HE.out, rfl, by rw [HQ.out]; exact HR2.out.box, HR2.out.gr⟩
  · have HE : Hid (strB (restB S a) = none) := by show _ = _; rw [rest_nil S a (by omega)]; rfl
    go_enter Tryz.func53, Tryz.ntmps53
    go_wp2_with fail
    refine (HT2.out a w (by omega) HH.out).mono ?_
    rintro e w1 ⟨rfl, hg1⟩
    exact ⟨rfl, .inr ⟨HE.out, rfl, hg1⟩⟩
end Go.Proofs.YtngimijiafnheaaGreat
