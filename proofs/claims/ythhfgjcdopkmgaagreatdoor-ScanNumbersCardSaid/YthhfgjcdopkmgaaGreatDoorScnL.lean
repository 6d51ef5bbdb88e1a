/- A line's end. -/
import Derived.Test.YthhfgjcdopkmgaaGreatDoorScnK
set_option maxRecDepth 100000
namespace ScnT
open Go Go.RowKit
set_option linter.unusedVariables false
theorem own_form {w : World} {base : Nat} {e : TypeId} {size : Nat} {v : Value} {n : Nat} {xs : List Value} (h : w.ownsRow base e size v n xs) : ∃ ao c, v = .slice ao n c := by
  rcases h.2 with ⟨hv, h0⟩ | ⟨g, cap, cur, hv, _⟩
  · exact ⟨none, 0, by rw [hv, h0]⟩
  · exact ⟨_, _, hv⟩
theorem own_top {w : World} {base : Nat} {e : TypeId} {v : Value} {r : List Tok} {t : Tok} (h : w.ownsRow base e 3 v (r.length + 1) (tcells (r ++ [t]))) : ∃ g c, v = .slice (some ⟨g, 0, none⟩) (r.length + 1) c ∧ r.length + 1 ≤ c ∧ c ≤ maxLen ∧
    w.cell? ⟨g, r.length * 3, none⟩ = some (.int .u8 (t.kind : Int)) ∧ w.cell? ⟨g, r.length * 3 + 1, none⟩ = some (.string (mkS t.text)) ∧ w.cell? ⟨g, r.length * 3 + 2, none⟩ = some (.int .i64 (t.place : Int)) := by
  have hc : ∀ g, v.ownBlock = some g → ∀ (j : Nat) (u : Value), (tcs t)[j]? = some u → w.cell? ⟨g, r.length * 3 + j, none⟩ = some u := by
    intro g hg j u hj
    have hl : (tcells r).length = r.length * 3 := tcells_length r
    have hjl : j < 3 := (List.getElem?_eq_some_iff.1 hj).1
    have := h.cells (g := g) hg (r.length * 3 + j) u (by
      rw [tcells_append, tcells_one, List.getElem?_append_right (by omega)]
      have : r.length * 3 + j - (tcells r).length = j := by omega
      rw [this]; exact hj)
    have hadd : (⟨g, 0, none⟩ : Addr).add (r.length * 3 + j) = ⟨g, r.length * 3 + j, none⟩ := by unfold Addr.add; split <;> simp_all
    rw [hadd] at this
    exact this
  rcases h.2 with ⟨_, h0⟩ | ⟨g, cap, cur, hv, _, _, hnc, hcm, _⟩
  · omega
  · subst hv
    exact ⟨g, cap, rfl, hnc, hcm, by simpa using hc g rfl 0 _ rfl, hc g rfl 1 _ rfl, hc g rfl 2 _ rfl⟩
theorem endLine_snoc (r : List Tok) (t : Tok) (p : Nat) : endLine (r ++ [t]) p = if mayEnd t then (r ++ [t]) ++ [⟨6, [59], p⟩] else r ++ [t] := by
  unfold endLine; simp
end ScnT
namespace Go.Proofs.YthhfgjcdopkmgaaGreatDoor
open Go.Instr Go.RowKit ScnT
set_option linter.unusedVariables false
variable {b fr a : Nat} {S : ByteArray} {tv pm : Value}
/-- What is told when nothing was refused: the scanner goes on at a', with these tokens. -/
def OnPost (ts : List Tok) (w : World) (b : Nat) (S : ByteArray) (fr a : Nat) (pm : Value) (e : Ending) (w' : World) : Prop :=
  e = .returned (.tuple #[]) ∧ (∃ tv', St 67 w' b S fr a ts tv' pm) ∧ Below b w w'
set_option maxHeartbeats 1000000 in
theorem endLine_any (ts : List Tok) (w : World) (h : St 67 w b S fr a ts tv pm) (hn : ts.length ≤ 100000) :
    Calls Tryz.prog 49 #[.pointer (some ⟨b, 0, none⟩)] w (OnPost (endLine ts fr) w b S fr a pm) := by
  have HH := Lib.hid h
  rcases List.eq_nil_or_concat ts with rfl | ⟨r, t, hts⟩
  · obtain ⟨ao, c, rfl⟩ := own_form h.own
    obtain ⟨⟨c0, c1, c2, c3, c4, f1, f2, f3⟩, hown, _⟩ := h
    have HO := Lib.hid hown
    clear hown
    simp only [List.length_nil] at c3
    go_enter Tryz.func49, Tryz.ntmps49
    go_wp2_with fail
    go_end0
    exact ⟨rfl, ⟨_, HH.out⟩, Below.refl _ _⟩
  · rw [List.concat_eq_append] at hts
    subst hts
    have hown := h.own
    rw [List.length_append] at hown
    obtain ⟨g, c, rfl, hc1, hc2, d0, d1, d2⟩ := own_top hown
    have hk := h.kinds t (by simp)
    obtain ⟨⟨c0, c1, c2, c3, c4, f1, f2, f3⟩, _, _⟩ := h
    have HM := Lib.hid (mayEndLine_any t w hk)
    have HE := Lib.hid (endLine_snoc r t fr)
    have hlen : (r ++ [t]).length = r.length + 1 := by simp
    have HP : Hid (∀ w1 : World, Below w.heap.size w w1 → Calls Tryz.prog 52 #[.pointer (some ⟨b, 0, none⟩), .int .u8 6, .string ⟨#[59]⟩] w1 (PutPost 6 [59] (r ++ [t]) w1 b S fr a pm)) := fun w1 hb => put_any 6 [59] (r ++ [t]) w1 (HH.out.under hb) (by omega) (by omega)
    have hn' : r.length ≤ 100000 := by omega
    clear hown hk hlen hn
    generalize r.length = n at *
    unfold maxLen at hc2
    unfold tval at HM
    cases hm : mayEnd t
    · rw [hm] at HM HE
      clear hm
      go_enter Tryz.func49, Tryz.ntmps49
      go_wp2_with fail
      refine HM.out.mono ?_
      rintro e w1 ⟨rfl, hb1⟩
      have HB := Lib.hid hb1
      clear hb1
      go_wp2_with fail
      go_end0
      refine ⟨rfl, ?_, HB.out.mono (Nat.le_of_lt HH.out.box.lt)⟩
      rw [HE.out]
      exact ⟨_, HH.out.under HB.out⟩
    · rw [hm] at HM HE
      clear hm
      go_enter Tryz.func49, Tryz.ntmps49
      go_wp2_with fail
      refine HM.out.mono ?_
      rintro e w1 ⟨rfl, hb1⟩
      have HB := Lib.hid hb1
      clear hb1
      go_wp2_with fail
      refine (HP.out w1 HB.out).mono ?_
      rintro e w2 ⟨rfl, hs2, hb2⟩
      have HS := Lib.hid hs2
      have HB2 := Lib.hid hb2
      clear hs2 hb2
      go_wp2_with fail
      go_end0
      refine ⟨rfl, ?_, (HB.out.mono (Nat.le_of_lt HH.out.box.lt)).trans HB2.out⟩
      rw [HE.out]
      exact HS.out
end Go.Proofs.YthhfgjcdopkmgaaGreatDoor
