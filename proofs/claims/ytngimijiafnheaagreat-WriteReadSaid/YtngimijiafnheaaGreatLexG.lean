/- The reader's small calls. -/
import Derived.Test.YtngimijiafnheaaGreatLexF
import Derived.Test.YtngimijiafnheaaGreatLexShelf
set_option maxRecDepth 100000
namespace Go.Proofs.YtngimijiafnheaaGreat
open Go.Instr Go.RowKit LexT
set_option linter.unusedVariables false
variable {b fr a o : Nat} {S : ByteArray} {tv pm : Value}
theorem startsWith_comment (w : World) (h : Box w b S fr a tv o pm) (ha : a ≤ S.size) :
    Calls Tryz.prog 80 #[.pointer (some ⟨b, 0, none⟩), .string ⟨#[47, 47]⟩] w fun e w' => e = .returned (.bool ([47, 47].isPrefixOf (restB S a))) ∧ Below w.heap.size w w' := by
  obtain ⟨c0, c1, c2, c3, c4, c5, f1, f2, f3, f4⟩ := h
  have HE : Hid (Lib.hasPrefix (S.extract a S.size).data.toList [47, 47] = [47, 47].isPrefixOf (restB S a)) := by
    show _ = _
    have h1 : (S.extract a S.size).data.toList = restB S a := by
      rw [Lib.extract_data]
      unfold restB
      rw [List.take_of_length_le (by simp)]
    rw [h1]
    rfl
  go_enter Tryz.func80, Tryz.ntmps80
  go_wp2_with fail
  go_quiet ((go_at_call 105; exact Calls.quiet_of_same (Go.Proofs.Tryz.strings_HasPrefix _ _ _)))
  go_wp2_with fail
  go_ret
  exact ⟨ret_bool HE.out, drawn_below _ _⟩
theorem startsWith_two (w : World) (h : Box w b S fr a tv o pm) (ha : a ≤ S.size) :
    Calls Tryz.prog 80 #[.pointer (some ⟨b, 0, none⟩), .string ⟨#[37, 37]⟩] w fun e w' => e = .returned (.bool ([37, 37].isPrefixOf (restB S a))) ∧ Below w.heap.size w w' := by
  obtain ⟨c0, c1, c2, c3, c4, c5, f1, f2, f3, f4⟩ := h
  have HE : Hid (Lib.hasPrefix (S.extract a S.size).data.toList [37, 37] = [37, 37].isPrefixOf (restB S a)) := by
    show _ = _
    have h1 : (S.extract a S.size).data.toList = restB S a := by
      rw [Lib.extract_data]
      unfold restB
      rw [List.take_of_length_le (by simp)]
    rw [h1]
    rfl
  go_enter Tryz.func80, Tryz.ntmps80
  go_wp2_with fail
  go_quiet ((go_at_call 105; exact Calls.quiet_of_same (Go.Proofs.Tryz.strings_HasPrefix _ _ _)))
  go_wp2_with fail
  go_ret
  exact ⟨ret_bool HE.out, drawn_below _ _⟩
theorem startsWith_slash (w : World) (h : Box w b S fr a tv o pm) (ha : a ≤ S.size) :
    Calls Tryz.prog 80 #[.pointer (some ⟨b, 0, none⟩), .string ⟨#[47]⟩] w fun e w' => e = .returned (.bool ([47].isPrefixOf (restB S a))) ∧ Below w.heap.size w w' := by
  obtain ⟨c0, c1, c2, c3, c4, c5, f1, f2, f3, f4⟩ := h
  have HE : Hid (Lib.hasPrefix (S.extract a S.size).data.toList [47] = [47].isPrefixOf (restB S a)) := by
    show _ = _
    have h1 : (S.extract a S.size).data.toList = restB S a := by
      rw [Lib.extract_data]
      unfold restB
      rw [List.take_of_length_le (by simp)]
    rw [h1]
    rfl
  go_enter Tryz.func80, Tryz.ntmps80
  go_wp2_with fail
  go_quiet ((go_at_call 105; exact Calls.quiet_of_same (Go.Proofs.Tryz.strings_HasPrefix _ _ _)))
  go_wp2_with fail
  go_ret
  exact ⟨ret_bool HE.out, drawn_below _ _⟩
theorem refuse_any (c : Int) (w : World) (h : Box w b S fr a tv o pm) :
    Calls Tryz.prog 92 #[.pointer (some ⟨b, 0, none⟩), .int .i64 c] w fun e w' => e = .panicked [{ v := .iface 32 (.agg #[.int .i64 c, .int .i64 (fr : Int)]), recovered := false }] ∧ w = w' := by
  obtain ⟨c0, c1, c2, c3, c4, c5, f1, f2, f3, f4⟩ := h
  go_enter Tryz.func92, Tryz.ntmps92
  go_wp2_with fail
  exact ⟨rfl, rfl, rfl⟩
/-- The fault that a token that is none is told by. -/
def faulty (c : Int) (fr : Nat) : List PanicEntry := [{ v := .iface 32 (.agg #[.int .i64 c, .int .i64 (fr : Int)]), recovered := false }]
theorem must_yes (w : World) (b : Nat) : Calls Tryz.prog 79 #[.pointer (some ⟨b, 0, none⟩), .bool true] w fun e w' => e = .returned (.tuple #[]) ∧ w = w' := by
  go_enter Tryz.func79, Tryz.ntmps79
  go_wp2_with fail
  go_end0
  exact ⟨rfl, rfl⟩
theorem must_no (w : World) (h : Box w b S fr a tv o pm) : Calls Tryz.prog 79 #[.pointer (some ⟨b, 0, none⟩), .bool false] w fun e w' => e = .panicked (faulty 101 fr) ∧ w = w' := by
  have H := Lib.hid (refuse_any 101 w h)
  clear h
  go_enter Tryz.func79, Tryz.ntmps79
  go_wp2_with fail
  refine H.out.mono ?_
  rintro e w' ⟨rfl, rfl⟩
  exact ⟨rfl, rfl, rfl⟩
/-- What a call that tells the next byte does. -/
def TakeOr (w : World) (b : Nat) (S : ByteArray) (fr a : Nat) (tv : Value) (o : Nat) (pm : Value) (e : Ending) (w' : World) : Prop :=
  (a < S.size ∧ e = .returned (.int .u8 (lookB (restB S a) 0).toNat) ∧ Box w' b S fr (a + 1) tv o pm ∧ w.grownBy w' (some b)) ∨ (a = S.size ∧ e = .panicked (faulty 101 fr) ∧ w.grownBy w' (some b))
theorem take_in (w : World) (h : Box w b S fr a tv o pm) (ha : a < S.size) (hS : S.size ≤ 100000) :
    Calls Tryz.prog 78 #[.pointer (some ⟨b, 0, none⟩)] w fun e w' => e = .returned (.int .u8 (lookB (restB S a) 0).toNat) ∧ Box w' b S fr (a + 1) tv o pm ∧ w.grownBy w' (some b) := by
  have HB := Lib.hid h
  have HL := Lib.hid (look_here S a ha)
  have HA := Lib.hid (atEnd_false w h ha)
  clear h
  go_enter Tryz.func78, Tryz.ntmps78
  go_wp2_with fail
  refine HA.out.mono ?_
  rintro e w1 ⟨rfl, n, rfl⟩
  go_wp2_with fail
  refine (must_yes _ b).mono ?_
  rintro e w2 ⟨rfl, rfl⟩
  have hb := HB.out.drawn n
  have HB2 := Lib.hid hb
  clear hb
  obtain ⟨c0, c1, c2, c3, c4, c5, f1, f2, f3, f4⟩ := id HB.out
  have ha' : (a : Int) < (S.size : Int) := by omega
  have ha0 : (0 : Int) ≤ (a : Int) := by omega
  go_wp2_with fail
  go_quiet (fail)
  go_wp2_with fail
  refine (step_1 _ (HB.out.drawn _) (by omega)).mono ?_
  rintro e w2 ⟨rfl, hb2, hg2⟩
  have HB3 := Lib.hid (And.intro hb2 hg2)
  clear hb2 hg2
  go_wp2_with fail
  go_ret
  exact ⟨by rw [HL.out]; rfl, HB3.out.1, grown_trans (grown_below (drawn_below _ _) _) HB3.out.2⟩
theorem take_out (w : World) (h : Box w b S fr a tv o pm) (ha : a = S.size) :
    Calls Tryz.prog 78 #[.pointer (some ⟨b, 0, none⟩)] w fun e w' => e = .panicked (faulty 101 fr) ∧ w.grownBy w' (some b) := by
  have HB := Lib.hid h
  have HA := Lib.hid (atEnd_true w h ha)
  clear h ha
  go_enter Tryz.func78, Tryz.ntmps78
  go_wp2_with fail
  refine HA.out.mono ?_
  rintro e w1 ⟨rfl, n, rfl⟩
  go_wp2_with fail
  refine (must_no _ (HB.out.drawn n)).mono ?_
  rintro e w2 ⟨rfl, rfl⟩
  exact ⟨rfl, rfl, grown_below (drawn_below _ _) _⟩
end Go.Proofs.YtngimijiafnheaaGreat
