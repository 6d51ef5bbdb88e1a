/- The scanner's small calls. -/
import Derived.Test.YthhfgjcdopkmgaaGreatDoorScnH
set_option maxRecDepth 100000
namespace ScnT
open Go Go.RowKit
set_option linter.unusedVariables false
theorem containsS_mk (l : List Bs) (x : ByteArray) : Lib.containsS (l.map mkS) x = l.contains x.data.toList := by
  rw [Bool.eq_iff_iff, Lib.containsS_iff, List.contains_iff_mem, List.mem_map]
  constructor
  · rintro ⟨y, hy, rfl⟩; simpa using hy
  · intro h; exact ⟨_, h, mkS_of x⟩
end ScnT
namespace Go.Proofs.YthhfgjcdopkmgaaGreatDoor
open Go.Instr Go.RowKit ScnT
set_option linter.unusedVariables false
variable {b fr a : Nat} {S : ByteArray} {tv pm : Value}
theorem startsWith_any (w : World) (h : Box w b S fr a tv pm) (ha : a ≤ S.size) :
    Calls Tryz.prog 107 #[.pointer (some ⟨b, 0, none⟩), .string ⟨#[47, 47]⟩] w fun e w' => e = .returned (.bool ([47, 47].isPrefixOf (restB S a))) ∧ Below w.heap.size w w' := by
  obtain ⟨c0, c1, c2, c3, c4, f1, f2, f3⟩ := h
  have HE : Hid (Lib.hasPrefix (S.extract a S.size).data.toList [47, 47] = [47, 47].isPrefixOf (restB S a)) := by
    show _ = _
    have h1 : (S.extract a S.size).data.toList = restB S a := by
      rw [Lib.extract_data]
      unfold restB
      rw [List.take_of_length_le (by simp)]
    rw [h1]
    rfl
  go_enter Tryz.func107, Tryz.ntmps107
  go_wp2_with fail
  go_quiet ((go_at_call 21; exact Calls.quiet_of_same (Go.Proofs.Tryz.strings_HasPrefix _ _ _)))
  go_wp2_with fail
  go_ret
  exact ⟨ret_bool HE.out, drawn_below _ _⟩
theorem refuse_any (c : Int) (w : World) (h : Box w b S fr a tv pm) :
    Calls Tryz.prog 183 #[.pointer (some ⟨b, 0, none⟩), .int .i64 c] w fun e w' => e = .panicked [{ v := .iface 32 (.agg #[.int .i64 c, .int .i64 (fr : Int)]), recovered := false }] ∧ w = w' := by
  obtain ⟨c0, c1, c2, c3, c4, f1, f2, f3⟩ := h
  go_enter Tryz.func183, Tryz.ntmps183
  go_wp2_with fail
  exact ⟨rfl, rfl, rfl⟩
/-- The fault that a token that is none is told by. -/
def faulty (c : Int) (fr : Nat) : List PanicEntry := [{ v := .iface 32 (.agg #[.int .i64 c, .int .i64 (fr : Int)]), recovered := false }]
theorem must_yes (w : World) (b : Nat) : Calls Tryz.prog 176 #[.pointer (some ⟨b, 0, none⟩), .bool true] w fun e w' => e = .returned (.tuple #[]) ∧ w = w' := by
  go_enter Tryz.func176, Tryz.ntmps176
  go_wp2_with fail
  go_end0
  exact ⟨rfl, rfl⟩
theorem must_no (w : World) (h : Box w b S fr a tv pm) : Calls Tryz.prog 176 #[.pointer (some ⟨b, 0, none⟩), .bool false] w fun e w' => e = .panicked (faulty 101 fr) ∧ w = w' := by
  have H := Lib.hid (refuse_any 101 w h)
  clear h
  go_enter Tryz.func176, Tryz.ntmps176
  go_wp2_with fail
  refine H.out.mono ?_
  rintro e w' ⟨rfl, rfl⟩
  exact ⟨rfl, rfl, rfl⟩
theorem take_any (w : World) (h : Box w b S fr a tv pm) (ha : a ≤ 90000) (hS : S.size ≤ 100000) :
    Calls Tryz.prog 203 #[.pointer (some ⟨b, 0, none⟩)] w fun e w' => e = .returned (.int .u8 (lookB (restB S a) 0).toNat) ∧ Box w' b S fr (a + 1) tv pm ∧ w.grownBy w' (some b) := by
  have HL := Lib.hid (look_any 0 w h (by omega) (by omega) hS)
  have HB := Lib.hid h
  clear h
  go_enter Tryz.func203, Tryz.ntmps203
  go_wp2_with fail
  refine HL.out.mono ?_
  rintro e w1 ⟨rfl, hb1⟩
  have HB1 := Lib.hid hb1
  clear hb1
  go_wp2_with fail
  refine (step_1 w1 (HB.out.under HB1.out HB.out.lt) (by omega)).mono ?_
  rintro e w2 ⟨rfl, hb2, hg2⟩
  go_wp2_with fail
  go_ret
  exact ⟨rfl, hb2, grown_trans (grown_below HB1.out _) hg2⟩
set_option maxHeartbeats 1000000 in
theorem Words_any (w : World) : Calls Tryz.prog 202 #[] w fun e w' => e = .returned (.slice (some ⟨w.heap.size, 0, none⟩) 16 16) ∧ w.alloc (.cells (words.map fun t => Value.string (mkS t)).toArray 9) = w' := by
  go_enter Tryz.func202, Tryz.ntmps202
  go_wp2_with fail
  go_ret
  exact ⟨rfl, rfl⟩
theorem row_cells (w : World) (l : List Bs) : ∀ j, j < (l.map mkS).length → (w.alloc (.cells (l.map fun t => Value.string (mkS t)).toArray 9)).cell? ⟨w.heap.size, 0 + j, none⟩ = some (.string ((l.map mkS).getD j ByteArray.empty)) := by
  intro j hj
  rw [List.length_map] at hj
  rw [World.cell?_alloc_new]
  simp [hj]
theorem isWord_any (s : ByteArray) (w : World) : Calls Tryz.prog 175 #[.string s] w fun e w' => e = .returned (.bool (words.contains s.data.toList)) ∧ Below w.heap.size w w' := by
  have HC := Lib.hid (Go.Proofs.Tryz.slices_Contains_string w.heap.size 0 16 16 (words.map mkS) s (w.alloc (.cells (words.map fun t => Value.string (mkS t)).toArray 9)) (by decide) (by decide) (row_cells w words))
  have HE := Lib.hid (containsS_mk words s)
  go_enter Tryz.func175, Tryz.ntmps175
  go_wp2_with fail
  refine (Words_any w).mono ?_
  rintro e w1 ⟨rfl, hw1⟩
  have HW := Lib.hid hw1
  clear hw1
  go_wp2_with fail
  rw [← HW.out]
  refine HC.out.mono ?_
  rintro e w' ⟨rfl, rfl⟩
  go_wp2_with fail
  go_ret
  refine ⟨ret_bool ?_, (Below.refl _ _).alloc (Nat.le_refl _) _⟩
  rw [← HE.out]
  rfl
theorem isOneOf_any (l : List Bs) (s : ByteArray) (g n : Nat) (w : World) (hn : n = l.length) (hl : l.length ≤ 100) (hc : ∀ j, j < (l.map mkS).length → w.cell? ⟨g, 0 + j, none⟩ = some (.string ((l.map mkS).getD j ByteArray.empty))) :
    Calls Tryz.prog 173 #[.string s, .slice (some ⟨g, 0, none⟩) n n] w fun e w' => e = .returned (.bool (l.contains s.data.toList)) ∧ w = w' := by
  have HC := Lib.hid (Go.Proofs.Tryz.slices_Contains_string g 0 n n (l.map mkS) s w (by simp; omega) (by omega) hc)
  have HE : Hid (Lib.containsS ((l.map mkS).take n) s = l.contains s.data.toList) := by
    show _ = _
    rw [List.take_of_length_le (by simp; omega), containsS_mk]
  clear hc hn
  go_enter Tryz.func173, Tryz.ntmps173
  go_wp2_with fail
  refine HC.out.mono ?_
  rintro e w' ⟨rfl, rfl⟩
  go_wp2_with fail
  go_ret
  exact ⟨ret_bool HE.out, rfl⟩
end Go.Proofs.YthhfgjcdopkmgaaGreatDoor
