/- Where in a source one is: the place's calls. -/
import Derived.Test.YthhfgjcdopkmgaaGreatDoorScnE
import Derived.Deep.QuietTactic
import Derived.BigQuiet
import Derived.Deep.Draws
set_option maxRecDepth 100000
namespace ScnT
open Go Go.RowKit
set_option linter.unusedVariables false
/-- What is left of a source. -/
def restB (S : ByteArray) (a : Nat) : Bs := S.data.toList.drop a
/-- The scanner's memory. -/
structure Box (w : World) (b : Nat) (S : ByteArray) (fr a : Nat) (tv pm : Value) : Prop where
  c0 : w.cell? ⟨b, 0, none⟩ = some (.string S)
  c1 : w.cell? ⟨b, 1, none⟩ = some (.int .i64 (fr : Int))
  c2 : w.cell? ⟨b, 2, none⟩ = some (.int .i64 (a : Int))
  c3 : w.cell? ⟨b, 3, none⟩ = some tv
  c4 : w.cell? ⟨b, 4, none⟩ = some pm
  f1 : w.frozen? ⟨b, 1, none⟩ = false
  f2 : w.frozen? ⟨b, 2, none⟩ = false
  f3 : w.frozen? ⟨b, 3, none⟩ = false
section
variable {w w' : World} {b fr a : Nat} {S : ByteArray} {tv pm : Value}
theorem Box.keep (h : Box w b S fr a tv pm) (hw : w'.heap[b]? = w.heap[b]?) : Box w' b S fr a tv pm :=
  ⟨(World.cell?_of_block hw).trans h.c0, (World.cell?_of_block hw).trans h.c1, (World.cell?_of_block hw).trans h.c2, (World.cell?_of_block hw).trans h.c3, (World.cell?_of_block hw).trans h.c4, (World.frozen?_of_block hw).trans h.f1, (World.frozen?_of_block hw).trans h.f2, (World.frozen?_of_block hw).trans h.f3⟩
theorem Box.lt (h : Box w b S fr a tv pm) : b < w.heap.size := World.block_lt_of_cell? _ _ h.c0
theorem Box.under {B : Nat} (h : Box w b S fr a tv pm) (hb : Below B w w') (hB : b < B) : Box w' b S fr a tv pm := h.keep (hb.block b hB)
theorem Box.step (h : Box w b S fr a tv pm) (a' : Nat) : Box (w.setCell ⟨b, 2, none⟩ (.int .i64 (a' : Int))) b S fr a' tv pm := by
  obtain ⟨c0, c1, c2, c3, c4, f1, f2, f3⟩ := h
  constructor <;> simp [go_sem, c0, c1, c2, c3, c4, f1, f2, f3]
theorem Box.begin_ (h : Box w b S fr a tv pm) : Box (w.setCell ⟨b, 1, none⟩ (.int .i64 (a : Int))) b S a a tv pm := by
  obtain ⟨c0, c1, c2, c3, c4, f1, f2, f3⟩ := h
  constructor <;> simp [go_sem, c0, c1, c2, c3, c4, f1, f2, f3]
theorem Box.put (h : Box w b S fr a tv pm) (tv' : Value) : Box (w.setCell ⟨b, 3, none⟩ tv') b S fr a tv' pm := by
  obtain ⟨c0, c1, c2, c3, c4, f1, f2, f3⟩ := h
  constructor <;> simp [go_sem, c0, c1, c2, c3, c4, f1, f2, f3]
theorem grown_set (w : World) (b o : Nat) (v : Value) : w.grownBy (w.setCell ⟨b, o, none⟩ v) (some b) :=
  ⟨rfl, rfl, rfl, by simp [World.setCell], fun k hk hne => Below.heap_setCell _ _ _ _ (by rintro rfl; exact hne rfl)⟩
theorem grown_trans {x y z : World} {r : Option Nat} (h1 : x.grownBy y r) (h2 : y.grownBy z r) : x.grownBy z r :=
  ⟨h2.os.trans h1.os, h2.tape.trans h1.tape, h2.output.trans h1.output, Nat.le_trans h1.size h2.size, fun k hk hne => (h2.block k (Nat.lt_of_lt_of_le hk h1.size) hne).trans (h1.block k hk hne)⟩
theorem grown_below {x y : World} (h : Below x.heap.size x y) (row : Option Nat) : x.grownBy y row := ⟨h.os, h.tape, h.output, h.size, fun i hi _ => h.block i hi⟩
theorem drawn_below (w : World) (n : Nat) : Below w.heap.size w (w.drewN n) := ⟨rfl, rfl, rfl, Nat.le_refl _, fun _ _ => rfl⟩
end
theorem rest_get (S : ByteArray) (a : Nat) (h : a < S.size) : restB S a = S[a] :: restB S (a + 1) := by
  unfold restB
  rw [List.drop_eq_getElem_cons (by simpa using h)]
  rfl
theorem rest_nil (S : ByteArray) (a : Nat) (h : S.size ≤ a) : restB S a = [] := by
  unfold restB
  exact List.drop_of_length_le (by simpa using h)
theorem look_in (S : ByteArray) (a n : Nat) (h : a + n < S.size) : lookB (restB S a) n = S[a + n] := by
  unfold lookB restB
  rw [List.getD_eq_getElem?_getD, List.getElem?_drop, List.getElem?_eq_getElem (by simpa using h)]
  rfl
theorem look_out (S : ByteArray) (a n : Nat) (h : S.size ≤ a + n) : lookB (restB S a) n = 0 := by
  unfold lookB restB
  rw [List.getD_eq_getElem?_getD, List.getElem?_drop, List.getElem?_eq_none (by simpa using h)]
  rfl
theorem rest_len (S : ByteArray) (a : Nat) : (restB S a).length = S.size - a := by simp [restB]
end ScnT
namespace Go.Proofs.YthhfgjcdopkmgaaGreatDoor
open Go.Instr Go.RowKit ScnT
set_option linter.unusedVariables false
variable {b fr a : Nat} {S : ByteArray} {tv pm : Value}
theorem step_any (n : Nat) (w : World) (h : Box w b S fr a tv pm) (ha : a ≤ 100000) (hn : n ≤ 100000) :
    Calls Tryz.prog 50 #[.pointer (some ⟨b, 0, none⟩), .int .i64 n] w fun e w' => e = .returned (.tuple #[]) ∧ Box w' b S fr (a + n) tv pm ∧ w.grownBy w' (some b) := by
  have HB := Lib.hid h
  obtain ⟨c0, c1, c2, c3, c4, f1, f2, f3⟩ := h
  go_enter Tryz.func50, Tryz.ntmps50
  go_wp2_with fail
  go_end0
  refine ⟨rfl, ?_, grown_set _ _ _ _⟩
  have := HB.out.step (a + n)
  simpa using this
theorem begin_any (w : World) (h : Box w b S fr a tv pm) :
    Calls Tryz.prog 109 #[.pointer (some ⟨b, 0, none⟩)] w fun e w' => e = .returned (.tuple #[]) ∧ Box w' b S a a tv pm ∧ w.grownBy w' (some b) := by
  have HB := Lib.hid h
  obtain ⟨c0, c1, c2, c3, c4, f1, f2, f3⟩ := h
  go_enter Tryz.func109, Tryz.ntmps109
  go_wp2_with fail
  go_end0
  exact ⟨rfl, HB.out.begin_, grown_set _ _ _ _⟩
theorem look_any (n : Nat) (w : World) (h : Box w b S fr a tv pm) (ha : a ≤ 100000) (hn : n ≤ 100000) (hS : S.size ≤ 100000) :
    Calls Tryz.prog 48 #[.pointer (some ⟨b, 0, none⟩), .int .i64 n] w fun e w' => e = .returned (.int .u8 (lookB (restB S a) n).toNat) ∧ Below w.heap.size w w' := by
  obtain ⟨c0, c1, c2, c3, c4, f1, f2, f3⟩ := h
  have e0 : IntKind.i64.wrap ((a : Int) + (n : Int)) = (a : Int) + (n : Int) := IntWalk.i64_in _ (by omega)
  by_cases hlt : a + n < S.size
  · have HE := Lib.hid (look_in S a n hlt)
    have h1 : ((a : Int) + (n : Int)).toNat = a + n := by omega
    have h2 : 0 ≤ (a : Int) + (n : Int) := by omega
    have h3 : decide ((S.size : Int) ≤ (a : Int) + (n : Int)) = false := by simp; omega
    have h4 : (a : Int) + (n : Int) < (S.size : Int) := by omega
    have h5 : decide (S.size ≤ a + n) = false := by simp; omega
    go_enter Tryz.func48, Tryz.ntmps48
    go_wp2_with fail
    go_quiet (fail)
    go_wp2_with fail
    go_quiet (fail)
    go_wp2_with fail
    go_ret
    exact ⟨by rw [HE.out]; rfl, rfl, rfl, rfl, Nat.le_refl _, fun _ _ => rfl⟩
  · have HE := Lib.hid (look_out S a n (by omega))
    have h3 : decide ((S.size : Int) ≤ (a : Int) + (n : Int)) = true := by simp; omega
    have h5 : decide (S.size ≤ a + n) = true := by simp; omega
    have h6 : S.size ≤ a + n := by omega
    go_enter Tryz.func48, Tryz.ntmps48
    go_wp2_with fail
    go_quiet (fail)
    go_wp2_with fail
    go_ret
    exact ⟨by rw [HE.out]; rfl, drawn_below _ _⟩
theorem atEnd_any (w : World) (h : Box w b S fr a tv pm) :
    Calls Tryz.prog 110 #[.pointer (some ⟨b, 0, none⟩)] w fun e w' => e = .returned (.bool (decide (a = S.size))) ∧ ∃ n, w' = w.drewN n := by
  obtain ⟨c0, c1, c2, c3, c4, f1, f2, f3⟩ := h
  go_enter Tryz.func110, Tryz.ntmps110
  go_wp2_with fail
  go_quiet (fail)
  go_wp2_with fail
  go_ret
  refine ⟨ret_bool (by rw [Bool.eq_iff_iff]; simp; omega), _, rfl⟩
theorem taken_any (w : World) (h : Box w b S fr a tv pm) (hf : fr ≤ a) (ha : a ≤ S.size) (hS : S.size ≤ 100000) :
    Calls Tryz.prog 178 #[.pointer (some ⟨b, 0, none⟩)] w fun e w' => e = .returned (.string (mkS ((restB S fr).take (a - fr)))) ∧ Below w.heap.size w w' := by
  obtain ⟨c0, c1, c2, c3, c4, f1, f2, f3⟩ := h
  have HE := Lib.hid (Lib.extract_eq S fr a)
  go_enter Tryz.func178, Tryz.ntmps178
  go_wp2_with fail
  go_quiet (fail)
  go_wp2_with fail
  go_ret
  exact ⟨by rw [HE.out]; rfl, drawn_below _ _⟩
end Go.Proofs.YthhfgjcdopkmgaaGreatDoor
