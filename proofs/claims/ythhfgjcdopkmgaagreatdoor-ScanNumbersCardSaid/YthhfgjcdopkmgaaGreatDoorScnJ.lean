/- Pieces; what a line may end with; tokens put. -/
import Derived.Test.YthhfgjcdopkmgaaGreatDoorScnI
set_option maxRecDepth 100000
namespace ScnT
open Go Go.RowKit
set_option linter.unusedVariables false
/-- A token's cells. -/
def tcs (t : Tok) : List Value := [.int .u8 (t.kind : Int), .string (mkS t.text), .int .i64 (t.place : Int)]
def tval (t : Tok) : Value := .agg #[.int .u8 (t.kind : Int), .string (mkS t.text), .int .i64 (t.place : Int)]
def tcells (ts : List Tok) : List Value := ts.flatMap tcs
theorem tcells_length (ts : List Tok) : (tcells ts).length = ts.length * 3 := by
  induction ts with
  | nil => rfl
  | cons t ts ih => simp only [tcells, List.flatMap_cons, List.length_append, List.length_cons] at ih ⊢; rw [ih]; simp [tcs]; omega
theorem tcells_append (a b : List Tok) : tcells (a ++ b) = tcells a ++ tcells b := by simp [tcells]
theorem tcells_one (t : Tok) : tcells [t] = tcs t := by simp [tcells]
theorem tcells_at (ts : List Tok) (i j : Nat) (t : Tok) (v : Value) (hi : ts[i]? = some t) (hj : (tcs t)[j]? = some v) : (tcells ts)[i * 3 + j]? = some v := by
  induction ts generalizing i with
  | nil => simp at hi
  | cons u us ih =>
    have hl : (tcs u).length = 3 := rfl
    have hjl : j < 3 := (List.getElem?_eq_some_iff.1 hj).1
    show (tcs u ++ tcells us)[i * 3 + j]? = _
    cases i with
    | zero =>
      simp only [List.getElem?_cons_zero, Option.some.injEq] at hi
      subst hi
      rw [List.getElem?_append_left (by omega)]
      simpa using hj
    | succ i =>
      rw [List.getElem?_append_right (by omega), hl]
      have : (i + 1) * 3 + j - 3 = i * 3 + j := by omega
      rw [this]
      exact ih i (by simpa using hi)
/-- The scanner with the tokens that stand ahead. -/
structure St (E : TypeId) (w : World) (b : Nat) (S : ByteArray) (fr a : Nat) (ts : List Tok) (tv pm : Value) : Prop where
  box : Box w b S fr a tv pm
  own : w.ownsRow (b + 1) E 3 tv ts.length (tcells ts)
  kinds : ∀ t ∈ ts, 1 ≤ t.kind ∧ t.kind ≤ 8
theorem St.keep {E : TypeId} {w w' : World} {b : Nat} {S : ByteArray} {fr a a' fr' : Nat} {ts : List Tok} {tv pm : Value} (h : St E w b S fr a ts tv pm) (hb : Box w' b S fr' a' tv pm) (hg : w.grownBy w' (some b)) : St E w' b S fr' a' ts tv pm := by
  refine ⟨hb, h.own.kept hg (Or.inr fun hh => ?_), h.kinds⟩
  have := h.own.lt b hh
  omega
theorem St.under {E : TypeId} {w w' : World} {b : Nat} {S : ByteArray} {fr a : Nat} {ts : List Tok} {tv pm : Value} (h : St E w b S fr a ts tv pm) (hb : Below w.heap.size w w') : St E w' b S fr a ts tv pm :=
  h.keep (h.box.under hb h.box.lt) (grown_below hb _)
end ScnT
namespace Go.Proofs.YthhfgjcdopkmgaaGreatDoor
open Go.Instr Go.RowKit ScnT
set_option linter.unusedVariables false
variable {b fr a : Nat} {S : ByteArray} {tv pm : Value}
theorem Tryz.infoTok : (Tryz.prog.info? 67).map (fun i => (i.zero, i.size, i.bytes)) = some (some (.agg #[.int .u8 0, .string ⟨#[]⟩, .int .i64 0]), 3, 32) := by kernel_rfl
theorem piece_any (n : Nat) (w : World) (h : Box w b S fr a tv pm) (ha : a ≤ S.size) (hS : S.size ≤ 100000) (hn : n ≤ 3) :
    Calls Tryz.prog 180 #[.pointer (some ⟨b, 0, none⟩), .int .i64 n] w fun e w' => e = .returned (.string (mkS ((restB S a).take n))) ∧ Below w.heap.size w w' := by
  obtain ⟨c0, c1, c2, c3, c4, f1, f2, f3⟩ := h
  have e0 : IntKind.i64.wrap ((a : Int) + (n : Int)) = (a : Int) + (n : Int) := IntWalk.i64_in _ (by omega)
  by_cases hlt : a + n ≤ S.size
  · have HE : Hid (S.extract a (a + n) = mkS ((restB S a).take n)) := by
      show _ = _
      rw [Lib.extract_eq]
      have : a + n - a = n := by omega
      rw [this]
      rfl
    have hm : min ((a : Int) + (n : Int)) (S.size : Int) = (a : Int) + (n : Int) := by omega
    have h1 : ((a : Int) + (n : Int)).toNat = a + n := by omega
    have h2 : 0 ≤ (a : Int) + (n : Int) := by omega
    have h4 : (a : Int) + (n : Int) ≤ (S.size : Int) := by omega
    have h5 : (a : Int) ≤ (a : Int) + (n : Int) := by omega
    go_enter Tryz.func180, Tryz.ntmps180
    go_wp2_with fail
    go_quiet (fail)
    go_wp2_with fail
    go_ret
    exact ⟨by rw [HE.out]; rfl, drawn_below _ _⟩
  · have HE : Hid (S.extract a S.size = mkS ((restB S a).take n)) := by
      show _ = _
      rw [Lib.extract_eq]
      have h1 : (restB S a).take n = restB S a := List.take_of_length_le (by rw [rest_len]; omega)
      have h2 : (S.data.toList.drop a).take (S.size - a) = restB S a := List.take_of_length_le (by simp)
      rw [h1, h2]
      rfl
    have hm : min ((a : Int) + (n : Int)) (S.size : Int) = (S.size : Int) := by omega
    go_enter Tryz.func180, Tryz.ntmps180
    go_wp2_with fail
    go_quiet (fail)
    go_wp2_with fail
    go_ret
    exact ⟨by rw [HE.out]; rfl, drawn_below _ _⟩
theorem mayEnd_ways (t : Tok) (hk : 1 ≤ t.kind ∧ t.kind ≤ 8) : (t.kind = 1 ∧ mayEnd t = lineWords.contains t.text) ∨ (t.kind = 6 ∧ mayEnd t = lineSigns.contains t.text) ∨ (t.kind = 7 ∧ mayEnd t = false) ∨ (t.kind = 2 ∧ mayEnd t = true) ∨ (t.kind = 3 ∧ mayEnd t = true) ∨ (t.kind = 4 ∧ mayEnd t = true) ∨ (t.kind = 5 ∧ mayEnd t = true) ∨ (t.kind = 8 ∧ mayEnd t = true) := by
  obtain ⟨k, x, p⟩ := t
  simp only at hk ⊢
  have : k = 1 ∨ k = 2 ∨ k = 3 ∨ k = 4 ∨ k = 5 ∨ k = 6 ∨ k = 7 ∨ k = 8 := by omega
  rcases this with rfl | rfl | rfl | rfl | rfl | rfl | rfl | rfl <;> simp [mayEnd]
set_option maxHeartbeats 1000000 in
theorem mayEndLine_any (t : Tok) (w : World) (hk : 1 ≤ t.kind ∧ t.kind ≤ 8) : Calls Tryz.prog 111 #[tval t] w fun e w' => e = .returned (.bool (mayEnd t)) ∧ Below w.heap.size w w' := by
  have hw := mayEnd_ways t hk
  obtain ⟨k, x, p⟩ := t
  simp only at hw
  unfold tval
  simp only
  generalize hm : mayEnd ⟨k, x, p⟩ = m at hw ⊢
  clear hm hk
  have HB1 : Hid (∀ k : Int, Below w.heap.size w ((w.alloc (.cells #[.int .u8 k, .string (mkS x), .int .i64 p] 67)).alloc (.cells (lineWords.map fun t => Value.string (mkS t)).toArray 9))) := fun k => ((Below.refl _ _).alloc (Nat.le_refl _) _).alloc (by simp) _
  have HB2 : Hid (∀ k : Int, Below w.heap.size w ((w.alloc (.cells #[.int .u8 k, .string (mkS x), .int .i64 p] 67)).alloc (.cells (lineSigns.map fun t => Value.string (mkS t)).toArray 9))) := fun k => ((Below.refl _ _).alloc (Nat.le_refl _) _).alloc (by simp) _
  have HR1 : Hid (∀ k : Int, ∀ j, j < (lineWords.map mkS).length → ((w.alloc (.cells #[.int .u8 k, .string (mkS x), .int .i64 p] 67)).alloc (.cells (lineWords.map fun t => Value.string (mkS t)).toArray 9)).cell? ⟨w.heap.size + 1, 0 + j, none⟩ = some (.string ((lineWords.map mkS).getD j ByteArray.empty))) := fun k => by
    have := row_cells (w.alloc (.cells #[.int .u8 k, .string (mkS x), .int .i64 p] 67)) lineWords
    rwa [show (w.alloc (.cells #[.int .u8 k, .string (mkS x), .int .i64 p] 67)).heap.size = w.heap.size + 1 from by simp] at this
  have HR2 : Hid (∀ k : Int, ∀ j, j < (lineSigns.map mkS).length → ((w.alloc (.cells #[.int .u8 k, .string (mkS x), .int .i64 p] 67)).alloc (.cells (lineSigns.map fun t => Value.string (mkS t)).toArray 9)).cell? ⟨w.heap.size + 1, 0 + j, none⟩ = some (.string ((lineSigns.map mkS).getD j ByteArray.empty))) := fun k => by
    have := row_cells (w.alloc (.cells #[.int .u8 k, .string (mkS x), .int .i64 p] 67)) lineSigns
    rwa [show (w.alloc (.cells #[.int .u8 k, .string (mkS x), .int .i64 p] 67)).heap.size = w.heap.size + 1 from by simp] at this
  rcases hw with ⟨rfl, hm⟩ | ⟨rfl, hm⟩ | ⟨rfl, rfl⟩ | ⟨rfl, rfl⟩ | ⟨rfl, rfl⟩ | ⟨rfl, rfl⟩ | ⟨rfl, rfl⟩ | ⟨rfl, rfl⟩
  · have HM := Lib.hid hm
    clear hm
    go_enter Tryz.func111, Tryz.ntmps111
    go_wp2_with fail
    refine (isOneOf_any lineWords (mkS x) (w.heap.size + 1) 5 _ rfl (by decide) (HR1.out 1)).mono ?_
    rintro e w' ⟨rfl, rfl⟩
    go_wp2_with fail
    go_ret
    exact ⟨ret_bool (by rw [HM.out]; simp), HB1.out 1⟩
  · have HM := Lib.hid hm
    clear hm
    go_enter Tryz.func111, Tryz.ntmps111
    go_wp2_with fail
    refine (isOneOf_any lineSigns (mkS x) (w.heap.size + 1) 3 _ rfl (by decide) (HR2.out 6)).mono ?_
    rintro e w' ⟨rfl, rfl⟩
    go_wp2_with fail
    go_ret
    exact ⟨ret_bool (by rw [HM.out]; simp), HB2.out 6⟩
  all_goals
    go_enter Tryz.func111, Tryz.ntmps111
    go_wp2_with fail
    go_ret
    exact ⟨rfl, (Below.refl _ _).alloc (Nat.le_refl _) _⟩
end Go.Proofs.YthhfgjcdopkmgaaGreatDoor
