import Derived.Test.YtldedhfbpongmaaDoorNodV
import Derived.Test.YtldedhfbpongmaaDoorNodP
set_option maxRecDepth 100000
namespace NodT
open Go
def textB (k : Nat) (s : ByteArray) : Bool :=
  if k = 1 ∨ k = 2 ∨ k = 3 ∨ k = 4 ∨ k = 7 ∨ k = 10 ∨ k = 25 ∨ k = 28 ∨ k = 31 ∨ k = 33 ∨ k = 34 then nameB s
  else if k = 14 ∨ k = 18 ∨ k = 19 then s.toList.isEmpty || nameB s
  else if k = 21 then decide (s.size ≤ 40) && wholeB s
  else if k = 22 then floatB s
  else if k = 23 then true
  else if k = 26 then opB s 1
  else if k = 27 then opB s 2
  else s.toList.isEmpty
def numB (k : Nat) (n : Int) : Bool :=
  if k = 11 ∨ k = 12 then decide (1 ≤ n)
  else if k = 24 then decide (n = 0) || decide (n = 1)
  else if k = 35 then decide (0 ≤ n) && decide (n ≤ 99)
  else decide (n = 0)
def Nd.look (t : Nd) (d : Int) : Value := .agg #[.int .u8 t.kind, .string t.text, .int .i64 t.num, .int .i64 t.place, t.row, .int .i64 d]
end NodT
namespace Go.Proofs.YtldedhfbpongmaaDoor
open Go.Instr Go.RowKit NodT
set_option linter.unusedVariables false
set_option maxHeartbeats 2000000 in
theorem hasItsNum_any (t : Nd) (d : Int) (w : World) : Calls Tryd.prog 27 #[t.look d] w fun e w' => e = .returned (.bool (numB t.kind t.num)) ∧ Below w.heap.size w w' := by
  unfold Nd.look Nd.row
  generalize t.kind = k
  generalize t.text = s
  generalize t.num = n
  generalize t.place = p
  generalize Value.slice t.addr t.kids.length t.cap = v
  go_enter Tryd.func27, Tryd.ntmps27
  go_wp2_with fail
  all_goals
    go_ret
    refine ⟨ret_bool ?_, by go_grown⟩
    simp only [beq_iff_eq, beq_eq_false_iff_ne, ne_eq] at *
    unfold numB
    repeat' split
    all_goals first | omega | rfl | (simp; omega) | (simp; done)

theorem isOperator_any (s : ByteArray) (m : Int) (hm : m = 1 ∨ m = 2) (w : World) (ho : OpsAt 0 w) : Calls Tryd.prog 35 #[.string s, .int .i64 m] w fun e w' => e = .returned (.bool (opB s m.toNat)) ∧ Below w.heap.size w w' := by
  rcases hm with rfl | rfl
  · exact isOperator_1 s w ho
  · exact isOperator_2 s w ho
set_option maxHeartbeats 4000000 in
theorem hasItsText_any (t : Nd) (d : Int) (w : World) (hf : t.text.size ≤ maxLen) (ho : OpsAt 0 w) : Calls Tryd.prog 26 #[t.look d] w fun e w' => e = .returned (.bool (textB t.kind t.text)) ∧ Below w.heap.size w w' := by
  unfold Nd.look Nd.row
  generalize t.kind = k
  generalize t.text = s at *
  generalize t.num = n
  generalize t.place = p
  generalize Value.slice t.addr t.kids.length t.cap = v
  have hf' := hf
  have HN := Lib.hid (fun W => isName_any s W hf)
  have HW := Lib.hid (fun W => isWhole_any s W hf)
  have HF := Lib.hid (fun W => isFloat_any s W hf)
  have HO := Lib.hid (fun m hm W h => isOperator_any s m hm W h)
  have HB : Hid (∀ o, Below w.heap.size w (w.alloc o) ∧ OpsAt 0 (w.alloc o)) := fun o => ⟨(Below.refl _ _).alloc (Nat.le_refl _) _, ho.under ((Below.refl _ _).alloc (Nat.le_refl _) _)⟩
  clear ho hf
  unfold maxLen at hf'
  go_enter Tryd.func26, Tryd.ntmps26
  go_wp2_with (first | (go_at_call 32; refine (HN.out _).mono ?_; rintro e w' ⟨rfl, rfl⟩) | (go_at_call 33; refine (HW.out _).mono ?_; rintro e w' ⟨rfl, rfl⟩) | (go_at_call 34; refine (HF.out _).mono ?_; rintro e w' ⟨rfl, hb⟩) | (go_at_call 35; refine (HO.out _ (by omega) _ (HB.out _).2).mono ?_; rintro e w' ⟨rfl, hb⟩))
  all_goals
    go_ret
    refine ⟨ret_bool ?_, ?_⟩
    · simp only [beq_iff_eq, beq_eq_false_iff_ne, ne_eq] at *
      unfold textB
      repeat' split
      all_goals first | omega | rfl | (simp [*]; done) | (simp [*]; omega)
    · first | exact (HB.out _).1 | exact (HB.out _).1.trans (hb.mono (by simp))
end Go.Proofs.YtldedhfbpongmaaDoor
