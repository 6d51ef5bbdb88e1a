import Derived.Test.YtgncihoioacgjaaGreatDoorNumC
namespace Go.Proofs.YtgncihoioacgjaaGreatDoor
open Go.Instr Go.RowKit
set_option linter.unusedVariables false

theorem IntIs_of (op : ByteArray) (a b : Int) (t : Bool) (c : Int) (h : ∀ w, Calls Tryz.prog 30 #[.string op, .int .i64 a, .int .i64 b] w fun e w' => e = .returned (.tuple #[.bool t, .int .i64 c]) ∧ Below w.heap.size w w') (w : World) :
    Calls Tryz.prog 12 #[.string op, .int .i64 a, .int .i64 b] w fun e w' => e = .returned (.tuple #[.bool t, .int .i64 c]) ∧ Below w.heap.size w w' := by
  have H := Lib.hid h
  clear h
  go_enter Tryz.func12, Tryz.ntmps12
  go_wp2_with (first | (go_at_call 30; refine (H.out _).mono ?_; rintro e w' ⟨rfl, hb⟩))
  go_ret2
  exact ⟨rfl, hb⟩
theorem rIntIs_of (op : ByteArray) (a b : Int) (t : Bool) (c : Int) (h : ∀ w, Calls Tryz.prog 31 #[.string op, .bool (decide (a < b)), .bool (a == b)] w fun e w' => e = .returned (.tuple #[.bool t, .int .i64 c]) ∧ w = w') (w : World) :
    Calls Tryz.prog 13 #[.string op, .int .i64 a, .int .i64 b] w fun e w' => e = .returned (.tuple #[.bool t, .int .i64 c]) ∧ w = w' := by
  have H := Lib.hid h
  clear h
  go_enter Tryz.func13, Tryz.ntmps13
  go_wp2_with (first | (go_at_call 31; refine (H.out _).mono ?_; rintro e w' ⟨rfl, rfl⟩))
  go_ret2
  exact ⟨rfl, rfl⟩

theorem IntIs_both (op : ByteArray) (a b : Int) : ∃ (t : Bool) (c : Int), (∀ w, Calls Tryz.prog 12 #[.string op, .int .i64 a, .int .i64 b] w fun e w' => e = .returned (.tuple #[.bool t, .int .i64 c]) ∧ Below w.heap.size w w') ∧
    ∀ w, Calls Tryz.prog 13 #[.string op, .int .i64 a, .int .i64 b] w fun e w' => e = .returned (.tuple #[.bool t, .int .i64 c]) ∧ w = w' := by
  by_cases h1 : op = ⟨#[61, 61]⟩
  · subst h1
    have e : (a == b) = (a == b) := rfl
    exact ⟨(a == b), 0, IntIs_of _ a b _ _ (cmpI_eq a b), rIntIs_of _ a b _ _ (e ▸ is_eq _ _)⟩
  by_cases h2 : op = ⟨#[33, 61]⟩
  · subst h2
    have e : (!(a == b)) = (a != b) := rfl
    exact ⟨(a != b), 0, IntIs_of _ a b _ _ (cmpI_ne a b), rIntIs_of _ a b _ _ (e ▸ is_ne _ _)⟩
  by_cases h3 : op = ⟨#[60]⟩
  · subst h3
    have e : (decide (a < b)) = (decide (a < b)) := rfl
    exact ⟨(decide (a < b)), 0, IntIs_of _ a b _ _ (cmpI_lt a b), rIntIs_of _ a b _ _ (e ▸ is_lt _ _)⟩
  by_cases h4 : op = ⟨#[60, 61]⟩
  · subst h4
    have e : ((decide (a < b)) || (a == b)) = (decide (a ≤ b)) := (by rw [Bool.eq_iff_iff]; simp; omega)
    exact ⟨(decide (a ≤ b)), 0, IntIs_of _ a b _ _ (cmpI_le a b), rIntIs_of _ a b _ _ (e ▸ is_le _ _)⟩
  by_cases h5 : op = ⟨#[62]⟩
  · subst h5
    have e : (!(decide (a < b)) && !(a == b)) = (decide (a > b)) := (by rw [Bool.eq_iff_iff]; simp; omega)
    exact ⟨(decide (a > b)), 0, IntIs_of _ a b _ _ (cmpI_gt a b), rIntIs_of _ a b _ _ (e ▸ is_gt _ _)⟩
  by_cases h6 : op = ⟨#[62, 61]⟩
  · subst h6
    have e : (!(decide (a < b))) = (decide (a ≥ b)) := (by rw [Bool.eq_iff_iff]; simp)
    exact ⟨(decide (a ≥ b)), 0, IntIs_of _ a b _ _ (cmpI_ge a b), rIntIs_of _ a b _ _ (e ▸ is_ge _ _)⟩
  exact ⟨false, 2, IntIs_of _ a b _ _ (fun w => cmpI_none op a b w h1 h2 h3 h4 h5 h6), rIntIs_of _ a b _ _ (fun w => is_none op _ _ w h1 h2 h3 h4 h5 h6)⟩

theorem NumInts_core (op : ByteArray) (a b : Int) (w : World) (haw : ∀ w, Calls Tryz.prog 9 #[] w fun e w' => e = .returned (.bool true) ∧ Below w.heap.size w w') : True := trivial
end Go.Proofs.YtgncihoioacgjaaGreatDoor
