import Derived.Test.YtgncihoioacgjaaGreatDoorNumB
namespace Go.Proofs.YtgncihoioacgjaaGreatDoor
open Go.Instr Go.RowKit
set_option linter.unusedVariables false

def mc1 : Array MapEntry := #[{ key := .string ⟨#[61, 61]⟩, val := fv 66, born := 0 }]
def mc2 : Array MapEntry := mc1.push { key := .string ⟨#[33, 61]⟩, val := fv 67, born := 1 }
def mc3 : Array MapEntry := mc2.push { key := .string ⟨#[60]⟩, val := fv 68, born := 2 }
def mc4 : Array MapEntry := mc3.push { key := .string ⟨#[60, 61]⟩, val := fv 69, born := 3 }
def mc5 : Array MapEntry := mc4.push { key := .string ⟨#[62]⟩, val := fv 70, born := 4 }
def mc6 : Array MapEntry := mc5.push { key := .string ⟨#[62, 61]⟩, val := fv 71, born := 5 }
theorem mc_any (w : World) : Calls Tryz.prog 54 #[] w fun e w' => e = .returned (.map (some w.heap.size)) ∧ w.alloc (.map mc6 6) = w' := by
  have hmm := @run_makeMap Tryz.prog
  have h1 : (mapUpdate 79 (.map (some w.heap.size)) (.string ⟨#[61, 61]⟩) (fv 66)).run Tryz.prog (w.alloc (.map #[] 0)) = .ok () (w.alloc (.map mc1 1)) := run_mapUpdate_lit 79 9 45 w #[] 0 _ _ Tryz.underlying79 Tryz.underlying9 rfl
  have h2 : (mapUpdate 79 (.map (some w.heap.size)) (.string ⟨#[33, 61]⟩) (fv 67)).run Tryz.prog (w.alloc (.map mc1 1)) = .ok () (w.alloc (.map mc2 2)) := run_mapUpdate_lit 79 9 45 w mc1 1 _ _ Tryz.underlying79 Tryz.underlying9 rfl
  have h3 : (mapUpdate 79 (.map (some w.heap.size)) (.string ⟨#[60]⟩) (fv 68)).run Tryz.prog (w.alloc (.map mc2 2)) = .ok () (w.alloc (.map mc3 3)) := run_mapUpdate_lit 79 9 45 w mc2 2 _ _ Tryz.underlying79 Tryz.underlying9 rfl
  have h4 : (mapUpdate 79 (.map (some w.heap.size)) (.string ⟨#[60, 61]⟩) (fv 69)).run Tryz.prog (w.alloc (.map mc3 3)) = .ok () (w.alloc (.map mc4 4)) := run_mapUpdate_lit 79 9 45 w mc3 3 _ _ Tryz.underlying79 Tryz.underlying9 rfl
  have h5 : (mapUpdate 79 (.map (some w.heap.size)) (.string ⟨#[62]⟩) (fv 70)).run Tryz.prog (w.alloc (.map mc4 4)) = .ok () (w.alloc (.map mc5 5)) := run_mapUpdate_lit 79 9 45 w mc4 4 _ _ Tryz.underlying79 Tryz.underlying9 rfl
  have h6 : (mapUpdate 79 (.map (some w.heap.size)) (.string ⟨#[62, 61]⟩) (fv 71)).run Tryz.prog (w.alloc (.map mc5 5)) = .ok () (w.alloc (.map mc6 6)) := run_mapUpdate_lit 79 9 45 w mc5 5 _ _ Tryz.underlying79 Tryz.underlying9 rfl
  simp only [fv] at h1 h2 h3 h4 h5 h6
  go_enter Tryz.func54, Tryz.ntmps54
  go_wp2
  go_ret
  exact ⟨rfl, rfl⟩
theorem zero_mc (w : World) : (zeroValue 45).run Tryz.prog w = .ok .nilFunc w := by kernel_rfl
theorem look_mc (w : World) (op : ByteArray) (i : Nat) (v : Value) (h : findNow .string (.string op) mc6.toList 0 = some (some (i, v))) :
    (lookup 79 (.map (some w.heap.size)) (.string op) true).run Tryz.prog (w.alloc (.map mc6 6)) = .ok (.tuple #[v, .bool true]) (w.alloc (.map mc6 6)) :=
  run_lookup_ok_there 79 9 45 _ _ mc6 6 op i v Tryz.underlying79 Tryz.underlying9 (MapKept.heap_alloc w _).1 h
theorem look_mc_not (w : World) (op : ByteArray) (h : findNow .string (.string op) mc6.toList 0 = some none) :
    (lookup 79 (.map (some w.heap.size)) (.string op) true).run Tryz.prog (w.alloc (.map mc6 6)) = .ok (.tuple #[.nilFunc, .bool false]) (w.alloc (.map mc6 6)) :=
  run_lookup_ok_not 79 9 45 _ _ mc6 6 op _ Tryz.underlying79 Tryz.underlying9 (MapKept.heap_alloc w _).1 (zero_mc _) h
theorem cmpI_eq (a b : Int) (w : World) : Calls Tryz.prog 30 #[.string ⟨#[61, 61]⟩, .int .i64 a, .int .i64 b] w fun e w' => e = .returned (.tuple #[.bool (a == b), .int .i64 0]) ∧ Below w.heap.size w w' := by
  have hl := look_mc w ⟨#[61, 61]⟩ 0 (fv 66) rfl
  unfold fv at hl
  go_enter Tryz.func30, Tryz.ntmps30
  go_wp2_with (first | (go_at_call 54; refine (mc_any _).mono ?_; rintro e w' ⟨rfl, rfl⟩) | (go_at_call 66; go_in))
  go_ret2
  exact ⟨rfl, by go_grown⟩
theorem cmpI_ne (a b : Int) (w : World) : Calls Tryz.prog 30 #[.string ⟨#[33, 61]⟩, .int .i64 a, .int .i64 b] w fun e w' => e = .returned (.tuple #[.bool (a != b), .int .i64 0]) ∧ Below w.heap.size w w' := by
  have hl := look_mc w ⟨#[33, 61]⟩ 1 (fv 67) rfl
  unfold fv at hl
  go_enter Tryz.func30, Tryz.ntmps30
  go_wp2_with (first | (go_at_call 54; refine (mc_any _).mono ?_; rintro e w' ⟨rfl, rfl⟩) | (go_at_call 67; go_in))
  go_ret2
  exact ⟨rfl, by go_grown⟩
theorem cmpI_lt (a b : Int) (w : World) : Calls Tryz.prog 30 #[.string ⟨#[60]⟩, .int .i64 a, .int .i64 b] w fun e w' => e = .returned (.tuple #[.bool (decide (a < b)), .int .i64 0]) ∧ Below w.heap.size w w' := by
  have hl := look_mc w ⟨#[60]⟩ 2 (fv 68) rfl
  unfold fv at hl
  go_enter Tryz.func30, Tryz.ntmps30
  go_wp2_with (first | (go_at_call 54; refine (mc_any _).mono ?_; rintro e w' ⟨rfl, rfl⟩) | (go_at_call 68; go_in))
  go_ret2
  exact ⟨rfl, by go_grown⟩
theorem cmpI_le (a b : Int) (w : World) : Calls Tryz.prog 30 #[.string ⟨#[60, 61]⟩, .int .i64 a, .int .i64 b] w fun e w' => e = .returned (.tuple #[.bool (decide (a ≤ b)), .int .i64 0]) ∧ Below w.heap.size w w' := by
  have hl := look_mc w ⟨#[60, 61]⟩ 3 (fv 69) rfl
  unfold fv at hl
  go_enter Tryz.func30, Tryz.ntmps30
  go_wp2_with (first | (go_at_call 54; refine (mc_any _).mono ?_; rintro e w' ⟨rfl, rfl⟩) | (go_at_call 69; go_in))
  go_ret2
  exact ⟨rfl, by go_grown⟩
theorem cmpI_gt (a b : Int) (w : World) : Calls Tryz.prog 30 #[.string ⟨#[62]⟩, .int .i64 a, .int .i64 b] w fun e w' => e = .returned (.tuple #[.bool (decide (a > b)), .int .i64 0]) ∧ Below w.heap.size w w' := by
  have hl := look_mc w ⟨#[62]⟩ 4 (fv 70) rfl
  unfold fv at hl
  go_enter Tryz.func30, Tryz.ntmps30
  go_wp2_with (first | (go_at_call 54; refine (mc_any _).mono ?_; rintro e w' ⟨rfl, rfl⟩) | (go_at_call 70; go_in))
  go_ret2
  exact ⟨rfl, by go_grown⟩
theorem cmpI_ge (a b : Int) (w : World) : Calls Tryz.prog 30 #[.string ⟨#[62, 61]⟩, .int .i64 a, .int .i64 b] w fun e w' => e = .returned (.tuple #[.bool (decide (a ≥ b)), .int .i64 0]) ∧ Below w.heap.size w w' := by
  have hl := look_mc w ⟨#[62, 61]⟩ 5 (fv 71) rfl
  unfold fv at hl
  go_enter Tryz.func30, Tryz.ntmps30
  go_wp2_with (first | (go_at_call 54; refine (mc_any _).mono ?_; rintro e w' ⟨rfl, rfl⟩) | (go_at_call 71; go_in))
  go_ret2
  exact ⟨rfl, by go_grown⟩
theorem cmpI_none (op : ByteArray) (a b : Int) (w : World) (h1 : op ≠ ⟨#[61, 61]⟩) (h2 : op ≠ ⟨#[33, 61]⟩) (h3 : op ≠ ⟨#[60]⟩) (h4 : op ≠ ⟨#[60, 61]⟩) (h5 : op ≠ ⟨#[62]⟩) (h6 : op ≠ ⟨#[62, 61]⟩) :
    Calls Tryz.prog 30 #[.string op, .int .i64 a, .int .i64 b] w fun e w' => e = .returned (.tuple #[.bool false, .int .i64 2]) ∧ Below w.heap.size w w' := by
  have hl := look_mc_not w op (by simp [mc6, mc5, mc4, mc3, mc2, mc1, findNow, sameNow, ne1 h1, ne1 h2, ne1 h3, ne1 h4, ne1 h5, ne1 h6])
  clear h1 h2 h3 h4 h5 h6
  go_enter Tryz.func30, Tryz.ntmps30
  go_wp2_with (first | (go_at_call 54; refine (mc_any _).mono ?_; rintro e w' ⟨rfl, rfl⟩))
  go_ret2
  exact ⟨rfl, by go_grown⟩
theorem is_eq (x y : Bool) (w : World) : Calls Tryz.prog 31 #[.string ⟨#[61, 61]⟩, .bool x, .bool y] w fun e w' => e = .returned (.tuple #[.bool y, .int .i64 0]) ∧ w = w' := by
  cases x <;> cases y <;> (go_enter Tryz.func31, Tryz.ntmps31; go_wp2; go_ret2; exact ⟨rfl, rfl⟩)
theorem is_ne (x y : Bool) (w : World) : Calls Tryz.prog 31 #[.string ⟨#[33, 61]⟩, .bool x, .bool y] w fun e w' => e = .returned (.tuple #[.bool (!y), .int .i64 0]) ∧ w = w' := by
  cases x <;> cases y <;> (go_enter Tryz.func31, Tryz.ntmps31; go_wp2; go_ret2; exact ⟨rfl, rfl⟩)
theorem is_lt (x y : Bool) (w : World) : Calls Tryz.prog 31 #[.string ⟨#[60]⟩, .bool x, .bool y] w fun e w' => e = .returned (.tuple #[.bool x, .int .i64 0]) ∧ w = w' := by
  cases x <;> cases y <;> (go_enter Tryz.func31, Tryz.ntmps31; go_wp2; go_ret2; exact ⟨rfl, rfl⟩)
theorem is_le (x y : Bool) (w : World) : Calls Tryz.prog 31 #[.string ⟨#[60, 61]⟩, .bool x, .bool y] w fun e w' => e = .returned (.tuple #[.bool (x || y), .int .i64 0]) ∧ w = w' := by
  cases x <;> cases y <;> (go_enter Tryz.func31, Tryz.ntmps31; go_wp2; go_ret2; exact ⟨rfl, rfl⟩)
theorem is_gt (x y : Bool) (w : World) : Calls Tryz.prog 31 #[.string ⟨#[62]⟩, .bool x, .bool y] w fun e w' => e = .returned (.tuple #[.bool (!x && !y), .int .i64 0]) ∧ w = w' := by
  cases x <;> cases y <;> (go_enter Tryz.func31, Tryz.ntmps31; go_wp2; go_ret2; exact ⟨rfl, rfl⟩)
theorem is_ge (x y : Bool) (w : World) : Calls Tryz.prog 31 #[.string ⟨#[62, 61]⟩, .bool x, .bool y] w fun e w' => e = .returned (.tuple #[.bool (!x), .int .i64 0]) ∧ w = w' := by
  cases x <;> cases y <;> (go_enter Tryz.func31, Tryz.ntmps31; go_wp2; go_ret2; exact ⟨rfl, rfl⟩)
theorem is_none (op : ByteArray) (x y : Bool) (w : World) (h1 : op ≠ ⟨#[61, 61]⟩) (h2 : op ≠ ⟨#[33, 61]⟩) (h3 : op ≠ ⟨#[60]⟩) (h4 : op ≠ ⟨#[60, 61]⟩) (h5 : op ≠ ⟨#[62]⟩) (h6 : op ≠ ⟨#[62, 61]⟩) :
    Calls Tryz.prog 31 #[.string op, .bool x, .bool y] w fun e w' => e = .returned (.tuple #[.bool false, .int .i64 2]) ∧ w = w' := by
  have k1 := ne2 (l := [61, 61]) h1
  have k2 := ne2 (l := [33, 61]) h2
  have k3 := ne2 (l := [60]) h3
  have k4 := ne2 (l := [60, 61]) h4
  have k5 := ne2 (l := [62]) h5
  have k6 := ne2 (l := [62, 61]) h6
  clear h1 h2 h3 h4 h5 h6
  go_enter Tryz.func31, Tryz.ntmps31
  go_wp2
  go_ret2
  exact ⟨rfl, rfl⟩
end Go.Proofs.YtgncihoioacgjaaGreatDoor
