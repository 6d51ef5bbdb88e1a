import Derived.Test.YtgncihoioacgjaaGreatDoorNumG
namespace Go.Proofs.YtgncihoioacgjaaGreatDoor
open Go.Instr Go.RowKit NumF
set_option linter.unusedVariables false

theorem rFloat_add (a b : Nat) (w : World) : Calls Tryz.prog 15 #[.string ⟨#[43]⟩, .int .u64 (a : Int), .int .u64 (b : Int)] w fun e w' => e = .returned (.tuple #[.int .u64 (fr .add a b), .int .i64 0]) ∧ Below w.heap.size w w' := by
  have f1 := frombits_run a
  have f2 := frombits_run b
  obtain ⟨nb, w1, hw, hlt, hfr, hrun⟩ := op_run .add (by simp) a b w
  have f3 := bits_run nb
  rw [hfr]
  clear hfr
  have hb : Below w.heap.size w w1 := by rcases hw with rfl | rfl <;> go_grown
  clear hw
  go_enter Tryz.func15, Tryz.ntmps15
  go_wp2_with (first | (go_at_call 19; refine (rPlain_any _ hlt _).mono ?_; rintro e w' ⟨rfl, rfl⟩))
  go_ret2
  exact ⟨rfl, hb⟩
theorem rFloat_sub (a b : Nat) (w : World) : Calls Tryz.prog 15 #[.string ⟨#[45]⟩, .int .u64 (a : Int), .int .u64 (b : Int)] w fun e w' => e = .returned (.tuple #[.int .u64 (fr .sub a b), .int .i64 0]) ∧ Below w.heap.size w w' := by
  have f1 := frombits_run a
  have f2 := frombits_run b
  obtain ⟨nb, w1, hw, hlt, hfr, hrun⟩ := op_run .sub (by simp) a b w
  have f3 := bits_run nb
  rw [hfr]
  clear hfr
  have hb : Below w.heap.size w w1 := by rcases hw with rfl | rfl <;> go_grown
  clear hw
  go_enter Tryz.func15, Tryz.ntmps15
  go_wp2_with (first | (go_at_call 19; refine (rPlain_any _ hlt _).mono ?_; rintro e w' ⟨rfl, rfl⟩))
  go_ret2
  exact ⟨rfl, hb⟩
theorem rFloat_mul (a b : Nat) (w : World) : Calls Tryz.prog 15 #[.string ⟨#[42]⟩, .int .u64 (a : Int), .int .u64 (b : Int)] w fun e w' => e = .returned (.tuple #[.int .u64 (fr .mul a b), .int .i64 0]) ∧ Below w.heap.size w w' := by
  have f1 := frombits_run a
  have f2 := frombits_run b
  obtain ⟨nb, w1, hw, hlt, hfr, hrun⟩ := op_run .mul (by simp) a b w
  have f3 := bits_run nb
  rw [hfr]
  clear hfr
  have hb : Below w.heap.size w w1 := by rcases hw with rfl | rfl <;> go_grown
  clear hw
  go_enter Tryz.func15, Tryz.ntmps15
  go_wp2_with (first | (go_at_call 19; refine (rPlain_any _ hlt _).mono ?_; rintro e w' ⟨rfl, rfl⟩))
  go_ret2
  exact ⟨rfl, hb⟩
theorem rFloat_quo (a b : Nat) (w : World) : Calls Tryz.prog 15 #[.string ⟨#[47]⟩, .int .u64 (a : Int), .int .u64 (b : Int)] w fun e w' => e = .returned (.tuple #[.int .u64 (fr .quo a b), .int .i64 0]) ∧ Below w.heap.size w w' := by
  have f1 := frombits_run a
  have f2 := frombits_run b
  obtain ⟨nb, w1, hw, hlt, hfr, hrun⟩ := op_run .quo (by simp) a b w
  have f3 := bits_run nb
  rw [hfr]
  clear hfr
  have hb : Below w.heap.size w w1 := by rcases hw with rfl | rfl <;> go_grown
  clear hw
  go_enter Tryz.func15, Tryz.ntmps15
  go_wp2_with (first | (go_at_call 19; refine (rPlain_any _ hlt _).mono ?_; rintro e w' ⟨rfl, rfl⟩))
  go_ret2
  exact ⟨rfl, hb⟩
theorem rFloat_none (op : ByteArray) (a b : Nat) (w : World) (h1 : op ≠ ⟨#[43]⟩) (h2 : op ≠ ⟨#[45]⟩) (h3 : op ≠ ⟨#[42]⟩) (h4 : op ≠ ⟨#[47]⟩) :
    Calls Tryz.prog 15 #[.string op, .int .u64 (a : Int), .int .u64 (b : Int)] w fun e w' => e = .returned (.tuple #[.int .u64 0, .int .i64 2]) ∧ Below w.heap.size w w' := by
  have f1 := frombits_run a
  have f2 := frombits_run b
  have k1 := ne2 (l := [43]) h1
  have k2 := ne2 (l := [45]) h2
  have k3 := ne2 (l := [42]) h3
  have k4 := ne2 (l := [47]) h4
  clear h1 h2 h3 h4
  go_enter Tryz.func15, Tryz.ntmps15
  go_wp2
  go_ret2
  exact ⟨rfl, Below.refl _ _⟩
theorem Float_none (op : ByteArray) (a b : Nat) (w : World) (h1 : op ≠ ⟨#[43]⟩) (h2 : op ≠ ⟨#[45]⟩) (h3 : op ≠ ⟨#[42]⟩) (h4 : op ≠ ⟨#[47]⟩) :
    Calls Tryz.prog 14 #[.string op, .int .u64 (a : Int), .int .u64 (b : Int)] w fun e w' => e = .returned (.tuple #[.int .u64 0, .int .i64 2]) ∧ Below w.heap.size w w' := by
  have hl := look_mf_not w op (by simp [mf4, mf3, mf2, mf1, findNow, sameNow, ne1 h1, ne1 h2, ne1 h3, ne1 h4])
  clear h1 h2 h3 h4
  go_enter Tryz.func14, Tryz.ntmps14
  go_wp2_with (first | (go_at_call 32; refine (mf_any _).mono ?_; rintro e w' ⟨rfl, rfl⟩))
  go_ret2
  exact ⟨rfl, by go_grown⟩

theorem Float_both (op : ByteArray) (a b : Nat) : ∃ r c : Int, (∀ w, Calls Tryz.prog 14 #[.string op, .int .u64 (a : Int), .int .u64 (b : Int)] w fun e w' => e = .returned (.tuple #[.int .u64 r, .int .i64 c]) ∧ Below w.heap.size w w') ∧
    ∀ w, Calls Tryz.prog 15 #[.string op, .int .u64 (a : Int), .int .u64 (b : Int)] w fun e w' => e = .returned (.tuple #[.int .u64 r, .int .i64 c]) ∧ Below w.heap.size w w' := by
  by_cases h1 : op = ⟨#[43]⟩
  · subst h1; exact ⟨_, _, Float_add a b, rFloat_add a b⟩
  by_cases h2 : op = ⟨#[45]⟩
  · subst h2; exact ⟨_, _, Float_sub a b, rFloat_sub a b⟩
  by_cases h3 : op = ⟨#[42]⟩
  · subst h3; exact ⟨_, _, Float_mul a b, rFloat_mul a b⟩
  by_cases h4 : op = ⟨#[47]⟩
  · subst h4; exact ⟨_, _, Float_quo a b, rFloat_quo a b⟩
  exact ⟨_, _, fun w => Float_none op a b w h1 h2 h3 h4, fun w => rFloat_none op a b w h1 h2 h3 h4⟩

def md1 : Array MapEntry := #[{ key := .string ⟨#[61, 61]⟩, val := fv 72, born := 0 }]
def md2 : Array MapEntry := md1.push { key := .string ⟨#[33, 61]⟩, val := fv 73, born := 1 }
def md3 : Array MapEntry := md2.push { key := .string ⟨#[60]⟩, val := fv 74, born := 2 }
def md4 : Array MapEntry := md3.push { key := .string ⟨#[60, 61]⟩, val := fv 75, born := 3 }
def md5 : Array MapEntry := md4.push { key := .string ⟨#[62]⟩, val := fv 76, born := 4 }
def md6 : Array MapEntry := md5.push { key := .string ⟨#[62, 61]⟩, val := fv 77, born := 5 }
theorem md_any (w : World) : Calls Tryz.prog 59 #[] w fun e w' => e = .returned (.map (some w.heap.size)) ∧ w.alloc (.map md6 6) = w' := by
  have hmm := @run_makeMap Tryz.prog
  have h1 : (mapUpdate 83 (.map (some w.heap.size)) (.string ⟨#[61, 61]⟩) (fv 72)).run Tryz.prog (w.alloc (.map #[] 0)) = .ok () (w.alloc (.map md1 1)) := run_mapUpdate_lit 83 9 81 w #[] 0 _ _ Tryz.underlying83 Tryz.underlying9 rfl
  have h2 : (mapUpdate 83 (.map (some w.heap.size)) (.string ⟨#[33, 61]⟩) (fv 73)).run Tryz.prog (w.alloc (.map md1 1)) = .ok () (w.alloc (.map md2 2)) := run_mapUpdate_lit 83 9 81 w md1 1 _ _ Tryz.underlying83 Tryz.underlying9 rfl
  have h3 : (mapUpdate 83 (.map (some w.heap.size)) (.string ⟨#[60]⟩) (fv 74)).run Tryz.prog (w.alloc (.map md2 2)) = .ok () (w.alloc (.map md3 3)) := run_mapUpdate_lit 83 9 81 w md2 2 _ _ Tryz.underlying83 Tryz.underlying9 rfl
  have h4 : (mapUpdate 83 (.map (some w.heap.size)) (.string ⟨#[60, 61]⟩) (fv 75)).run Tryz.prog (w.alloc (.map md3 3)) = .ok () (w.alloc (.map md4 4)) := run_mapUpdate_lit 83 9 81 w md3 3 _ _ Tryz.underlying83 Tryz.underlying9 rfl
  have h5 : (mapUpdate 83 (.map (some w.heap.size)) (.string ⟨#[62]⟩) (fv 76)).run Tryz.prog (w.alloc (.map md4 4)) = .ok () (w.alloc (.map md5 5)) := run_mapUpdate_lit 83 9 81 w md4 4 _ _ Tryz.underlying83 Tryz.underlying9 rfl
  have h6 : (mapUpdate 83 (.map (some w.heap.size)) (.string ⟨#[62, 61]⟩) (fv 77)).run Tryz.prog (w.alloc (.map md5 5)) = .ok () (w.alloc (.map md6 6)) := run_mapUpdate_lit 83 9 81 w md5 5 _ _ Tryz.underlying83 Tryz.underlying9 rfl
  simp only [fv] at h1 h2 h3 h4 h5 h6
  go_enter Tryz.func59, Tryz.ntmps59
  go_wp2
  go_ret
  exact ⟨rfl, rfl⟩
theorem zero_md (w : World) : (zeroValue 81).run Tryz.prog w = .ok .nilFunc w := by kernel_rfl
theorem look_md (w : World) (op : ByteArray) (i : Nat) (v : Value) (h : findNow .string (.string op) md6.toList 0 = some (some (i, v))) :
    (lookup 83 (.map (some w.heap.size)) (.string op) true).run Tryz.prog (w.alloc (.map md6 6)) = .ok (.tuple #[v, .bool true]) (w.alloc (.map md6 6)) :=
  run_lookup_ok_there 83 9 81 _ _ md6 6 op i v Tryz.underlying83 Tryz.underlying9 (MapKept.heap_alloc w _).1 h
theorem look_md_not (w : World) (op : ByteArray) (h : findNow .string (.string op) md6.toList 0 = some none) :
    (lookup 83 (.map (some w.heap.size)) (.string op) true).run Tryz.prog (w.alloc (.map md6 6)) = .ok (.tuple #[.nilFunc, .bool false]) (w.alloc (.map md6 6)) :=
  run_lookup_ok_not 83 9 81 _ _ md6 6 op _ Tryz.underlying83 Tryz.underlying9 (MapKept.heap_alloc w _).1 (zero_md _) h
theorem cmpF_eq (a b : Nat) (o : Option Ordering) (ho : FloatKind.f64.format.order a b = o) (w : World) : Calls Tryz.prog 35 #[.string ⟨#[61, 61]⟩, .float .f64 a, .float .f64 b] w fun e w' => e = .returned (.tuple #[.bool (o == some .eq), .int .i64 0]) ∧ Below w.heap.size w w' := by
  have hl := look_md w ⟨#[61, 61]⟩ 0 (fv 72) rfl
  unfold fv at hl
  go_enter Tryz.func35, Tryz.ntmps35
  go_wp2_with (first | (go_at_call 59; refine (md_any _).mono ?_; rintro e w' ⟨rfl, rfl⟩) | (go_at_call 72; go_in))
  go_ret2
  exact ⟨rfl, by go_grown⟩
theorem cmpF_ne (a b : Nat) (o : Option Ordering) (ho : FloatKind.f64.format.order a b = o) (w : World) : Calls Tryz.prog 35 #[.string ⟨#[33, 61]⟩, .float .f64 a, .float .f64 b] w fun e w' => e = .returned (.tuple #[.bool (o != some .eq), .int .i64 0]) ∧ Below w.heap.size w w' := by
  have hl := look_md w ⟨#[33, 61]⟩ 1 (fv 73) rfl
  unfold fv at hl
  go_enter Tryz.func35, Tryz.ntmps35
  go_wp2_with (first | (go_at_call 59; refine (md_any _).mono ?_; rintro e w' ⟨rfl, rfl⟩) | (go_at_call 73; go_in))
  go_ret2
  exact ⟨rfl, by go_grown⟩
theorem cmpF_lt (a b : Nat) (o : Option Ordering) (ho : FloatKind.f64.format.order a b = o) (w : World) : Calls Tryz.prog 35 #[.string ⟨#[60]⟩, .float .f64 a, .float .f64 b] w fun e w' => e = .returned (.tuple #[.bool (o == some .lt), .int .i64 0]) ∧ Below w.heap.size w w' := by
  have hl := look_md w ⟨#[60]⟩ 2 (fv 74) rfl
  unfold fv at hl
  go_enter Tryz.func35, Tryz.ntmps35
  go_wp2_with (first | (go_at_call 59; refine (md_any _).mono ?_; rintro e w' ⟨rfl, rfl⟩) | (go_at_call 74; go_in))
  go_ret2
  exact ⟨rfl, by go_grown⟩
theorem cmpF_le (a b : Nat) (o : Option Ordering) (ho : FloatKind.f64.format.order a b = o) (w : World) : Calls Tryz.prog 35 #[.string ⟨#[60, 61]⟩, .float .f64 a, .float .f64 b] w fun e w' => e = .returned (.tuple #[.bool (o == some .lt || o == some .eq), .int .i64 0]) ∧ Below w.heap.size w w' := by
  have hl := look_md w ⟨#[60, 61]⟩ 3 (fv 75) rfl
  unfold fv at hl
  go_enter Tryz.func35, Tryz.ntmps35
  go_wp2_with (first | (go_at_call 59; refine (md_any _).mono ?_; rintro e w' ⟨rfl, rfl⟩) | (go_at_call 75; go_in))
  go_ret2
  exact ⟨rfl, by go_grown⟩
theorem cmpF_gt (a b : Nat) (o : Option Ordering) (ho : FloatKind.f64.format.order a b = o) (w : World) : Calls Tryz.prog 35 #[.string ⟨#[62]⟩, .float .f64 a, .float .f64 b] w fun e w' => e = .returned (.tuple #[.bool (o == some .gt), .int .i64 0]) ∧ Below w.heap.size w w' := by
  have hl := look_md w ⟨#[62]⟩ 4 (fv 76) rfl
  unfold fv at hl
  go_enter Tryz.func35, Tryz.ntmps35
  go_wp2_with (first | (go_at_call 59; refine (md_any _).mono ?_; rintro e w' ⟨rfl, rfl⟩) | (go_at_call 76; go_in))
  go_ret2
  exact ⟨rfl, by go_grown⟩
theorem cmpF_ge (a b : Nat) (o : Option Ordering) (ho : FloatKind.f64.format.order a b = o) (w : World) : Calls Tryz.prog 35 #[.string ⟨#[62, 61]⟩, .float .f64 a, .float .f64 b] w fun e w' => e = .returned (.tuple #[.bool (o == some .gt || o == some .eq), .int .i64 0]) ∧ Below w.heap.size w w' := by
  have hl := look_md w ⟨#[62, 61]⟩ 5 (fv 77) rfl
  unfold fv at hl
  go_enter Tryz.func35, Tryz.ntmps35
  go_wp2_with (first | (go_at_call 59; refine (md_any _).mono ?_; rintro e w' ⟨rfl, rfl⟩) | (go_at_call 77; go_in))
  go_ret2
  exact ⟨rfl, by go_grown⟩
theorem cmpF_none (op : ByteArray) (a b : Nat) (w : World) (h1 : op ≠ ⟨#[61, 61]⟩) (h2 : op ≠ ⟨#[33, 61]⟩) (h3 : op ≠ ⟨#[60]⟩) (h4 : op ≠ ⟨#[60, 61]⟩) (h5 : op ≠ ⟨#[62]⟩) (h6 : op ≠ ⟨#[62, 61]⟩) :
    Calls Tryz.prog 35 #[.string op, .float .f64 a, .float .f64 b] w fun e w' => e = .returned (.tuple #[.bool false, .int .i64 2]) ∧ Below w.heap.size w w' := by
  have hl := look_md_not w op (by simp [md6, md5, md4, md3, md2, md1, findNow, sameNow, ne1 h1, ne1 h2, ne1 h3, ne1 h4, ne1 h5, ne1 h6])
  clear h1 h2 h3 h4 h5 h6
  go_enter Tryz.func35, Tryz.ntmps35
  go_wp2_with (first | (go_at_call 59; refine (md_any _).mono ?_; rintro e w' ⟨rfl, rfl⟩))
  go_ret2
  exact ⟨rfl, by go_grown⟩
theorem FloatIs_of (op : ByteArray) (a b : Nat) (t : Bool) (c : Int) (h : ∀ w, Calls Tryz.prog 35 #[.string op, .float .f64 a, .float .f64 b] w fun e w' => e = .returned (.tuple #[.bool t, .int .i64 c]) ∧ Below w.heap.size w w') (w : World) :
    Calls Tryz.prog 16 #[.string op, .int .u64 (a : Int), .int .u64 (b : Int)] w fun e w' => e = .returned (.tuple #[.bool t, .int .i64 c]) ∧ Below w.heap.size w w' := by
  have f1 := frombits_run a
  have f2 := frombits_run b
  have H := Lib.hid h
  clear h
  go_enter Tryz.func16, Tryz.ntmps16
  go_wp2_with (first | (go_at_call 35; refine (H.out _).mono ?_; rintro e w' ⟨rfl, hb⟩))
  go_ret2
  exact ⟨rfl, hb⟩
end Go.Proofs.YtgncihoioacgjaaGreatDoor
