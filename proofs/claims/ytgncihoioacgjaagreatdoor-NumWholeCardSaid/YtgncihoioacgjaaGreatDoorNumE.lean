import Derived.Test.YtgncihoioacgjaaGreatDoorNumFl
namespace Go.Proofs.YtgncihoioacgjaaGreatDoor
open Go.Instr Go.RowKit NumF
set_option linter.unusedVariables false

def mf1 : Array MapEntry := #[{ key := .string ⟨#[43]⟩, val := fv 55, born := 0 }]
def mf2 : Array MapEntry := mf1.push { key := .string ⟨#[45]⟩, val := fv 56, born := 1 }
def mf3 : Array MapEntry := mf2.push { key := .string ⟨#[42]⟩, val := fv 57, born := 2 }
def mf4 : Array MapEntry := mf3.push { key := .string ⟨#[47]⟩, val := fv 58, born := 3 }
theorem mf_any (w : World) : Calls Tryz.prog 32 #[] w fun e w' => e = .returned (.map (some w.heap.size)) ∧ w.alloc (.map mf4 4) = w' := by
  have hmm := @run_makeMap Tryz.prog
  have h1 : (mapUpdate 54 (.map (some w.heap.size)) (.string ⟨#[43]⟩) (fv 55)).run Tryz.prog (w.alloc (.map #[] 0)) = .ok () (w.alloc (.map mf1 1)) := run_mapUpdate_lit 54 9 52 w #[] 0 _ _ Tryz.underlying54 Tryz.underlying9 rfl
  have h2 : (mapUpdate 54 (.map (some w.heap.size)) (.string ⟨#[45]⟩) (fv 56)).run Tryz.prog (w.alloc (.map mf1 1)) = .ok () (w.alloc (.map mf2 2)) := run_mapUpdate_lit 54 9 52 w mf1 1 _ _ Tryz.underlying54 Tryz.underlying9 rfl
  have h3 : (mapUpdate 54 (.map (some w.heap.size)) (.string ⟨#[42]⟩) (fv 57)).run Tryz.prog (w.alloc (.map mf2 2)) = .ok () (w.alloc (.map mf3 3)) := run_mapUpdate_lit 54 9 52 w mf2 2 _ _ Tryz.underlying54 Tryz.underlying9 rfl
  have h4 : (mapUpdate 54 (.map (some w.heap.size)) (.string ⟨#[47]⟩) (fv 58)).run Tryz.prog (w.alloc (.map mf3 3)) = .ok () (w.alloc (.map mf4 4)) := run_mapUpdate_lit 54 9 52 w mf3 3 _ _ Tryz.underlying54 Tryz.underlying9 rfl
  simp only [fv] at h1 h2 h3 h4
  go_enter Tryz.func32, Tryz.ntmps32
  go_wp2
  go_ret
  exact ⟨rfl, rfl⟩
theorem zero_mf (w : World) : (zeroValue 52).run Tryz.prog w = .ok .nilFunc w := by kernel_rfl
theorem look_mf (w : World) (op : ByteArray) (i : Nat) (v : Value) (h : findNow .string (.string op) mf4.toList 0 = some (some (i, v))) :
    (lookup 54 (.map (some w.heap.size)) (.string op) true).run Tryz.prog (w.alloc (.map mf4 4)) = .ok (.tuple #[v, .bool true]) (w.alloc (.map mf4 4)) :=
  run_lookup_ok_there 54 9 52 _ _ mf4 4 op i v Tryz.underlying54 Tryz.underlying9 (MapKept.heap_alloc w _).1 h
theorem look_mf_not (w : World) (op : ByteArray) (h : findNow .string (.string op) mf4.toList 0 = some none) :
    (lookup 54 (.map (some w.heap.size)) (.string op) true).run Tryz.prog (w.alloc (.map mf4 4)) = .ok (.tuple #[.nilFunc, .bool false]) (w.alloc (.map mf4 4)) :=
  run_lookup_ok_not 54 9 52 _ _ mf4 4 op _ Tryz.underlying54 Tryz.underlying9 (MapKept.heap_alloc w _).1 (zero_mf _) h

/-- What a float operator tells: the result's bits, every NaN as the one. -/
def fr (op : BinOp) (a b : Nat) : Nat := match floatBits op .f64 a b with | some r => plainB r | none => 9221120237041090561
theorem fr_some {op : BinOp} {a b r : Nat} (h : floatBits op .f64 a b = some r) : fr op a b = plainB r := by unfold fr; rw [h]
theorem fr_none {op : BinOp} {a b nb : Nat} (h : floatBits op .f64 a b = none) (hn : isNan nb = true) : fr op a b = plainB nb := by unfold fr plainB; rw [h, hn]; rfl
theorem some_lt {op : BinOp} {a b r : Nat} (h : floatBits op .f64 a b = some r) : r < 18446744073709551616 := by
  have := floatBits_wf h
  simpa [Lit.wf] using this

/-- The operator's run: a float, at most one question asked. -/
theorem op_run (op : BinOp) (hop : op = .add ∨ op = .sub ∨ op = .mul ∨ op = .quo) (a b : Nat) (w : World) : ∃ (nb : Nat) (w' : World), (w' = w ∨ w' = w.drew) ∧ nb < 18446744073709551616 ∧ fr op a b = plainB nb ∧
    (binOp op 56 (.float .f64 a) (.float .f64 b)).run Tryz.prog w = .ok (.float .f64 nb) w' := by
  cases h : floatBits op .f64 a b with
  | some r => exact ⟨r, w, .inl rfl, some_lt h, fr_some h, run_float_arith w op _ .f64 a b r h⟩
  | none =>
    obtain ⟨nb, h1, h2, h3⟩ := run_float_invalid op hop 56 a b w h
    exact ⟨nb, _, .inr rfl, h1, fr_none h h2, h3⟩
theorem Float_add (a b : Nat) (w : World) : Calls Tryz.prog 14 #[.string ⟨#[43]⟩, .int .u64 (a : Int), .int .u64 (b : Int)] w fun e w' => e = .returned (.tuple #[.int .u64 (fr .add a b), .int .i64 0]) ∧ Below w.heap.size w w' := by
  have hl := look_mf w ⟨#[43]⟩ 0 (fv 55) rfl
  have f1 := frombits_run a
  have f2 := frombits_run b
  obtain ⟨nb, w1, hw, hlt, hfr, hrun⟩ := op_run .add (by simp) a b (w.alloc (.map mf4 4))
  have f3 := bits_run nb
  rw [hfr]
  clear hfr
  have hb : Below w.heap.size w w1 := by rcases hw with rfl | rfl <;> go_grown
  clear hw
  unfold fv at hl
  go_enter Tryz.func14, Tryz.ntmps14
  go_wp2_with (first | (go_at_call 32; refine (mf_any _).mono ?_; rintro e w' ⟨rfl, rfl⟩) | (go_at_call 18; refine (Plain_any _ hlt _).mono ?_; rintro e w' ⟨rfl, rfl⟩) | (go_at_call 55; go_in))
  go_ret2
  exact ⟨rfl, hb⟩
theorem Float_sub (a b : Nat) (w : World) : Calls Tryz.prog 14 #[.string ⟨#[45]⟩, .int .u64 (a : Int), .int .u64 (b : Int)] w fun e w' => e = .returned (.tuple #[.int .u64 (fr .sub a b), .int .i64 0]) ∧ Below w.heap.size w w' := by
  have hl := look_mf w ⟨#[45]⟩ 1 (fv 56) rfl
  have f1 := frombits_run a
  have f2 := frombits_run b
  obtain ⟨nb, w1, hw, hlt, hfr, hrun⟩ := op_run .sub (by simp) a b (w.alloc (.map mf4 4))
  have f3 := bits_run nb
  rw [hfr]
  clear hfr
  have hb : Below w.heap.size w w1 := by rcases hw with rfl | rfl <;> go_grown
  clear hw
  unfold fv at hl
  go_enter Tryz.func14, Tryz.ntmps14
  go_wp2_with (first | (go_at_call 32; refine (mf_any _).mono ?_; rintro e w' ⟨rfl, rfl⟩) | (go_at_call 18; refine (Plain_any _ hlt _).mono ?_; rintro e w' ⟨rfl, rfl⟩) | (go_at_call 56; go_in))
  go_ret2
  exact ⟨rfl, hb⟩
theorem Float_mul (a b : Nat) (w : World) : Calls Tryz.prog 14 #[.string ⟨#[42]⟩, .int .u64 (a : Int), .int .u64 (b : Int)] w fun e w' => e = .returned (.tuple #[.int .u64 (fr .mul a b), .int .i64 0]) ∧ Below w.heap.size w w' := by
  have hl := look_mf w ⟨#[42]⟩ 2 (fv 57) rfl
  have f1 := frombits_run a
  have f2 := frombits_run b
  obtain ⟨nb, w1, hw, hlt, hfr, hrun⟩ := op_run .mul (by simp) a b (w.alloc (.map mf4 4))
  have f3 := bits_run nb
  rw [hfr]
  clear hfr
  have hb : Below w.heap.size w w1 := by rcases hw with rfl | rfl <;> go_grown
  clear hw
  unfold fv at hl
  go_enter Tryz.func14, Tryz.ntmps14
  go_wp2_with (first | (go_at_call 32; refine (mf_any _).mono ?_; rintro e w' ⟨rfl, rfl⟩) | (go_at_call 18; refine (Plain_any _ hlt _).mono ?_; rintro e w' ⟨rfl, rfl⟩) | (go_at_call 57; go_in))
  go_ret2
  exact ⟨rfl, hb⟩
theorem Float_quo (a b : Nat) (w : World) : Calls Tryz.prog 14 #[.string ⟨#[47]⟩, .int .u64 (a : Int), .int .u64 (b : Int)] w fun e w' => e = .returned (.tuple #[.int .u64 (fr .quo a b), .int .i64 0]) ∧ Below w.heap.size w w' := by
  have hl := look_mf w ⟨#[47]⟩ 3 (fv 58) rfl
  have f1 := frombits_run a
  have f2 := frombits_run b
  obtain ⟨nb, w1, hw, hlt, hfr, hrun⟩ := op_run .quo (by simp) a b (w.alloc (.map mf4 4))
  have f3 := bits_run nb
  rw [hfr]
  clear hfr
  have hb : Below w.heap.size w w1 := by rcases hw with rfl | rfl <;> go_grown
  clear hw
  unfold fv at hl
  go_enter Tryz.func14, Tryz.ntmps14
  go_wp2_with (first | (go_at_call 32; refine (mf_any _).mono ?_; rintro e w' ⟨rfl, rfl⟩) | (go_at_call 18; refine (Plain_any _ hlt _).mono ?_; rintro e w' ⟨rfl, rfl⟩) | (go_at_call 58; go_in))
  go_ret2
  exact ⟨rfl, hb⟩
end Go.Proofs.YtgncihoioacgjaaGreatDoor
