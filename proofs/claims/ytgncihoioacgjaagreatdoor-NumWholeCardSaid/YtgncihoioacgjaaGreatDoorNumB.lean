import Derived.Test.YtgncihoioacgjaaGreatDoorNumA
import Derived.Lib.Strings
namespace Go.Proofs.YtgncihoioacgjaaGreatDoor
open Go.Instr Go.RowKit
set_option linter.unusedVariables false
theorem ne1 {op x : ByteArray} (h : op ≠ x) : (op == x) = false := by
  cases op with | mk a =>
  cases x with | mk b =>
  show ByteArray.beq ⟨a⟩ ⟨b⟩ = false
  unfold ByteArray.beq
  simp only [ne_eq, ByteArray.mk.injEq] at h
  simpa using h
theorem ne2 {op : ByteArray} {l : List UInt8} (h : op ≠ ⟨l.toArray⟩) : (op.toList == l) = false := by
  rw [Lib.toList_data]
  refine beq_eq_false_iff_ne.2 fun e => h ?_
  cases op with | mk d => simp only at e; subst e; simp
theorem zero_fI (w : World) : (zeroValue 46).run Tryz.prog w = .ok .nilFunc w := by kernel_rfl
theorem look_io (w : World) (op : ByteArray) (i : Nat) (v : Value) (h : findNow .string (.string op) mi5.toList 0 = some (some (i, v))) :
    (lookup 48 (.map (some w.heap.size)) (.string op) true).run Tryz.prog (w.alloc (.map mi5 5)) = .ok (.tuple #[v, .bool true]) (w.alloc (.map mi5 5)) :=
  run_lookup_ok_there 48 9 46 _ _ mi5 5 op i v Tryz.underlying48 Tryz.underlying9 (MapKept.heap_alloc w _).1 h
theorem look_io_not (w : World) (op : ByteArray) (h : findNow .string (.string op) mi5.toList 0 = some none) :
    (lookup 48 (.map (some w.heap.size)) (.string op) true).run Tryz.prog (w.alloc (.map mi5 5)) = .ok (.tuple #[.nilFunc, .bool false]) (w.alloc (.map mi5 5)) :=
  run_lookup_ok_not 48 9 46 _ _ mi5 5 op _ Tryz.underlying48 Tryz.underlying9 (MapKept.heap_alloc w _).1 (zero_fI _) h
theorem below_new {w w1 : World} {o : Obj} (h : Below (w.alloc o).heap.size (w.alloc o) w1) : Below w.heap.size w w1 :=
  ((Below.refl _ _).alloc (Nat.le_refl _) _).trans (h.mono (by simp))

theorem Int_add (a b : Int) (w : World) : Calls Tryz.prog 10 #[.string ⟨#[43]⟩, .int .i64 a, .int .i64 b] w fun e w' => e = .returned (.tuple #[.int .i64 (wrap64 (a + b)), .int .i64 0]) ∧ Below w.heap.size w w' := by
  have hl := look_io w ⟨#[43]⟩ 0 (fv 47) rfl
  have hc := unless_add a b (w.alloc (.map mi5 5))
  unfold fv at hl hc
  go_enter Tryz.func10, Tryz.ntmps10
  go_wp2_with (first | (go_at_call 28; refine (intOps_any _).mono ?_; rintro e w' ⟨rfl, rfl⟩) | (go_at_call 29; refine hc.mono ?_; rintro e w' ⟨rfl, hb⟩))
  go_ret2
  exact ⟨rfl, below_new hb⟩
theorem rInt_add (a b : Int) (w : World) : Calls Tryz.prog 11 #[.string ⟨#[43]⟩, .int .i64 a, .int .i64 b] w fun e w' => e = .returned (.tuple #[.int .i64 (wrap64 (a + b)), .int .i64 0]) ∧ w = w' := by
  go_enter Tryz.func11, Tryz.ntmps11
  go_wp2
  go_ret2
  exact ⟨rfl, rfl⟩
theorem Int_sub (a b : Int) (w : World) : Calls Tryz.prog 10 #[.string ⟨#[45]⟩, .int .i64 a, .int .i64 b] w fun e w' => e = .returned (.tuple #[.int .i64 (wrap64 (a - b)), .int .i64 0]) ∧ Below w.heap.size w w' := by
  have hl := look_io w ⟨#[45]⟩ 1 (fv 48) rfl
  have hc := unless_sub a b (w.alloc (.map mi5 5))
  unfold fv at hl hc
  go_enter Tryz.func10, Tryz.ntmps10
  go_wp2_with (first | (go_at_call 28; refine (intOps_any _).mono ?_; rintro e w' ⟨rfl, rfl⟩) | (go_at_call 29; refine hc.mono ?_; rintro e w' ⟨rfl, hb⟩))
  go_ret2
  exact ⟨rfl, below_new hb⟩
theorem rInt_sub (a b : Int) (w : World) : Calls Tryz.prog 11 #[.string ⟨#[45]⟩, .int .i64 a, .int .i64 b] w fun e w' => e = .returned (.tuple #[.int .i64 (wrap64 (a - b)), .int .i64 0]) ∧ w = w' := by
  go_enter Tryz.func11, Tryz.ntmps11
  go_wp2
  go_ret2
  exact ⟨rfl, rfl⟩
theorem Int_mul (a b : Int) (w : World) : Calls Tryz.prog 10 #[.string ⟨#[42]⟩, .int .i64 a, .int .i64 b] w fun e w' => e = .returned (.tuple #[.int .i64 (wrap64 (a * b)), .int .i64 0]) ∧ Below w.heap.size w w' := by
  have hl := look_io w ⟨#[42]⟩ 2 (fv 49) rfl
  have hc := unless_mul a b (w.alloc (.map mi5 5))
  unfold fv at hl hc
  go_enter Tryz.func10, Tryz.ntmps10
  go_wp2_with (first | (go_at_call 28; refine (intOps_any _).mono ?_; rintro e w' ⟨rfl, rfl⟩) | (go_at_call 29; refine hc.mono ?_; rintro e w' ⟨rfl, hb⟩))
  go_ret2
  exact ⟨rfl, below_new hb⟩
theorem rInt_mul (a b : Int) (w : World) : Calls Tryz.prog 11 #[.string ⟨#[42]⟩, .int .i64 a, .int .i64 b] w fun e w' => e = .returned (.tuple #[.int .i64 (wrap64 (a * b)), .int .i64 0]) ∧ w = w' := by
  go_enter Tryz.func11, Tryz.ntmps11
  go_wp2
  go_ret2
  exact ⟨rfl, rfl⟩
theorem Int_quo (a b : Int) (hb0 : ¬ b = 0) (hb1 : (b == 0) = false) (w : World) : Calls Tryz.prog 10 #[.string ⟨#[47]⟩, .int .i64 a, .int .i64 b] w fun e w' => e = .returned (.tuple #[.int .i64 (wrap64 (a.tdiv b)), .int .i64 0]) ∧ Below w.heap.size w w' := by
  have hl := look_io w ⟨#[47]⟩ 3 (fv 50) rfl
  have hc := unless_quo a b hb0 hb1 (w.alloc (.map mi5 5))
  unfold fv at hl hc
  go_enter Tryz.func10, Tryz.ntmps10
  go_wp2_with (first | (go_at_call 28; refine (intOps_any _).mono ?_; rintro e w' ⟨rfl, rfl⟩) | (go_at_call 29; refine hc.mono ?_; rintro e w' ⟨rfl, hb⟩))
  go_ret2
  exact ⟨rfl, below_new hb⟩
theorem rInt_quo (a b : Int) (hb0 : ¬ b = 0) (hb1 : (b == 0) = false) (w : World) : Calls Tryz.prog 11 #[.string ⟨#[47]⟩, .int .i64 a, .int .i64 b] w fun e w' => e = .returned (.tuple #[.int .i64 (wrap64 (a.tdiv b)), .int .i64 0]) ∧ w = w' := by
  go_enter Tryz.func11, Tryz.ntmps11
  go_wp2
  go_ret2
  exact ⟨rfl, rfl⟩
theorem Int_rem (a b : Int) (hb0 : ¬ b = 0) (hb1 : (b == 0) = false) (w : World) : Calls Tryz.prog 10 #[.string ⟨#[37]⟩, .int .i64 a, .int .i64 b] w fun e w' => e = .returned (.tuple #[.int .i64 (a.tmod b), .int .i64 0]) ∧ Below w.heap.size w w' := by
  have hl := look_io w ⟨#[37]⟩ 4 (fv 52) rfl
  have hc := unless_rem a b hb0 hb1 (w.alloc (.map mi5 5))
  unfold fv at hl hc
  go_enter Tryz.func10, Tryz.ntmps10
  go_wp2_with (first | (go_at_call 28; refine (intOps_any _).mono ?_; rintro e w' ⟨rfl, rfl⟩) | (go_at_call 29; refine hc.mono ?_; rintro e w' ⟨rfl, hb⟩))
  go_ret2
  exact ⟨rfl, below_new hb⟩
theorem rInt_rem (a b : Int) (hb0 : ¬ b = 0) (hb1 : (b == 0) = false) (w : World) : Calls Tryz.prog 11 #[.string ⟨#[37]⟩, .int .i64 a, .int .i64 b] w fun e w' => e = .returned (.tuple #[.int .i64 (a.tmod b), .int .i64 0]) ∧ w = w' := by
  go_enter Tryz.func11, Tryz.ntmps11
  go_wp2
  go_ret2
  exact ⟨rfl, rfl⟩
theorem Int_quo0 (a : Int) (w : World) : Calls Tryz.prog 10 #[.string ⟨#[47]⟩, .int .i64 a, .int .i64 0] w fun e w' => e = .returned (.tuple #[.int .i64 0, .int .i64 201]) ∧ Below w.heap.size w w' := by
  have hl := look_io w ⟨#[47]⟩ 3 (fv 50) rfl
  have hc := unless_quo0 a (w.alloc (.map mi5 5))
  unfold fv at hl hc
  go_enter Tryz.func10, Tryz.ntmps10
  go_wp2_with (first | (go_at_call 28; refine (intOps_any _).mono ?_; rintro e w' ⟨rfl, rfl⟩) | (go_at_call 29; refine hc.mono ?_; rintro e w' ⟨rfl, hb⟩))
  go_ret2
  exact ⟨rfl, below_new hb⟩
theorem rInt_quo0 (a : Int) (w : World) : Calls Tryz.prog 11 #[.string ⟨#[47]⟩, .int .i64 a, .int .i64 0] w fun e w' => e = .returned (.tuple #[.int .i64 0, .int .i64 201]) ∧ w = w' := by
  go_enter Tryz.func11, Tryz.ntmps11
  go_wp2
  go_ret2
  exact ⟨rfl, rfl⟩
theorem Int_rem0 (a : Int) (w : World) : Calls Tryz.prog 10 #[.string ⟨#[37]⟩, .int .i64 a, .int .i64 0] w fun e w' => e = .returned (.tuple #[.int .i64 0, .int .i64 201]) ∧ Below w.heap.size w w' := by
  have hl := look_io w ⟨#[37]⟩ 4 (fv 52) rfl
  have hc := unless_rem0 a (w.alloc (.map mi5 5))
  unfold fv at hl hc
  go_enter Tryz.func10, Tryz.ntmps10
  go_wp2_with (first | (go_at_call 28; refine (intOps_any _).mono ?_; rintro e w' ⟨rfl, rfl⟩) | (go_at_call 29; refine hc.mono ?_; rintro e w' ⟨rfl, hb⟩))
  go_ret2
  exact ⟨rfl, below_new hb⟩
theorem rInt_rem0 (a : Int) (w : World) : Calls Tryz.prog 11 #[.string ⟨#[37]⟩, .int .i64 a, .int .i64 0] w fun e w' => e = .returned (.tuple #[.int .i64 0, .int .i64 201]) ∧ w = w' := by
  go_enter Tryz.func11, Tryz.ntmps11
  go_wp2
  go_ret2
  exact ⟨rfl, rfl⟩
theorem Int_none (op : ByteArray) (a b : Int) (w : World) (h1 : op ≠ ⟨#[43]⟩) (h2 : op ≠ ⟨#[45]⟩) (h3 : op ≠ ⟨#[42]⟩) (h4 : op ≠ ⟨#[47]⟩) (h5 : op ≠ ⟨#[37]⟩) :
    Calls Tryz.prog 10 #[.string op, .int .i64 a, .int .i64 b] w fun e w' => e = .returned (.tuple #[.int .i64 0, .int .i64 2]) ∧ Below w.heap.size w w' := by
  have hl := look_io_not w op (by simp [mi5, mi4, mi3, mi2, mi1, findNow, sameNow, ne1 h1, ne1 h2, ne1 h3, ne1 h4, ne1 h5])
  clear h1 h2 h3 h4 h5
  go_enter Tryz.func10, Tryz.ntmps10
  go_wp2_with (first | (go_at_call 28; refine (intOps_any _).mono ?_; rintro e w' ⟨rfl, rfl⟩))
  go_ret2
  exact ⟨rfl, by go_grown⟩
theorem rInt_none (op : ByteArray) (a b : Int) (w : World) (h1 : op ≠ ⟨#[43]⟩) (h2 : op ≠ ⟨#[45]⟩) (h3 : op ≠ ⟨#[42]⟩) (h4 : op ≠ ⟨#[47]⟩) (h5 : op ≠ ⟨#[37]⟩) :
    Calls Tryz.prog 11 #[.string op, .int .i64 a, .int .i64 b] w fun e w' => e = .returned (.tuple #[.int .i64 0, .int .i64 2]) ∧ w = w' := by
  have k1 := ne2 (l := [43]) h1
  have k2 := ne2 (l := [45]) h2
  have k3 := ne2 (l := [42]) h3
  have k4 := ne2 (l := [47]) h4
  have k5 := ne2 (l := [37]) h5
  clear h1 h2 h3 h4 h5
  go_enter Tryz.func11, Tryz.ntmps11
  go_wp2
  go_ret2
  exact ⟨rfl, rfl⟩

/-- The program's answer is the document's, whatever the operator. -/
theorem Int_both (op : ByteArray) (a b : Int) : ∃ r c : Int, (∀ w, Calls Tryz.prog 10 #[.string op, .int .i64 a, .int .i64 b] w fun e w' => e = .returned (.tuple #[.int .i64 r, .int .i64 c]) ∧ Below w.heap.size w w') ∧
    ∀ w, Calls Tryz.prog 11 #[.string op, .int .i64 a, .int .i64 b] w fun e w' => e = .returned (.tuple #[.int .i64 r, .int .i64 c]) ∧ w = w' := by
  by_cases h1 : op = ⟨#[43]⟩
  · subst h1; exact ⟨_, _, Int_add a b, rInt_add a b⟩
  by_cases h2 : op = ⟨#[45]⟩
  · subst h2; exact ⟨_, _, Int_sub a b, rInt_sub a b⟩
  by_cases h3 : op = ⟨#[42]⟩
  · subst h3; exact ⟨_, _, Int_mul a b, rInt_mul a b⟩
  by_cases h4 : op = ⟨#[47]⟩
  · subst h4
    by_cases hb : b = 0
    · subst hb; exact ⟨_, _, Int_quo0 a, rInt_quo0 a⟩
    · exact ⟨_, _, Int_quo a b hb (by simpa using hb), rInt_quo a b hb (by simpa using hb)⟩
  by_cases h5 : op = ⟨#[37]⟩
  · subst h5
    by_cases hb : b = 0
    · subst hb; exact ⟨_, _, Int_rem0 a, rInt_rem0 a⟩
    · exact ⟨_, _, Int_rem a b hb (by simpa using hb), rInt_rem a b hb (by simpa using hb)⟩
  exact ⟨_, _, fun w => Int_none op a b w h1 h2 h3 h4 h5, fun w => rInt_none op a b w h1 h2 h3 h4 h5⟩
end Go.Proofs.YtgncihoioacgjaaGreatDoor
