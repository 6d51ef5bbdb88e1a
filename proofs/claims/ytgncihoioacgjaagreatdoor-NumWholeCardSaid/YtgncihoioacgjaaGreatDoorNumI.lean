import Derived.Test.YtgncihoioacgjaaGreatDoorNumH
namespace Go.Proofs.YtgncihoioacgjaaGreatDoor
open Go.Instr Go.RowKit NumF
set_option linter.unusedVariables false

theorem rFloatIs_bad (op : ByteArray) (a b : Nat) (ha : a < 18446744073709551616) (hb : b < 18446744073709551616) (t : Bool)
    (h : ∀ w, Calls Tryz.prog 31 #[.string op, .bool (decide (pl a < pl b)), .bool (pl a == pl b)] w fun e w' => e = .returned (.tuple #[.bool t, .int .i64 2]) ∧ w = w') (w : World) :
    Calls Tryz.prog 17 #[.string op, .int .u64 (a : Int), .int .u64 (b : Int)] w fun e w' => e = .returned (.tuple #[.bool t, .int .i64 2]) ∧ w = w' := by
  have H := Lib.hid h
  clear h
  go_enter Tryz.func17, Tryz.ntmps17
  go_wp2_with (first | (go_at_call 36; refine (place_any _ (by assumption) _).mono ?_; rintro e w' ⟨rfl, rfl⟩) | (go_at_call 31; refine (H.out _).mono ?_; rintro e w' ⟨rfl, rfl⟩))
  go_ret2
  exact ⟨rfl, rfl⟩
theorem rFloatIs_num (op : ByteArray) (a b : Nat) (ha : a < 18446744073709551616) (hb : b < 18446744073709551616) (na : isNan a = false) (nb : isNan b = false) (t : Bool)
    (h : ∀ w, Calls Tryz.prog 31 #[.string op, .bool (decide (pl a < pl b)), .bool (pl a == pl b)] w fun e w' => e = .returned (.tuple #[.bool t, .int .i64 0]) ∧ w = w') (w : World) :
    Calls Tryz.prog 17 #[.string op, .int .u64 (a : Int), .int .u64 (b : Int)] w fun e w' => e = .returned (.tuple #[.bool t, .int .i64 0]) ∧ w = w' := by
  have H := Lib.hid h
  clear h
  go_enter Tryz.func17, Tryz.ntmps17
  go_wp2_with (first | (go_at_call 36; refine (place_any _ (by assumption) _).mono ?_; rintro e w' ⟨rfl, rfl⟩) | (go_at_call 31; refine (H.out _).mono ?_; rintro e w' ⟨rfl, rfl⟩) | (go_at_call 37; refine (NaYtgncihoioacgjaaGreatDoorany _ (by assumption) _).mono ?_; rintro e w' ⟨rfl, rfl⟩))
  go_ret2
  exact ⟨rfl, rfl⟩
theorem rFloatIs_nan (op : ByteArray) (a b : Nat) (ha : a < 18446744073709551616) (hb : b < 18446744073709551616) (n : isNan a = true ∨ isNan a = false ∧ isNan b = true) (t : Bool)
    (h : ∀ w, Calls Tryz.prog 31 #[.string op, .bool (decide (pl a < pl b)), .bool (pl a == pl b)] w fun e w' => e = .returned (.tuple #[.bool t, .int .i64 0]) ∧ w = w') (w : World) :
    Calls Tryz.prog 17 #[.string op, .int .u64 (a : Int), .int .u64 (b : Int)] w fun e w' => e = .returned (.tuple #[.bool (op.toList == [33, 61]), .int .i64 0]) ∧ w = w' := by
  have H := Lib.hid h
  clear h
  rcases n with na | ⟨na, nb⟩
  all_goals
    go_enter Tryz.func17, Tryz.ntmps17
    go_wp2_with (first | (go_at_call 36; refine (place_any _ (by assumption) _).mono ?_; rintro e w' ⟨rfl, rfl⟩) | (go_at_call 31; refine (H.out _).mono ?_; rintro e w' ⟨rfl, rfl⟩) | (go_at_call 37; refine (NaYtgncihoioacgjaaGreatDoorany _ (by assumption) _).mono ?_; rintro e w' ⟨rfl, rfl⟩))
    go_ret2
    exact ⟨rfl, rfl⟩
theorem tri_elim (P : Bool → Bool → Ordering → Prop) (h1 : P true false .lt) (h2 : P false true .eq) (h3 : P false false .gt) (x y : Int) : P (decide (x < y)) (x == y) (compare x y) := by
  by_cases k1 : x < y
  · rw [compare_of_lt k1, decide_eq_true k1, beq_eq_false_iff_ne.2 (show x ≠ y by omega)]; exact h1
  · by_cases k2 : y < x
    · rw [compare_of_gt k2, decide_eq_false k1, beq_eq_false_iff_ne.2 (show x ≠ y by omega)]; exact h3
    · obtain rfl : x = y := by omega
      rw [compare_of_eq, decide_eq_false k1, beq_self_eq_true]; exact h2
theorem tri_eq (x y : Int) : (x == y) = ((some (compare x y) : Option Ordering) == some .eq) := tri_elim (fun p q o => q = ((some o : Option Ordering) == some .eq)) rfl rfl rfl x y
theorem tri_ne (x y : Int) : (!(x == y)) = ((some (compare x y) : Option Ordering) != some .eq) := tri_elim (fun p q o => (!q) = ((some o : Option Ordering) != some .eq)) rfl rfl rfl x y
theorem tri_lt (x y : Int) : (decide (x < y)) = ((some (compare x y) : Option Ordering) == some .lt) := tri_elim (fun p q o => p = ((some o : Option Ordering) == some .lt)) rfl rfl rfl x y
theorem tri_le (x y : Int) : ((decide (x < y)) || (x == y)) = ((some (compare x y) : Option Ordering) == some .lt || (some (compare x y) : Option Ordering) == some .eq) := tri_elim (fun p q o => (p || q) = ((some o : Option Ordering) == some .lt || (some o : Option Ordering) == some .eq)) rfl rfl rfl x y
theorem tri_gt (x y : Int) : (!(decide (x < y)) && !(x == y)) = ((some (compare x y) : Option Ordering) == some .gt) := tri_elim (fun p q o => (!p && !q) = ((some o : Option Ordering) == some .gt)) rfl rfl rfl x y
theorem tri_ge (x y : Int) : (!(decide (x < y))) = ((some (compare x y) : Option Ordering) == some .gt || (some (compare x y) : Option Ordering) == some .eq) := tri_elim (fun p q o => (!p) = ((some o : Option Ordering) == some .gt || (some o : Option Ordering) == some .eq)) rfl rfl rfl x y
theorem FloatIs_both (op : ByteArray) (a b : Nat) (ha : a < 18446744073709551616) (hb : b < 18446744073709551616) : ∃ (t : Bool) (c : Int), (∀ w, Calls Tryz.prog 16 #[.string op, .int .u64 (a : Int), .int .u64 (b : Int)] w fun e w' => e = .returned (.tuple #[.bool t, .int .i64 c]) ∧ Below w.heap.size w w') ∧
    ∀ w, Calls Tryz.prog 17 #[.string op, .int .u64 (a : Int), .int .u64 (b : Int)] w fun e w' => e = .returned (.tuple #[.bool t, .int .i64 c]) ∧ w = w' := by
  by_cases hn : isNan a = true ∨ isNan a = false ∧ isNan b = true
  · have ho : FloatKind.f64.format.order a b = none := order_nan a b (by rcases hn with h | ⟨_, h⟩ <;> simp [h])
    by_cases h1 : op = ⟨#[61, 61]⟩
    · subst h1
      have e : ((⟨#[61, 61]⟩ : ByteArray).toList == [33, 61]) = ((none : Option Ordering) == some .eq) := by rw [Lib.toList_data]; decide
      exact ⟨_, 0, FloatIs_of _ a b _ _ (cmpF_eq a b _ ho), e ▸ rFloatIs_nan _ a b ha hb hn _ (is_eq _ _)⟩
    by_cases h2 : op = ⟨#[33, 61]⟩
    · subst h2
      have e : ((⟨#[33, 61]⟩ : ByteArray).toList == [33, 61]) = ((none : Option Ordering) != some .eq) := by rw [Lib.toList_data]; decide
      exact ⟨_, 0, FloatIs_of _ a b _ _ (cmpF_ne a b _ ho), e ▸ rFloatIs_nan _ a b ha hb hn _ (is_ne _ _)⟩
    by_cases h3 : op = ⟨#[60]⟩
    · subst h3
      have e : ((⟨#[60]⟩ : ByteArray).toList == [33, 61]) = ((none : Option Ordering) == some .lt) := by rw [Lib.toList_data]; decide
      exact ⟨_, 0, FloatIs_of _ a b _ _ (cmpF_lt a b _ ho), e ▸ rFloatIs_nan _ a b ha hb hn _ (is_lt _ _)⟩
    by_cases h4 : op = ⟨#[60, 61]⟩
    · subst h4
      have e : ((⟨#[60, 61]⟩ : ByteArray).toList == [33, 61]) = ((none : Option Ordering) == some .lt || (none : Option Ordering) == some .eq) := by rw [Lib.toList_data]; decide
      exact ⟨_, 0, FloatIs_of _ a b _ _ (cmpF_le a b _ ho), e ▸ rFloatIs_nan _ a b ha hb hn _ (is_le _ _)⟩
    by_cases h5 : op = ⟨#[62]⟩
    · subst h5
      have e : ((⟨#[62]⟩ : ByteArray).toList == [33, 61]) = ((none : Option Ordering) == some .gt) := by rw [Lib.toList_data]; decide
      exact ⟨_, 0, FloatIs_of _ a b _ _ (cmpF_gt a b _ ho), e ▸ rFloatIs_nan _ a b ha hb hn _ (is_gt _ _)⟩
    by_cases h6 : op = ⟨#[62, 61]⟩
    · subst h6
      have e : ((⟨#[62, 61]⟩ : ByteArray).toList == [33, 61]) = ((none : Option Ordering) == some .gt || (none : Option Ordering) == some .eq) := by rw [Lib.toList_data]; decide
      exact ⟨_, 0, FloatIs_of _ a b _ _ (cmpF_ge a b _ ho), e ▸ rFloatIs_nan _ a b ha hb hn _ (is_ge _ _)⟩
    exact ⟨false, 2, FloatIs_of _ a b _ _ (fun w => cmpF_none op a b w h1 h2 h3 h4 h5 h6), rFloatIs_bad op a b ha hb _ (fun w => is_none op _ _ w h1 h2 h3 h4 h5 h6)⟩
  · have na : isNan a = false := by cases h : isNan a <;> simp [h] at hn ⊢
    have nb : isNan b = false := by cases h : isNan b <;> simp [na, h] at hn ⊢
    have ho : FloatKind.f64.format.order a b = some (compare (pl a) (pl b)) := order_places a b ha hb na nb
    by_cases h1 : op = ⟨#[61, 61]⟩
    · subst h1
      exact ⟨_, 0, FloatIs_of _ a b _ _ (cmpF_eq a b _ ho), tri_eq (pl a) (pl b) ▸ rFloatIs_num _ a b ha hb na nb _ (is_eq _ _)⟩
    by_cases h2 : op = ⟨#[33, 61]⟩
    · subst h2
      exact ⟨_, 0, FloatIs_of _ a b _ _ (cmpF_ne a b _ ho), tri_ne (pl a) (pl b) ▸ rFloatIs_num _ a b ha hb na nb _ (is_ne _ _)⟩
    by_cases h3 : op = ⟨#[60]⟩
    · subst h3
      exact ⟨_, 0, FloatIs_of _ a b _ _ (cmpF_lt a b _ ho), tri_lt (pl a) (pl b) ▸ rFloatIs_num _ a b ha hb na nb _ (is_lt _ _)⟩
    by_cases h4 : op = ⟨#[60, 61]⟩
    · subst h4
      exact ⟨_, 0, FloatIs_of _ a b _ _ (cmpF_le a b _ ho), tri_le (pl a) (pl b) ▸ rFloatIs_num _ a b ha hb na nb _ (is_le _ _)⟩
    by_cases h5 : op = ⟨#[62]⟩
    · subst h5
      exact ⟨_, 0, FloatIs_of _ a b _ _ (cmpF_gt a b _ ho), tri_gt (pl a) (pl b) ▸ rFloatIs_num _ a b ha hb na nb _ (is_gt _ _)⟩
    by_cases h6 : op = ⟨#[62, 61]⟩
    · subst h6
      exact ⟨_, 0, FloatIs_of _ a b _ _ (cmpF_ge a b _ ho), tri_ge (pl a) (pl b) ▸ rFloatIs_num _ a b ha hb na nb _ (is_ge _ _)⟩
    exact ⟨false, 2, FloatIs_of _ a b _ _ (fun w => cmpF_none op a b w h1 h2 h3 h4 h5 h6), rFloatIs_bad op a b ha hb _ (fun w => is_none op _ _ w h1 h2 h3 h4 h5 h6)⟩
end Go.Proofs.YtgncihoioacgjaaGreatDoor
