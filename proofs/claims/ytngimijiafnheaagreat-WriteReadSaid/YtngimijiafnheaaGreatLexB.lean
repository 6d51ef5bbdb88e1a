/- Actions hang on nothing without: how they are read again, and within one another. -/
import Derived.Test.YtngimijiafnheaaGreatLexA
set_option maxRecDepth 100000
namespace LexT
set_option linter.unusedVariables false
theorem strB_len : ∀ (m : Nat) (l : Bs) (n : Nat), l.length ≤ m → strB l = some n → 1 ≤ n ∧ n ≤ l.length := by
  intro m
  induction m with
  | zero => intro l n hl h; obtain rfl : l = [] := List.eq_nil_of_length_eq_zero (by omega); simp [strB] at h
  | succ m ih =>
    intro l n hl h
    cases l with
    | nil => simp [strB] at h
    | cons c r =>
      rw [strB.eq_def] at h
      simp only [List.length_cons] at hl ⊢
      by_cases h1 : (c == 34) = true
      · simp [h1] at h; omega
      · simp only [h1, Bool.false_eq_true, if_false] at h
        by_cases h2 : (c == 10) = true
        · simp [h2] at h
        · simp only [h2, Bool.false_eq_true, if_false] at h
          by_cases h3 : (c == 92) = true
          · simp only [h3, if_true] at h
            cases r with
            | nil => simp at h
            | cons d r1 =>
              simp only [List.length_cons] at hl ⊢
              cases e : strB r1 <;> simp [e] at h
              have := ih r1 _ (by omega) e
              omega
          · simp only [h3, Bool.false_eq_true, if_false] at h
            cases e : strB r <;> simp [e] at h
            have := ih r _ (by omega) e
            omega
/-- A string is read to its end whatever stands behind it. -/
theorem strB_local : ∀ (m : Nat) (l : Bs) (n : Nat), l.length ≤ m → strB l = some n → ∀ k r, n ≤ k → strB (l.take k ++ r) = some n := by
  intro m
  induction m with
  | zero => intro l n hl h; obtain rfl : l = [] := List.eq_nil_of_length_eq_zero (by omega); simp [strB] at h
  | succ m ih =>
    intro l n hl h k r hk
    have hn := strB_len _ _ _ (Nat.le_refl _) h
    cases l with
    | nil => simp [strB] at h
    | cons c q =>
      obtain ⟨k, rfl⟩ : ∃ j, k = j + 1 := ⟨k - 1, by omega⟩
      rw [List.take_succ_cons, List.cons_append]
      rw [strB.eq_def] at h ⊢
      simp only [List.length_cons] at hl
      by_cases h1 : (c == 34) = true
      · simp [h1] at h ⊢; exact h
      · simp only [h1, Bool.false_eq_true, if_false] at h ⊢
        by_cases h2 : (c == 10) = true
        · simp [h2] at h
        · simp only [h2, Bool.false_eq_true, if_false] at h ⊢
          by_cases h3 : (c == 92) = true
          · simp only [h3, if_true] at h ⊢
            cases q with
            | nil => simp at h
            | cons d q =>
              simp only [List.length_cons] at hl
              cases e : strB q <;> simp [e] at h
              subst h
              have h4 := strB_len _ _ _ (Nat.le_refl _) e
              obtain ⟨k, rfl⟩ : ∃ j, k = j + 1 := ⟨k - 1, by omega⟩
              rw [List.take_succ_cons, List.cons_append]
              simp only
              rw [ih q _ (by omega) e k r (by omega)]
              rfl
          · simp only [h3, Bool.false_eq_true, if_false] at h ⊢
            cases e : strB q <;> simp [e] at h
            subst h
            rw [ih q _ (by omega) e k r (by omega)]
            rfl
theorem takeWhile_len (p : UInt8 → Bool) (l : Bs) : (l.takeWhile p).length ≤ l.length := (List.takeWhile_sublist p (l := l)).length_le
theorem pieceB_len {c : UInt8} {r : Bs} {n : Nat} (h : pieceB c r = some n) : 1 ≤ n ∧ n ≤ r.length + 1 := by
  unfold pieceB at h
  split at h
  · cases e : strB r <;> simp [e] at h
    have := strB_len _ _ _ (Nat.le_refl _) e
    omega
  · split at h
    · split at h
      · have := takeWhile_len notNL r
        simp at h
        omega
      · simp at h; omega
    · simp at h; omega
theorem takeWhile_cut (p : UInt8 → Bool) : ∀ (l : Bs) (k : Nat) (r : Bs), (l.takeWhile p).length < k → k ≤ l.length → (l.take k ++ r).takeWhile p = l.takeWhile p := by
  intro l
  induction l with
  | nil => intro k r h1 h2; simp at h2; omega
  | cons c l ih =>
    intro k r h1 h2
    obtain ⟨k, rfl⟩ : ∃ j, k = j + 1 := ⟨k - 1, by omega⟩
    rw [List.take_succ_cons, List.cons_append, List.takeWhile_cons, List.takeWhile_cons]
    rw [List.takeWhile_cons] at h1
    cases hp : p c
    · simp
    · simp only [hp, if_true, List.length_cons] at h1 ⊢
      rw [ih k r (by omega) (by simpa using h2)]
/-- What goes by at once does so whatever stands behind, if at least one more byte stays as it is; or if it is no slash. -/
theorem pieceB_local {c : UInt8} {l : Bs} {n : Nat} (h : pieceB c l = some n) (k : Nat) (r : Bs) (hk : n ≤ k) (hk2 : n < k + 1) (hk3 : (c == 47) = true → k ≤ l.length ∧ 1 ≤ k) : pieceB c (l.take k ++ r) = some n := by
  unfold pieceB at h ⊢
  by_cases h1 : (c == 34) = true
  · simp only [h1, if_true] at h ⊢
    cases e : strB l <;> simp [e] at h
    subst h
    rw [strB_local _ _ _ (Nat.le_refl _) e k r (by omega)]
    rfl
  · simp only [h1, Bool.false_eq_true, if_false] at h ⊢
    by_cases h2 : (c == 47) = true
    · obtain ⟨hk4, hk5⟩ := hk3 h2
      simp only [h2, if_true] at h ⊢
      cases l with
      | nil => simp at hk4; omega
      | cons d l =>
        obtain ⟨k, rfl⟩ : ∃ j, k = j + 1 := ⟨k - 1, by omega⟩
        have e : ∀ z : Bs, [47].isPrefixOf (d :: z) = (47 == d) := fun z => by simp [List.isPrefixOf]
        have e2 : [47].isPrefixOf ((d :: l).take (k + 1) ++ r) = [47].isPrefixOf (d :: l) := by rw [List.take_succ_cons, List.cons_append, e, e]
        rw [e2]
        split at h
        · rename_i hp
          rw [if_pos hp]
          simp only [Option.some.injEq] at h ⊢
          rw [takeWhile_cut notNL (d :: l) (k + 1) r (by omega) hk4]
          exact h
        · rename_i hp
          rw [if_neg hp]
          exact h
    · simp only [h2, Bool.false_eq_true, if_false] at h ⊢
      exact h
/-- Fuel makes no difference. -/
theorem actF_fuel : ∀ (f g o : Nat) (l : Bs), l.length < f → l.length < g → actF f o l = actF g o l := by
  intro f
  induction f with
  | zero => intro g o l h; omega
  | succ f ih =>
    intro g o l h1 h2
    obtain ⟨g, rfl⟩ : ∃ j, g = j + 1 := ⟨g - 1, by omega⟩
    cases l with
    | nil => rfl
    | cons c r =>
      simp only [actF]
      cases hp : pieceB c r with
      | none => rfl
      | some n =>
        have hn := pieceB_len hp
        simp only [List.length_cons] at h1 h2
        simp only
        rw [ih g (openB c o) ((c :: r).drop n) (by rw [List.length_drop]; simp only [List.length_cons]; omega) (by rw [List.length_drop]; simp only [List.length_cons]; omega)]
theorem actB_nil (o : Nat) : actB o [] = none := rfl
theorem actB_cons (o : Nat) (c : UInt8) (r : Bs) : actB o (c :: r) = match pieceB c r with | none => none | some n => if openB c o = 0 then some n else (actB (openB c o) ((c :: r).drop n)).map (· + n) := by
  unfold actB
  rw [actF]
  cases hp : pieceB c r with
  | none => rfl
  | some n =>
    have hn := pieceB_len hp
    simp only
    rw [actF_fuel (c :: r).length (((c :: r).drop n).length + 1) (openB c o) ((c :: r).drop n) (by rw [List.length_drop]; simp only [List.length_cons]; omega) (by omega)]
theorem actB_some {o : Nat} {c : UInt8} {r : Bs} {m : Nat} (h : actB o (c :: r) = some m) : ∃ n, pieceB c r = some n ∧ ((openB c o = 0 ∧ m = n) ∨ (openB c o ≠ 0 ∧ ∃ m', actB (openB c o) ((c :: r).drop n) = some m' ∧ m = m' + n)) := by
  rw [actB_cons] at h
  cases hp : pieceB c r with
  | none => rw [hp] at h; cases h
  | some n =>
    rw [hp] at h
    simp only at h
    refine ⟨n, rfl, ?_⟩
    by_cases h0 : openB c o = 0
    · rw [if_pos h0] at h; injection h with h; exact .inl ⟨h0, h.symm⟩
    · rw [if_neg h0] at h
      cases e : actB (openB c o) ((c :: r).drop n) <;> simp [e] at h
      exact .inr ⟨h0, _, rfl, h.symm⟩
theorem actB_len : ∀ (k : Nat) (o : Nat) (l : Bs) (m : Nat), l.length ≤ k → actB o l = some m → 1 ≤ m ∧ m ≤ l.length := by
  intro k
  induction k with
  | zero => intro o l m hl h; obtain rfl : l = [] := List.eq_nil_of_length_eq_zero (by omega); cases h
  | succ k ih =>
    intro o l m hl h
    cases l with
    | nil => cases h
    | cons c r =>
      obtain ⟨n, hp, h | ⟨h0, m', h1, h2⟩⟩ := actB_some h
      · have := pieceB_len hp; simp only [List.length_cons]; omega
      · have hn := pieceB_len hp
        simp only [List.length_cons] at hl ⊢
        have := ih _ _ _ (by rw [List.length_drop]; simp only [List.length_cons]; omega) h1
        rw [List.length_drop] at this
        simp only [List.length_cons] at this
        omega
theorem openB_zero {c : UInt8} {o : Nat} (h : openB c o = 0) (ho : 1 ≤ o) : c = 125 ∧ o = 1 := by
  unfold openB at h
  by_cases h1 : (c == 123) = true
  · rw [if_pos h1] at h; omega
  · rw [if_neg h1] at h
    by_cases h2 : (c == 125) = true
    · rw [if_pos h2] at h; exact ⟨by simpa using h2, by omega⟩
    · rw [if_neg h2] at h; omega
theorem openB_add {c : UInt8} {o k : Nat} (ho : 1 ≤ o) : openB c (o + k) = openB c o + k := by
  unfold openB
  split
  · omega
  · split <;> omega
/-- What is closed is so whatever stands behind; with more open it goes on behind it. -/
theorem actB_shift : ∀ (j : Nat) (o : Nat) (l : Bs) (m : Nat), l.length ≤ j → 1 ≤ o → actB o l = some m → ∀ k r, actB (o + k) (l.take m ++ r) = if k = 0 then some m else (actB k r).map (· + m) := by
  intro j
  induction j with
  | zero => intro o l m hl; obtain rfl : l = [] := List.eq_nil_of_length_eq_zero (by omega); intro _ h; cases h
  | succ j ih =>
    intro o l m hl ho h k r
    cases l with
    | nil => cases h
    | cons c q =>
      have hlen := actB_len _ _ _ _ (Nat.le_refl _) h
      obtain ⟨n, hp, ⟨h0, rfl⟩ | ⟨h0, m', h1, rfl⟩⟩ := actB_some h
      · obtain ⟨rfl, rfl⟩ := openB_zero h0 ho
        have : m = 1 := by simp [pieceB] at hp; exact hp.symm
        subst this
        show actB (1 + k) (125 :: r) = _
        rw [actB_cons]
        have e1 : pieceB 125 r = some 1 := rfl
        have e2 : openB 125 (1 + k) = k := by show 1 + k - 1 = k; omega
        simp only [e1, e2, List.drop_succ_cons, List.drop_zero]
      · have hn := pieceB_len hp
        simp only [List.length_cons] at hl
        have hl2 := actB_len _ _ _ _ (Nat.le_refl _) h1
        have hlen2 := hlen.2
        simp only [List.length_cons] at hlen2
        obtain ⟨m2, hm2⟩ : ∃ x, m' + n = x + 1 := ⟨m' + n - 1, by omega⟩
        have e1 : (c :: q).take (m' + n) ++ r = c :: (q.take m2 ++ r) := by rw [hm2]; rfl
        rw [e1, actB_cons]
        have e2 : pieceB c (q.take m2 ++ r) = some n := by
          exact pieceB_local hp m2 r (by omega) (by omega) (fun _ => ⟨by omega, by omega⟩)
        have e3 : openB c (o + k) = openB c o + k := openB_add ho
        have e4 : (c :: (q.take m2 ++ r)).drop n = ((c :: q).drop n).take m' ++ r := by
          rw [← e1, List.drop_append_of_le_length (by rw [List.length_take]; simp only [List.length_cons]; omega), List.drop_take]
          congr 2
          omega
        have hne : ¬ (openB c o + k = 0) := by omega
        rw [e2]
        simp only [e3, e4, if_neg hne]
        rw [ih (openB c o) ((c :: q).drop n) m' (by rw [List.length_drop]; simp only [List.length_cons]; omega) (by omega) h1 k r]
        by_cases hk : k = 0
        · simp [hk]
        · simp only [if_neg hk]
          cases actB k r with
          | none => rfl
          | some x => simp; omega
end LexT
