/- ScanLines, as mathematics: a line's end behind a blank and a comment tells the same tokens. -/
import Derived.Test.YtbiohbklefjfiaaDoorScnD
set_option maxRecDepth 100000
namespace ScnT
set_option linter.unusedVariables false
def eol : Bs := [32, 47, 47, 32, 120, 34, 32, 0, 10]
def tailE : Bs := [9, 47, 47, 32, 48, 48, 55]
def headE : Bs := [9, 13, 32, 47, 47, 32, 103, 111, 10]
def ed (l : Bs) : Bs := l.flatMap fun c => if c == 10 then eol else [c]
/-- The text with its lines' ends dressed. -/
def dr (l : Bs) : Bs := ed l ++ tailE
def hard (w : Bs) : Prop := w = [] ∨ ∃ r, w = 10 :: r
def bd (w : Bs) : Prop := w = [] ∨ ∃ d r, w = d :: r ∧ (d = 10 ∨ d = 32 ∨ d = 9)
theorem hard.bd {w : Bs} (h : hard w) : bd w := by
  rcases h with rfl | ⟨r, rfl⟩
  · exact .inl rfl
  · exact .inr ⟨10, r, rfl, .inl rfl⟩
theorem ed_append (a b : Bs) : ed (a ++ b) = ed a ++ ed b := by simp [ed]
theorem ed_none : ∀ (u : Bs), (∀ x ∈ u, x ≠ 10) → ed u = u := by
  intro u
  induction u with
  | nil => intro _; rfl
  | cons c u ih =>
    intro h
    have hc : (c == 10) = false := by simpa using h c (by simp)
    have := ih fun x hx => h x (by simp [hx])
    unfold ed at this ⊢
    rw [List.flatMap_cons, this, hc]
    rfl
theorem dr_append (u w : Bs) (h : ∀ x ∈ u, x ≠ 10) : dr (u ++ w) = u ++ dr w := by
  unfold dr
  rw [ed_append, ed_none u h, List.append_assoc]
theorem dr_nil : dr [] = tailE := rfl
theorem dr_line (r : Bs) : dr (10 :: r) = 32 :: 47 :: 47 :: 32 :: 120 :: 34 :: 32 :: 0 :: 10 :: dr r := by
  unfold dr ed
  rw [List.flatMap_cons]
  rfl
theorem dr_bd {w : Bs} (h : hard w) : bd (dr w) := by
  rcases h with rfl | ⟨r, rfl⟩
  · exact .inr ⟨9, _, dr_nil, .inr (.inr rfl)⟩
  · exact .inr ⟨32, _, dr_line r, .inr (.inl rfl)⟩
theorem tw_bd {f : UInt8 → Bool} (h10 : f 10 = false) (h32 : f 32 = false) (h9 : f 9 = false) {w : Bs} (hw : bd w) : ∀ u : Bs, (u ++ w).takeWhile f = u.takeWhile f := by
  intro u
  induction u with
  | nil =>
    rcases hw with rfl | ⟨d, r, rfl, rfl | rfl | rfl⟩
    · rfl
    · simp [List.takeWhile, h10]
    · simp [List.takeWhile, h32]
    · simp [List.takeWhile, h9]
  | cons c u ih => simp only [List.cons_append, List.takeWhile_cons, ih]
theorem tw_le {f : UInt8 → Bool} (u : Bs) : (u.takeWhile f).length ≤ u.length := (List.takeWhile_sublist f (l := u)).length_le
/-- A question that all of nothing, 10, 32, 9 answer alike. -/
theorem look_bd {α : Type} (q : UInt8 → α) (h10 : q 10 = q 0) (h32 : q 32 = q 0) (h9 : q 9 = q 0) {w : Bs} (hw : bd w) (u : Bs) (i : Nat) (hi : i ≤ u.length) : q (lookB (u ++ w) i) = q (lookB u i) := by
  unfold lookB
  by_cases h : i < u.length
  · rw [List.getD_eq_getElem?_getD, List.getD_eq_getElem?_getD, List.getElem?_append_left h]
  · have hi' : i = u.length := by omega
    subst hi'
    rw [List.getD_eq_getElem?_getD, List.getD_eq_getElem?_getD, List.getElem?_append_right (Nat.le_refl _), Nat.sub_self, List.getElem?_eq_none (Nat.le_refl _)]
    rcases hw with rfl | ⟨d, r, rfl, rfl | rfl | rfl⟩
    · rfl
    · exact h10
    · exact h32
    · exact h9
theorem name_bd {w : Bs} (hw : bd w) (u : Bs) : nameT (u ++ w) = nameT u := by
  unfold nameT
  rw [tw_bd (f := isLd) rfl rfl rfl hw]
theorem dr_le (u w : Bs) (n : Nat) (h : n ≤ u.length) : (u ++ w).drop n = u.drop n ++ w := List.drop_append_of_le_length h
theorem number_bd {w : Bs} (hw : bd w) (u : Bs) : numberT (u ++ w) = numberT u := by
  unfold numberT
  have e1 : (u ++ w).takeWhile isDg = u.takeWhile isDg := tw_bd (f := isDg) rfl rfl rfl hw u
  have ha := tw_le (f := isDg) u
  simp only [e1]
  generalize hk : (u.takeWhile isDg).length = k at *
  rw [dr_le u w k ha]
  generalize hu1 : u.drop k = u1
  have hl1 : u1.length = u.length - k := by rw [← hu1, List.length_drop]
  have hp : (lookB (u1 ++ w) 0 == 46 && isDg (lookB (u1 ++ w) 1)) = (lookB u1 0 == 46 && isDg (lookB u1 1)) := by
    have q0 := look_bd (fun c => c == 46) rfl rfl rfl hw u1 0 (Nat.zero_le _)
    rw [q0]
    by_cases h0 : u1.length = 0
    · have : u1 = [] := List.eq_nil_of_length_eq_zero h0
      subst this
      rfl
    · rw [look_bd isDg rfl rfl rfl hw u1 1 (by omega)]
  rw [hp]
  by_cases hpt : (lookB u1 0 == 46 && isDg (lookB u1 1)) = true
  · have h0 : 1 ≤ u1.length := by
      rcases u1 with _ | ⟨x, u2⟩
      · revert hpt; decide
      · simp
    have e2 : ((u1 ++ w).drop 1).takeWhile isDg = (u1.drop 1).takeWhile isDg := by rw [dr_le u1 w 1 h0]; exact tw_bd (f := isDg) rfl rfl rfl hw _
    have hb := tw_le (f := isDg) (u1.drop 1)
    rw [List.length_drop] at hb
    simp only [hpt, if_true, e2]
    generalize hbb : (u1.drop 1).takeWhile isDg = b at *
    rw [dr_le u w (k + 1 + b.length) (by omega), List.take_append_of_le_length (by omega)]
    rw [look_bd isLt rfl rfl rfl hw _ 0 (Nat.zero_le _)]
    have q1 := look_bd (fun c => c != 46) rfl rfl rfl hw (u.drop (k + 1 + b.length)) 0 (Nat.zero_le _)
    rw [q1]
  · simp only [hpt, if_false, Bool.false_eq_true]
    rw [dr_le u w k (by omega), List.take_append_of_le_length (by omega)]
    rw [look_bd isLt rfl rfl rfl hw _ 0 (Nat.zero_le _)]
    have q1 := look_bd (fun c => c != 46) rfl rfl rfl hw (u.drop k) 0 (Nat.zero_le _)
    rw [q1]
theorem dollar_bd {w : Bs} (hw : bd w) (u : Bs) (h1 : 1 ≤ u.length) : dollarT (u ++ w) = dollarT u := by
  unfold dollarT
  have q0 := look_bd (fun c => c == 36) rfl rfl rfl hw u 1 h1
  rw [q0, dr_le u w 1 h1]
  have e1 : (u.drop 1 ++ w).takeWhile isDg = (u.drop 1).takeWhile isDg := tw_bd (f := isDg) rfl rfl rfl hw _
  have ha := tw_le (f := isDg) (u.drop 1)
  rw [List.length_drop] at ha
  simp only [e1]
  rw [dr_le u w _ (show 1 + ((u.drop 1).takeWhile isDg).length ≤ u.length by omega), look_bd isLt rfl rfl rfl hw _ 0 (Nat.zero_le _)]
theorem sign_none : ∀ t ∈ signs ++ oddSigns, ∀ x ∈ t, x ≠ 10 ∧ x ≠ 32 ∧ x ≠ 9 := by decide
theorem not_sign {t : Bs} {d : UInt8} (hd : d ∈ t) (h : d = 10 ∨ d = 32 ∨ d = 9) : signs.contains t = false ∧ oddSigns.contains t = false := by
  constructor
  · rw [Bool.eq_false_iff]
    intro hc
    have := sign_none t (List.mem_append.2 (.inl (by simpa using hc))) d hd
    rcases h with h | h | h
    · exact this.1 h
    · exact this.2.1 h
    · exact this.2.2 h
  · rw [Bool.eq_false_iff]
    intro hc
    have := sign_none t (List.mem_append.2 (.inr (by simpa using hc))) d hd
    rcases h with h | h | h
    · exact this.1 h
    · exact this.2.1 h
    · exact this.2.2 h
theorem sign_in (u w : Bs) : ∀ m, m ≤ u.length → signT (u ++ w) m = signT u m := by
  intro m
  induction m with
  | zero => intro _; rfl
  | succ m ih =>
    intro h
    rw [signT, signT, List.take_append_of_le_length h, ih (by omega)]
theorem sign_idem (u : Bs) : ∀ m, u.length ≤ m → 1 ≤ u.length → signT u m = signT u u.length := by
  intro m
  induction m with
  | zero => intro h h1; omega
  | succ m ih =>
    intro h h1
    by_cases he : u.length = m + 1
    · rw [he]
    · have hm := ih (by omega) h1
      rw [signT, hm, List.take_of_length_le h]
      obtain ⟨j, hj⟩ : ∃ j, u.length = j + 1 := ⟨u.length - 1, by omega⟩
      rw [hj, signT, List.take_of_length_le (by omega)]
      split
      · rfl
      · split
        · rw [hj]
        · rfl
theorem sign_over (u : Bs) (d : UInt8) (r : Bs) (hd : d = 10 ∨ d = 32 ∨ d = 9) : ∀ m, u.length ≤ m → signT (u ++ d :: r) m = signT (u ++ d :: r) u.length := by
  intro m
  induction m with
  | zero => intro h; have : u.length = 0 := by omega
            rw [this]
  | succ m ih =>
    intro h
    by_cases he : u.length = m + 1
    · rw [he]
    · have hin : d ∈ (u ++ d :: r).take (m + 1) := by
        rw [List.take_append, List.mem_append]
        right
        obtain ⟨j, hj⟩ : ∃ j, m + 1 - u.length = j + 1 := ⟨m - u.length, by omega⟩
        rw [hj]
        simp
      have hn := not_sign hin hd
      rw [signT]
      simp only [hn.1, hn.2, Bool.false_eq_true, if_false]
      exact ih (by omega)
theorem sign_bd {w : Bs} (hw : bd w) (u : Bs) (h1 : 1 ≤ u.length) : signT (u ++ w) 3 = signT u 3 := by
  rcases hw with rfl | ⟨d, r, rfl, hd⟩
  · rw [List.append_nil]
  · by_cases h : u.length ≤ 3
    · rw [sign_over u d r hd 3 h, sign_in _ _ _ (Nat.le_refl _), sign_idem u 3 h h1]
    · exact sign_in _ _ _ (by omega)
theorem says_in {w : Bs} (hw : hard w) (w' : Bs) : ∀ (k : Nat) (u : Bs) (t : Bs) (n : Nat), u.length < k → saysB (u ++ w) = some (t, n) → saysB (u ++ w') = some (t, n) := by
  intro k
  induction k with
  | zero => intro u t n h; omega
  | succ k ih =>
    intro u t n hl h
    match u, hl, h with
    | [], _, h =>
      rcases hw with rfl | ⟨r, rfl⟩
      · cases h
      · rw [List.nil_append, saysB.eq_def] at h
        simp [isPl] at h
    | c :: u1, hl, h =>
      simp only [List.length_cons] at hl
      rw [List.cons_append, saysB.eq_def] at h ⊢
      simp only at h ⊢
      by_cases h34 : (c == 34) = true
      · rw [if_pos h34] at h ⊢
        exact h
      · rw [if_neg h34] at h ⊢
        by_cases h92 : (c == 92) = true
        · rw [if_pos h92] at h ⊢
          match u1, hl, h with
          | [], _, h =>
            rcases hw with rfl | ⟨r, rfl⟩
            · cases h
            · simp [pairB] at h
          | d :: u2, hl, h =>
            simp only [List.length_cons] at hl
            simp only [List.cons_append] at h ⊢
            by_cases h120 : (d == 120) = true
            · rw [if_pos h120] at h ⊢
              match u2, hl, h with
              | [], _, h =>
                rcases hw with rfl | ⟨r, rfl⟩
                · cases h
                · rcases r with _ | ⟨x, r⟩
                  · cases h
                  · have : hexB 10 = none := rfl
                    simp [this] at h
              | [x], _, h =>
                rcases hw with rfl | ⟨r, rfl⟩
                · cases h
                · have : hexB 10 = none := rfl
                  simp only [List.cons_append, List.nil_append, this] at h
                  split at h <;> simp_all
              | x :: y :: u3, hl, h =>
                simp only [List.length_cons] at hl
                simp only [List.cons_append] at h ⊢
                cases hx : hexB x with
                | none => simp [hx] at h
                | some a =>
                  cases hy : hexB y with
                  | none => simp [hx, hy] at h
                  | some b =>
                    cases hr : saysB (u3 ++ w) with
                    | none => simp [hx, hy, hr] at h
                    | some z =>
                      obtain ⟨t1, n1⟩ := z
                      rw [ih u3 t1 n1 (by omega) hr]
                      simpa [hx, hy, hr] using h
            · rw [if_neg h120] at h ⊢
              cases hx : pairB d with
              | none => simp [hx] at h
              | some a =>
                cases hr : saysB (u2 ++ w) with
                | none => simp [hx, hr] at h
                | some z =>
                  obtain ⟨t1, n1⟩ := z
                  rw [ih u2 t1 n1 (by omega) hr]
                  simpa [hx, hr] using h
        · rw [if_neg h92] at h ⊢
          by_cases hp : isPl c = true
          · rw [if_pos hp] at h ⊢
            cases hr : saysB (u1 ++ w) with
            | none => simp [hr] at h
            | some z =>
              obtain ⟨t1, n1⟩ := z
              rw [ih u1 t1 n1 (by omega) hr]
              simpa [hr] using h
          · rw [if_neg hp] at h
            cases h
/-- A token stands within its line, and is the same where the line goes on with a blank. -/
theorem one_in {w w' : Bs} (hw : hard w) (hw' : bd w') (c : UInt8) (u : Bs) {x : Nat × Bs × Nat} (h : oneT (c :: u ++ w) = .ok x) : oneT (c :: u ++ w') = .ok x := by
  have hl : 1 ≤ (c :: u).length := by simp
  unfold oneT at h ⊢
  have e0 : ∀ v : Bs, lookB (c :: u ++ v) 0 = c := fun _ => rfl
  rw [e0] at h ⊢
  simp only at h ⊢
  by_cases h1 : isLt c = true
  · rw [if_pos h1] at h ⊢
    rw [name_bd hw.bd] at h
    rw [name_bd hw']
    exact h
  · rw [if_neg h1] at h ⊢
    by_cases h2 : isDg c = true
    · rw [if_pos h2] at h ⊢
      rw [number_bd hw.bd] at h
      rw [number_bd hw']
      exact h
    · rw [if_neg h2] at h ⊢
      by_cases h3 : (c == 34) = true
      · rw [if_pos h3] at h ⊢
        unfold stringT at h ⊢
        have ed1 : ∀ v : Bs, (c :: u ++ v).drop 1 = u ++ v := fun _ => rfl
        rw [ed1] at h ⊢
        cases hr : saysB (u ++ w) with
        | none => simp [hr] at h
        | some z =>
          obtain ⟨t1, n1⟩ := z
          rw [says_in hw w' _ u t1 n1 (Nat.lt_succ_self _) hr]
          simpa [hr] using h
      · rw [if_neg h3] at h ⊢
        by_cases h4 : (c == 36) = true
        · rw [if_pos h4] at h ⊢
          rw [dollar_bd hw.bd _ hl] at h
          rw [dollar_bd hw' _ hl]
          exact h
        · rw [if_neg h4] at h ⊢
          rw [sign_bd hw.bd _ hl] at h
          rw [sign_bd hw' _ hl]
          exact h
end ScnT
