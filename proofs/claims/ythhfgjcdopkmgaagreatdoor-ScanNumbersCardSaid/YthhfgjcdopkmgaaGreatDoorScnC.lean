/- Tokens written one behind the other, with a blank between, are told as they were. -/
import Derived.Test.YthhfgjcdopkmgaaGreatDoorScnB
set_option maxRecDepth 100000
namespace ScnT
set_option linter.unusedVariables false
def spell (k : Nat) (t : Bs) : Bs := if k == 5 then quoteB t else if k == 8 then 36 :: t else t
/-- Such as is told again behind whatever stood ahead, with a blank behind it. -/
def Good (k : Nat) (t : Bs) : Prop := ∀ r : Bs, skipB (spell k t ++ 32 :: r) = 0 ∧ (∃ c q, spell k t = c :: q ∧ c ≠ 10) ∧ oneT (spell k t ++ 32 :: r) = .ok (k, t, (spell k t).length)
theorem takeWhile_stop {p : UInt8 → Bool} {t : Bs} (ht : ∀ c ∈ t, p c = true) (h : p 32 = false) (r : Bs) : (t ++ 32 :: r).takeWhile p = t := by
  induction t with
  | nil => simp [h]
  | cons c t ih =>
    rw [List.cons_append, List.takeWhile_cons, if_pos (ht c (by simp)), ih (fun d hd => ht d (by simp [hd]))]
theorem takeWhile_all (p : UInt8 → Bool) (l : Bs) : ∀ c ∈ l.takeWhile p, p c = true := by
  induction l with
  | nil => simp
  | cons c l ih =>
    rw [List.takeWhile_cons]
    split
    · intro d hd
      rcases List.mem_cons.1 hd with rfl | hd
      · assumption
      · exact ih d hd
    · simp
set_option maxRecDepth 100000 in
theorem lt_not : ∀ c : UInt8, (isLt c = true → isBl c = false ∧ c ≠ 47 ∧ c ≠ 10 ∧ isDg c = false ∧ isLd c = true) ∧ (isDg c = true → isBl c = false ∧ c ≠ 47 ∧ c ≠ 10 ∧ isLt c = false) := all256 (by decide)
theorem skip_first {c : UInt8} (h1 : isBl c = false) (h2 : c ≠ 47) (r : Bs) : skipB (c :: r) = 0 := by
  unfold skipB
  have h3 : (c :: r).takeWhile isBl = [] := by rw [List.takeWhile_cons, h1]; rfl
  rw [h3]
  have h4 : (47 == c) = false := by simpa using fun h => h2 h.symm
  have h5 : [47, 47].isPrefixOf ((c :: r).drop ([] : Bs).length) = false := by
    show ((47 == c) && _) = false
    rw [h4]
    rfl
  simp only [h5, Bool.false_eq_true, if_false]
  rfl
theorem look_cons (c : UInt8) (r : Bs) : lookB (c :: r) 0 = c := rfl
theorem good_name {l : Bs} {k n : Nat} {t : Bs} (hc : isLt (lookB l 0) = true) (h : nameT l = .ok (k, t, n)) : Good k t ∧ 1 ≤ n ∧ n ≤ l.length ∧ k ≤ 6 := by
  cases l with
  | nil => exact absurd hc (by decide)
  | cons c r =>
    rw [look_cons] at hc
    obtain ⟨q1, q2, q3, q4, q5⟩ := (lt_not c).1 hc
    have hu : (c :: r).takeWhile isLd = c :: r.takeWhile isLd := by rw [List.takeWhile_cons, if_pos q5]
    have hall := takeWhile_all isLd (c :: r)
    have hlen := List.takeWhile_sublist isLd (l := c :: r) |>.length_le
    unfold nameT at h
    rw [hu] at h hall hlen
    have key : ∀ k', (k' = 1 ∨ k' = 2) → nameT (c :: r) = .ok (k', c :: r.takeWhile isLd, (c :: r.takeWhile isLd).length) → Good k' (c :: r.takeWhile isLd) := by
      intro k' hk' hh r'
      have hs : spell k' (c :: r.takeWhile isLd) = c :: r.takeWhile isLd := by rcases hk' with rfl | rfl <;> rfl
      rw [hs]
      refine ⟨skip_first q1 q2 _, ⟨c, _, rfl, q3⟩, ?_⟩
      unfold oneT
      rw [List.cons_append, look_cons]
      simp only [hc, if_true]
      have ht := takeWhile_stop hall (by decide : isLd 32 = false) r'
      unfold nameT at hh ⊢
      rw [← List.cons_append, ht]
      rw [hu] at hh
      exact hh
    by_cases hw : words.contains (c :: r.takeWhile isLd) = true
    · rw [if_pos hw] at h
      simp only [Except.ok.injEq, Prod.mk.injEq] at h
      obtain ⟨rfl, rfl, rfl⟩ := h
      exact ⟨key 1 (.inl rfl) (by unfold nameT; rw [hu]; simp only [hw, if_true]), by simp, hlen, by omega⟩
    · rw [if_neg hw] at h
      split at h
      · rename_i hf
        simp only [Except.ok.injEq, Prod.mk.injEq] at h
        obtain ⟨rfl, rfl, rfl⟩ := h
        exact ⟨key 2 (.inr rfl) (by unfold nameT; rw [hu]; rw [if_neg hw, if_pos hf]), by simp, hlen, by omega⟩
      · cases h
theorem drop_app (a b : Bs) : (a ++ b).drop a.length = b := by simp
theorem good_number {l : Bs} {k n : Nat} {t : Bs} (hc : isDg (lookB l 0) = true) (h : numberT l = .ok (k, t, n)) : Good k t ∧ 1 ≤ n ∧ n ≤ l.length ∧ k ≤ 6 := by
  cases l with
  | nil => exact absurd hc (by decide)
  | cons c r =>
    rw [look_cons] at hc
    obtain ⟨q1, q2, q3, q4⟩ := (lt_not c).2 hc
    have hu : (c :: r).takeWhile isDg = c :: r.takeWhile isDg := by rw [List.takeWhile_cons, if_pos hc]
    have hall := takeWhile_all isDg (c :: r)
    have hpre : ∃ z, c :: r = (c :: r).takeWhile isDg ++ z := ⟨_, (List.takeWhile_append_dropWhile (p := isDg) (l := c :: r)).symm⟩
    obtain ⟨z, hz⟩ := hpre
    unfold numberT at h
    simp only at h
    generalize ha : (c :: r).takeWhile isDg = a at h hall hz hu
    have hl1 : (c :: r).drop a.length = z := by rw [hz, drop_app]
    rw [hl1] at h
    have ha0 : 1 ≤ a.length := by rw [hu]; simp
    by_cases hp : (lookB z 0 == 46 && isDg (lookB z 1)) = true
    · rw [hp] at h
      simp only [if_true] at h
      simp only [Bool.and_eq_true, beq_iff_eq] at hp
      obtain ⟨p1, p2⟩ := hp
      cases z with
      | nil => exact absurd p1 (by decide)
      | cons x z =>
        have hx : x = 46 := p1
        subst hx
        have hb := takeWhile_all isDg z
        have hzb : z = z.takeWhile isDg ++ z.dropWhile isDg := (List.takeWhile_append_dropWhile).symm
        simp only [List.drop_succ_cons, List.drop_zero] at h
        generalize hbe : z.takeWhile isDg = b at h hb hzb
        have hlb : lookB z 1 = lookB z 1 := rfl
        have hb1 : ∃ y b', b = y :: b' ∧ isDg y = true := by
          cases z with
          | nil => exact absurd p2 (by decide)
          | cons y z =>
            have : isDg y = true := p2
            rw [List.takeWhile_cons, if_pos this] at hbe
            exact ⟨y, _, hbe.symm, this⟩
        have htake : (c :: r).take (a.length + 1 + b.length) = a ++ 46 :: b := by
          rw [hz, hzb]
          have : (a ++ 46 :: (b ++ z.dropWhile isDg)).take (a.length + 1 + b.length) = (a ++ 46 :: (b ++ z.dropWhile isDg)).take ((a ++ 46 :: b).length) := by congr 1; simp; omega
          rw [this]
          have e : a ++ 46 :: (b ++ z.dropWhile isDg) = (a ++ 46 :: b) ++ z.dropWhile isDg := by simp
          rw [e, List.take_left]
        have hlen : a.length + 1 + b.length ≤ (c :: r).length := by rw [hz]; rw [hzb]; simp; omega
        split at h
        · rename_i hif
          simp only [Except.ok.injEq, Prod.mk.injEq] at h
          obtain ⟨rfl, ht, rfl⟩ := h
          rw [htake] at ht
          subst ht
          refine ⟨fun r' => ?_, by omega, hlen, by omega⟩
          have hs : spell 4 (a ++ 46 :: b) = a ++ 46 :: b := rfl
          rw [hs]
          have hac : a ++ 46 :: b = c :: (r.takeWhile isDg ++ 46 :: b) := by rw [hu]; rfl
          refine ⟨by rw [hac]; exact skip_first q1 q2 _, ⟨c, _, hac, q3⟩, ?_⟩
          unfold oneT
          have hlk : lookB (a ++ 46 :: b ++ 32 :: r') 0 = c := by rw [hac]; rfl
          rw [hlk]
          simp only [q4, hc, if_true]
          unfold numberT
          have e1 : a ++ 46 :: b ++ 32 :: r' = a ++ 46 :: (b ++ 32 :: r') := by simp
          have e2 : (a ++ 46 :: (b ++ 32 :: r')).takeWhile isDg = a := by
            rw [List.takeWhile_append_of_pos hall, List.takeWhile_cons]; simp [show isDg 46 = false from by decide]
          have e3 : (b ++ 32 :: r').takeWhile isDg = b := takeWhile_stop hb (by decide) r'
          obtain ⟨y, b', hy, hyd⟩ := hb1
          have e4 : (lookB (46 :: (b ++ 32 :: r')) 0 == 46 && isDg (lookB (46 :: (b ++ 32 :: r')) 1)) = true := by rw [hy]; simpa [lookB] using hyd
          have e5 : (a ++ 46 :: (b ++ 32 :: r')).drop (a.length + 1 + b.length) = 32 :: r' := by
            have : a ++ 46 :: (b ++ 32 :: r') = (a ++ 46 :: b) ++ 32 :: r' := by simp
            rw [this]
            have : a.length + 1 + b.length = (a ++ 46 :: b).length := by simp; omega
            rw [this, List.drop_left]
          have e6 : (a ++ 46 :: (b ++ 32 :: r')).take (a.length + 1 + b.length) = a ++ 46 :: b := by
            have : a ++ 46 :: (b ++ 32 :: r') = (a ++ 46 :: b) ++ 32 :: r' := by simp
            rw [this]
            have : a.length + 1 + b.length = (a ++ 46 :: b).length := by simp; omega
            rw [this, List.take_left]
          have e7 : lookB (32 :: r') 0 = 32 := rfl
          rw [e1, e2]
          simp only [drop_app, e4, if_true, List.drop_succ_cons, List.drop_zero, e3, e5, e6, e7]
          simp only [Bool.and_eq_true] at hif
          have h5 : (lookB a 0 != 48 || a.length == 1) = true := hif.1
          have h6 : decide (a.length + b.length ≤ 40) = true := hif.2.1
          rw [h5, h6]
          simp [show isLt 32 = false from by decide]
          omega
        · cases h
    · have hp' : (lookB z 0 == 46 && isDg (lookB z 1)) = false := by simpa using hp
      rw [hp'] at h
      simp only [Bool.false_eq_true, if_false, List.length_nil, Nat.add_zero] at h
      have htake : (c :: r).take a.length = a := by rw [hz, List.take_left]
      have hlen : a.length ≤ (c :: r).length := by rw [hz]; simp
      split at h
      · rename_i hif
        simp only [Except.ok.injEq, Prod.mk.injEq] at h
        obtain ⟨rfl, ht, rfl⟩ := h
        rw [htake] at ht
        subst ht
        refine ⟨fun r' => ?_, by omega, hlen, by omega⟩
        have hs : spell 3 a = a := rfl
        rw [hs]
        refine ⟨by rw [hu]; exact skip_first q1 q2 _, ⟨c, _, hu, q3⟩, ?_⟩
        unfold oneT
        have hlk : lookB (a ++ 32 :: r') 0 = c := by rw [hu]; rfl
        rw [hlk]
        simp only [q4, hc, if_true]
        unfold numberT
        have e2 : (a ++ 32 :: r').takeWhile isDg = a := takeWhile_stop hall (by decide) r'
        have e4 : (lookB (32 :: r') 0 == 46 && isDg (lookB (32 :: r') 1)) = false := by
          have : lookB (32 :: r') 0 = 32 := rfl
          rw [this]; rfl
        have e6 : (a ++ 32 :: r').take a.length = a := List.take_left
        have e7 : lookB (32 :: r') 0 = 32 := rfl
        rw [e2]
        simp only [drop_app, e4, Bool.false_eq_true, if_false, List.length_nil, Nat.add_zero, e6]
        rw [e7]
        simp only [Bool.and_eq_true] at hif
        have h5 : (lookB a 0 != 48 || a.length == 1) = true := hif.1
        have h6 : decide (a.length ≤ 40) = true := hif.2.1
        rw [h5, h6]
        simp [show isLt 32 = false from by decide]
      · cases h
theorem saysB_len : ∀ (m : Nat) (l t : Bs) (n : Nat), l.length ≤ m → saysB l = some (t, n) → 1 ≤ n ∧ n ≤ l.length := by
  intro m
  induction m with
  | zero => intro l t n hl h; obtain rfl : l = [] := List.eq_nil_of_length_eq_zero (by omega); simp [saysB] at h
  | succ m ih =>
    intro l t n hl h
    cases l with
    | nil => simp [saysB] at h
    | cons c r =>
      rw [saysB.eq_def] at h
      simp only [List.length_cons] at hl ⊢
      by_cases h1 : (c == 34) = true
      · simp [h1] at h; omega
      · simp only [h1, Bool.false_eq_true, if_false] at h
        by_cases h2 : (c == 92) = true
        · simp only [h2, if_true] at h
          cases r with
          | nil => simp at h
          | cons d r1 =>
            simp only [List.length_cons] at hl ⊢
            by_cases h3 : (d == 120) = true
            · simp only [h3, if_true] at h
              rcases r1 with _ | ⟨x, _ | ⟨y, r2⟩⟩
              · simp at h
              · simp at h
              · simp only at h
                cases e1 : hexB x <;> cases e2 : hexB y <;> cases e3 : saysB r2 <;> simp [e1, e2, e3] at h
                rename_i v
                have := ih r2 v.1 v.2 (by simp only [List.length_cons] at hl; omega) e3
                simp only [List.length_cons]
                omega
            · simp only [h3, Bool.false_eq_true, if_false] at h
              cases e1 : pairB d <;> cases e3 : saysB r1 <;> simp [e1, e3] at h
              rename_i v
              have := ih r1 v.1 v.2 (by omega) e3
              omega
        · simp only [h2, Bool.false_eq_true, if_false] at h
          by_cases h3 : isPl c = true
          · simp only [h3, if_true] at h
            cases e3 : saysB r <;> simp [e3] at h
            rename_i v
            have := ih r v.1 v.2 (by omega) e3
            omega
          · simp [h3] at h
theorem good_string {l : Bs} {k n : Nat} {t : Bs} (h : stringT l = .ok (k, t, n)) : Good k t ∧ 1 ≤ n ∧ n ≤ l.length ∧ k ≤ 6 := by
  unfold stringT at h
  cases hs : saysB (l.drop 1) with
  | none => rw [hs] at h; cases h
  | some x =>
    obtain ⟨u, m⟩ := x
    rw [hs] at h
    simp only [Except.ok.injEq, Prod.mk.injEq] at h
    obtain ⟨rfl, rfl, rfl⟩ := h
    have hl := saysB_len _ _ _ _ (Nat.le_refl _) hs
    rw [List.length_drop] at hl
    refine ⟨fun r => ?_, by omega, by omega, by omega⟩
    have e : spell 5 u = quoteB u := rfl
    rw [e]
    refine ⟨by rw [quote_cons]; exact skip_quote _, ⟨34, _, rfl, by decide⟩, string_quote u _⟩
theorem good_dollar {l : Bs} {k n : Nat} {t : Bs} (hc : lookB l 0 = 36) (h : dollarT l = .ok (k, t, n)) : Good k t ∧ 1 ≤ n ∧ n ≤ l.length ∧ k = 8 := by
  cases l with
  | nil => exact absurd hc (by decide)
  | cons c r =>
    have hc' : c = 36 := hc
    subst hc'
    unfold dollarT at h
    by_cases h1 : (lookB (36 :: r) 1 == 36) = true
    · rw [if_pos h1] at h
      simp only [Except.ok.injEq, Prod.mk.injEq] at h
      obtain ⟨rfl, rfl, rfl⟩ := h
      refine ⟨fun r => ⟨rfl, ⟨36, _, rfl, by decide⟩, rfl⟩, by omega, ?_, rfl⟩
      cases r with
      | nil => exact absurd h1 (by decide)
      | cons d r => simp
    · rw [if_neg h1] at h
      simp only [List.drop_succ_cons, List.drop_zero] at h
      have hall := takeWhile_all isDg r
      have hsub := (List.takeWhile_sublist isDg (l := r)).length_le
      generalize ha : r.takeWhile isDg = a at h hall hsub
      split at h
      · rename_i hif
        simp only [Except.ok.injEq, Prod.mk.injEq] at h
        obtain ⟨rfl, rfl, rfl⟩ := h
        refine ⟨fun r' => ?_, by omega, by simp; omega, rfl⟩
        have e : spell 8 a = 36 :: a := rfl
        rw [e]
        refine ⟨by rw [List.cons_append]; exact skip_first (by decide) (by decide) _, ⟨36, _, rfl, by decide⟩, ?_⟩
        simp only [Bool.and_eq_true] at hif
        cases a with
        | nil => simp at hif
        | cons d a =>
          have hd : isDg d = true := hall d (by simp)
          have hd36 : (d == 36) = false := by
            by_cases e : d = 36
            · subst e; exact absurd hd (by decide)
            · simpa using e
          unfold oneT
          show (if isLt 36 = true then _ else if isDg 36 = true then _ else if (36 : UInt8) == 34 then _ else if (36 : UInt8) == 36 then dollarT (36 :: (d :: a ++ 32 :: r')) else _) = _
          rw [if_neg (by decide), if_neg (by decide), if_neg (by decide), if_pos (by decide)]
          unfold dollarT
          have e1 : lookB (36 :: (d :: a ++ 32 :: r')) 1 = d := rfl
          rw [e1, hd36]
          simp only [Bool.false_eq_true, if_false, List.drop_succ_cons, List.drop_zero]
          have e2 := takeWhile_stop hall (by decide : isDg 32 = false) r'
          rw [e2]
          have e3 : (36 :: (d :: a ++ 32 :: r')).drop (1 + (d :: a).length) = 32 :: r' := by
            rw [Nat.add_comm, List.drop_succ_cons, List.drop_left]
          rw [e3]
          have h5 : ((d :: a) != []) = true := hif.1
          have h6 : decide ((d :: a).length ≤ 2) = true := hif.2.1
          have h7 : (lookB (d :: a) 0 != 48) = true := hif.2.2.1
          have e7 : lookB (32 :: r') 0 = 32 := rfl
          rw [h5, h6, h7, e7]
          simp [show isLt 32 = false from by decide]
          omega
      · cases h
theorem sign_good : ∀ t ∈ signs, Good 6 t := by
  intro t ht r
  have e : spell 6 t = t := rfl
  rw [e]
  simp only [signs, List.mem_cons, List.not_mem_nil, or_false] at ht
  rcases ht with rfl | rfl | rfl | rfl | rfl | rfl | rfl | rfl | rfl | rfl | rfl | rfl | rfl | rfl | rfl | rfl | rfl | rfl | rfl | rfl | rfl | rfl | rfl | rfl | rfl | rfl <;>
    exact ⟨rfl, ⟨_, _, rfl, by decide⟩, rfl⟩
theorem good_sign {l : Bs} {k n : Nat} {t : Bs} (m : Nat) (h : signT l m = .ok (k, t, n)) : Good k t ∧ 1 ≤ n ∧ n ≤ l.length ∧ k ≤ 6 := by
  induction m with
  | zero => cases h
  | succ m ih =>
    rw [signT] at h
    split at h
    · cases h
    · split at h
      · rename_i hs
        simp only [Except.ok.injEq, Prod.mk.injEq] at h
        obtain ⟨rfl, rfl, rfl⟩ := h
        have hmem : l.take (m + 1) ∈ signs := by simpa using hs
        refine ⟨sign_good _ hmem, ?_, by rw [List.length_take]; omega, by omega⟩
        have : ∀ x ∈ signs, 1 ≤ x.length := by decide
        exact this _ hmem
      · exact ih h
theorem good_one {l : Bs} {k n : Nat} {t : Bs} (h : oneT l = .ok (k, t, n)) : Good k t ∧ 1 ≤ n ∧ n ≤ l.length ∧ (k ≤ 6 ∨ k = 8) := by
  unfold oneT at h
  simp only at h
  split at h
  · rename_i hc; obtain ⟨a, b, c, d⟩ := good_name hc h; exact ⟨a, b, c, .inl d⟩
  · split at h
    · rename_i hc; obtain ⟨a, b, c, d⟩ := good_number hc h; exact ⟨a, b, c, .inl d⟩
    · split at h
      · obtain ⟨a, b, c, d⟩ := good_string h; exact ⟨a, b, c, .inl d⟩
      · split at h
        · rename_i hc; obtain ⟨a, b, c, d⟩ := good_dollar (by simpa using hc) h; exact ⟨a, b, c, .inr d⟩
        · obtain ⟨a, b, c, d⟩ := good_sign 3 h; exact ⟨a, b, c, .inl d⟩
end ScnT
