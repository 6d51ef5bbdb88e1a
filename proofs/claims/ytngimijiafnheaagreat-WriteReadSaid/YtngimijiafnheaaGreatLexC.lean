/- Tokens are told where they stand; written one behind the other, with a blank between, they are told as they were. -/
import Derived.Test.YtngimijiafnheaaGreatLexB
set_option maxRecDepth 100000
namespace LexT
set_option linter.unusedVariables false
theorem all256 {P : UInt8 → Prop} [DecidablePred P] (h : ∀ n : Fin 256, P (UInt8.ofNat n.val)) (c : UInt8) : P c := by
  have := h ⟨c.toNat, c.toNat_lt⟩
  simpa using this
theorem takeWhile_stop {p : UInt8 → Bool} {t : Bs} (ht : ∀ c ∈ t, p c = true) (h : p 32 = false) (r : Bs) : (t ++ 32 :: r).takeWhile p = t := by
  induction t with
  | nil => simp [h]
  | cons c t ih =>
    rw [List.cons_append, List.takeWhile_cons, if_pos (ht c (by simp)), ih (fun d hd => ht d (by simp [hd]))]
theorem takeWhile_all (p : UInt8 → Bool) (l : Bs) : ∀ c ∈ l.takeWhile p, p c = true := by
  induction l with
  | nil => simp
  | cons c l ih =>
    rw [List.takeWhile_cons]
    split
    · intro d hd
      rcases List.mem_cons.1 hd with rfl | hd
      · assumption
      · exact ih d hd
    · simp
theorem takeWhile_take (p : UInt8 → Bool) (l : Bs) : l.takeWhile p = l.take (l.takeWhile p).length := by
  induction l with
  | nil => rfl
  | cons c l ih =>
    rw [List.takeWhile_cons]
    split
    · rw [List.length_cons, List.take_succ_cons, ← ih]
    · rfl
theorem look_cons (c : UInt8) (r : Bs) : lookB (c :: r) 0 = c := rfl
set_option maxRecDepth 100000 in
theorem lt_not : ∀ c : UInt8, isLt c = true → isBl c = false ∧ c ≠ 47 ∧ isLd c = true := all256 (by decide)
theorem skipF_first {c : UInt8} (h1 : isBl c = false) (h2 : c ≠ 47) (r : Bs) (f : Nat) : skipF f (c :: r) = 0 := by
  cases f with
  | zero => rfl
  | succ f =>
    have h3 : (c :: r).takeWhile isBl = [] := by rw [List.takeWhile_cons, h1]; rfl
    have h4 : (47 == c) = false := by simpa using fun h => h2 h.symm
    have h5 : [47, 47].isPrefixOf (c :: r) = false := by
      show ((47 == c) && _) = false
      rw [h4]; rfl
    rw [skipF]
    simp only [h3, List.length_nil, List.drop_zero, h5, Bool.false_eq_true, if_false]
theorem skip_first {c : UInt8} (h1 : isBl c = false) (h2 : c ≠ 47) (r : Bs) : skipB (c :: r) = 0 := skipF_first h1 h2 r _
theorem skip_blank {c : UInt8} (h1 : isBl c = false) (h2 : c ≠ 47) (r : Bs) : skipB (32 :: c :: r) = 1 := by
  have h3 : (32 :: c :: r).takeWhile isBl = [32] := by rw [List.takeWhile_cons, List.takeWhile_cons, h1]; rfl
  have h4 : (47 == c) = false := by simpa using fun h => h2 h.symm
  have h5 : [47, 47].isPrefixOf (c :: r) = false := by
    show ((47 == c) && _) = false
    rw [h4]; rfl
  unfold skipB
  rw [skipF]
  simp only [h3, List.length_cons, List.length_nil, List.drop_succ_cons, List.drop_zero, h5, Bool.false_eq_true, if_false]
theorem skipF_le : ∀ (f : Nat) (l : Bs), skipF f l ≤ l.length := by
  intro f
  induction f with
  | zero => intro l; exact Nat.zero_le _
  | succ f ih =>
    intro l
    rw [skipF]
    have h1 := takeWhile_len isBl l
    simp only
    split
    · have h2 := takeWhile_len notNL (l.drop (l.takeWhile isBl).length)
      rw [List.length_drop] at h2
      have h3 := ih (l.drop ((l.takeWhile isBl).length + ((l.drop (l.takeWhile isBl).length).takeWhile notNL).length))
      rw [List.length_drop] at h3
      omega
    · exact h1
theorem skip_le (l : Bs) : skipB l ≤ l.length := skipF_le _ _
theorem comment_pos {l : Bs} (h : [47, 47].isPrefixOf l = true) : 2 ≤ (l.takeWhile notNL).length := by
  cases l with
  | nil => cases h
  | cons c l =>
    cases l with
    | nil => simp [List.isPrefixOf] at h
    | cons d l =>
      simp only [List.isPrefixOf, Bool.and_eq_true, beq_iff_eq] at h
      obtain ⟨rfl, rfl, _⟩ := h
      rw [List.takeWhile_cons, List.takeWhile_cons]
      simp [show notNL 47 = true from by decide]
theorem skipF_fuel : ∀ (f g : Nat) (l : Bs), l.length < f → l.length < g → skipF f l = skipF g l := by
  intro f
  induction f with
  | zero => intro g l h; omega
  | succ f ih =>
    intro g l h1 h2
    obtain ⟨g, rfl⟩ : ∃ j, g = j + 1 := ⟨g - 1, by omega⟩
    rw [skipF, skipF]
    simp only
    split
    · rename_i hp
      have h3 := comment_pos hp
      have h4 := takeWhile_len notNL (l.drop (l.takeWhile isBl).length)
      rw [List.length_drop] at h4
      have e := ih g (l.drop ((l.takeWhile isBl).length + ((l.drop (l.takeWhile isBl).length).takeWhile notNL).length)) (by rw [List.length_drop]; omega) (by rw [List.length_drop]; omega)
      rw [e]
    · rfl
theorem skip_rec (l : Bs) : skipB l = (let k := (l.takeWhile isBl).length
    if [47, 47].isPrefixOf (l.drop k) then
      let m := ((l.drop k).takeWhile notNL).length
      k + (m + skipB (l.drop (k + m)))
    else k) := by
  unfold skipB
  rw [skipF]
  simp only
  split
  · rename_i hp
    have h3 := comment_pos hp
    have h4 := takeWhile_len notNL (l.drop (l.takeWhile isBl).length)
    rw [List.length_drop] at h4
    rw [skipF_fuel l.length ((l.drop ((l.takeWhile isBl).length + ((l.drop (l.takeWhile isBl).length).takeWhile notNL).length)).length + 1) _ (by rw [List.length_drop]; omega) (by omega)]
  · rfl
theorem actB_first (q : Bs) : actB 0 (123 :: q) = (actB 1 q).map (· + 1) := by
  rw [actB_cons]
  have e1 : pieceB 123 q = some 1 := rfl
  have e2 : openB 123 0 = 1 := rfl
  simp only [e1, e2, List.drop_succ_cons, List.drop_zero]
  rw [if_neg (by decide)]
/-- Such as is told again behind whatever stood ahead, with a blank behind it. -/
structure Good (k : Nat) (t : Bs) : Prop where
  pos : 1 ≤ (spell k t).length
  skip : ∀ r, skipB (spell k t ++ 32 :: r) = 0
  blank : ∀ r, skipB (32 :: (spell k t ++ 32 :: r)) = 1
  one : ∀ r, oneT (spell k t ++ 32 :: r) = .ok (k, t, (spell k t).length)
  kind : k = 1 ∨ k = 2 ∨ k = 6 ∨ k = 9
theorem good_of {k : Nat} {t : Bs} {c : UInt8} {q : Bs} (hs : spell k t = c :: q) (h1 : isBl c = false) (h2 : c ≠ 47) (h3 : ∀ r, oneT (spell k t ++ 32 :: r) = .ok (k, t, (spell k t).length)) (hk : k = 1 ∨ k = 2 ∨ k = 6 ∨ k = 9) : Good k t :=
  ⟨by rw [hs]; simp, fun r => by rw [hs, List.cons_append]; exact skip_first h1 h2 _, fun r => by rw [hs, List.cons_append]; exact skip_blank h1 h2 _, h3, hk⟩
/-- What a token that is told is. -/
structure Told1 (l : Bs) (k : Nat) (t : Bs) (n : Nat) : Prop where
  good : Good k t
  pos : 1 ≤ n
  le : n ≤ l.length
  sp : spell k t = l.take n
  tl : t.length ≤ n
theorem Told1.spl {l : Bs} {k : Nat} {t : Bs} {n : Nat} (h : Told1 l k t n) : (spell k t).length = n := by rw [h.sp, List.length_take, Nat.min_eq_left h.le]
theorem one_name {l : Bs} (h : isLt (lookB l 0) = true) : oneT l = nameT l := by unfold oneT; rw [if_pos h]
theorem one_action {l : Bs} (h : isLt (lookB l 0) = false) (h2 : (lookB l 0 == 123) = true) : oneT l = actionT l := by unfold oneT; rw [if_neg (by rw [h]; decide), if_pos h2]
theorem one_two {l : Bs} (h : isLt (lookB l 0) = false) (h2 : (lookB l 0 == 123) = false) (h3 : [37, 37].isPrefixOf l = true) : oneT l = .ok (6, [37, 37], 2) := by unfold oneT; rw [if_neg (by rw [h]; decide), if_neg (by rw [h2]; decide), if_pos h3]
theorem one_word {l : Bs} (h : isLt (lookB l 0) = false) (h2 : (lookB l 0 == 123) = false) (h3 : [37, 37].isPrefixOf l = false) (h4 : (lookB l 0 == 37) = true) : oneT l = wordT l := by
  unfold oneT; rw [if_neg (by rw [h]; decide), if_neg (by rw [h2]; decide), if_neg (by rw [h3]; decide), if_pos h4]
theorem one_sign {l : Bs} (h : isLt (lookB l 0) = false) (h2 : (lookB l 0 == 123) = false) (h3 : [37, 37].isPrefixOf l = false) (h4 : (lookB l 0 == 37) = false) (h5 : isSg (lookB l 0) = true) : oneT l = .ok (6, [lookB l 0], 1) := by
  unfold oneT; rw [if_neg (by rw [h]; decide), if_neg (by rw [h2]; decide), if_neg (by rw [h3]; decide), if_neg (by rw [h4]; decide), if_pos h5]
theorem one_none {l : Bs} (h : isLt (lookB l 0) = false) (h2 : (lookB l 0 == 123) = false) (h3 : [37, 37].isPrefixOf l = false) (h4 : (lookB l 0 == 37) = false) (h5 : isSg (lookB l 0) = false) : oneT l = .error 100 := by
  unfold oneT; rw [if_neg (by rw [h]; decide), if_neg (by rw [h2]; decide), if_neg (by rw [h3]; decide), if_neg (by rw [h4]; decide), if_neg (by rw [h5]; decide)]
theorem told_name {l : Bs} {k n : Nat} {t : Bs} (hc : isLt (lookB l 0) = true) (h : nameT l = .ok (k, t, n)) : Told1 l k t n := by
  cases l with
  | nil => exact absurd hc (by decide)
  | cons c r =>
    rw [look_cons] at hc
    obtain ⟨q1, q2, q3⟩ := lt_not c hc
    have hu : (c :: r).takeWhile isLd = c :: r.takeWhile isLd := by rw [List.takeWhile_cons, if_pos q3]
    have hall := takeWhile_all isLd (c :: r)
    have hlen := takeWhile_len isLd (c :: r)
    have htk := takeWhile_take isLd (c :: r)
    unfold nameT at h
    simp only at h
    split at h
    · rename_i h40
      simp only [Except.ok.injEq, Prod.mk.injEq] at h
      obtain ⟨rfl, rfl, rfl⟩ := h
      have hs : spell 2 ((c :: r).takeWhile isLd) = (c :: r).takeWhile isLd := rfl
      refine ⟨good_of (hs.trans hu) q1 q2 (fun r' => ?_) (.inr (.inl rfl)), by rw [hu]; simp, hlen, hs.trans htk, Nat.le_refl _⟩
      rw [hs]
      have ht := takeWhile_stop hall (by decide : isLd 32 = false) r'
      have hl : lookB ((c :: r).takeWhile isLd ++ 32 :: r') 0 = c := by rw [hu]; rfl
      rw [one_name (by rw [hl]; exact hc)]
      unfold nameT
      simp only [ht]
      rw [if_pos h40]
    · cases h
theorem told_word {l : Bs} {k n : Nat} {t : Bs} (hc : (lookB l 0 == 37) = true) (h : wordT l = .ok (k, t, n)) : Told1 l k t n := by
  cases l with
  | nil => exact absurd hc (by decide)
  | cons c r =>
    have : c = 37 := by simpa [look_cons] using hc
    subst this
    have hall := takeWhile_all isLd r
    have hlen := takeWhile_len isLd r
    have htk := takeWhile_take isLd r
    unfold wordT at h
    simp only [List.drop_succ_cons, List.drop_zero] at h
    split at h
    · rename_i hw
      simp only [Except.ok.injEq, Prod.mk.injEq] at h
      obtain ⟨rfl, rfl, rfl⟩ := h
      have hs : spell 1 (r.takeWhile isLd) = 37 :: r.takeWhile isLd := rfl
      refine ⟨good_of hs (by decide) (by decide) (fun r' => ?_) (.inl rfl), by omega, by simp only [List.length_cons]; omega, ?_, by omega⟩
      · rw [hs]
        have ht := takeWhile_stop hall (by decide : isLd 32 = false) r'
        have hne : ∃ d q, r.takeWhile isLd = d :: q := by
          cases e : r.takeWhile isLd with
          | nil => rw [e] at hw; exact absurd hw (by decide)
          | cons d q => exact ⟨d, q, rfl⟩
        obtain ⟨d, q, hd⟩ := hne
        have hdl : isLd d = true := hall d (by rw [hd]; simp)
        have h37 : (37 == d) = false := by
          by_cases e : d = 37
          · subst e; exact absurd hdl (by decide)
          · simpa using fun h => e h.symm
        have e3 : [37, 37].isPrefixOf (37 :: (r.takeWhile isLd ++ 32 :: r')) = false := by rw [hd]; simp [List.isPrefixOf, h37]
        rw [List.cons_append, one_word (by rfl) (by rfl) e3 (by rfl)]
        unfold wordT
        simp only [List.drop_succ_cons, List.drop_zero, ht]
        rw [if_pos hw, List.length_cons, Nat.add_comm]
      · rw [hs, Nat.add_comm, List.take_succ_cons]
        exact congrArg _ htk
    · cases h
theorem told_action {l : Bs} {k n : Nat} {t : Bs} (hc : (lookB l 0 == 123) = true) (h : actionT l = .ok (k, t, n)) : Told1 l k t n := by
  cases l with
  | nil => exact absurd hc (by decide)
  | cons c q =>
    have : c = 123 := by simpa [look_cons] using hc
    subst this
    unfold actionT at h
    rw [actB_first] at h
    cases e : actB 1 q with
    | none => rw [e] at h; cases h
    | some m =>
      rw [e] at h
      simp only [Option.map_some, Except.ok.injEq, Prod.mk.injEq] at h
      obtain ⟨rfl, rfl, rfl⟩ := h
      have hl := actB_len _ _ _ _ (Nat.le_refl _) e
      have hlast : q.take m = q.take (m - 1) ++ [125] := by
        have key : ∀ (j o : Nat) (l : Bs) (m : Nat), l.length ≤ j → 1 ≤ o → actB o l = some m → l.take m = l.take (m - 1) ++ [125] := by
          intro j
          induction j with
          | zero => intro o l m hl; obtain rfl : l = [] := List.eq_nil_of_length_eq_zero (by omega); intro _ h; cases h
          | succ j ih =>
            intro o l m hl ho h
            cases l with
            | nil => cases h
            | cons c q =>
              obtain ⟨n, hp, ⟨h0, rfl⟩ | ⟨h0, m', h1, rfl⟩⟩ := actB_some h
              · obtain ⟨rfl, rfl⟩ := openB_zero h0 ho
                have : m = 1 := by simp [pieceB] at hp; exact hp.symm
                subst this
                rfl
              · have hn := pieceB_len hp
                simp only [List.length_cons] at hl
                have hm := actB_len _ _ _ _ (Nat.le_refl _) h1
                have := ih _ _ _ (by rw [List.length_drop]; simp only [List.length_cons]; omega) (by omega) h1
                have e1 : (c :: q).take (m' + n) = (c :: q).take n ++ ((c :: q).drop n).take m' := by
                  rw [Nat.add_comm, List.take_add]
                have e2 : (c :: q).take (m' + n - 1) = (c :: q).take n ++ ((c :: q).drop n).take (m' - 1) := by
                  have : m' + n - 1 = n + (m' - 1) := by omega
                  rw [this, List.take_add]
                rw [e1, e2, this, List.append_assoc]
        exact key _ _ _ _ (Nat.le_refl _) (by decide) e
      have ht : ((123 :: q).take (m + 1 - 1)).drop 1 = q.take (m - 1) := by
        have : m + 1 - 1 = (m - 1) + 1 := by omega
        rw [this, List.take_succ_cons]
        rfl
      rw [ht]
      have hs : spell 9 (q.take (m - 1)) = 123 :: q.take m := by rw [hlast]; rfl
      have htl : (q.take (m - 1)).length = m - 1 := by rw [List.length_take]; omega
      refine ⟨good_of hs (by decide) (by decide) (fun r' => ?_) (.inr (.inr (.inr rfl))), by omega, by simp only [List.length_cons]; omega, by rw [hs]; rfl, by rw [htl]; omega⟩
      rw [hs, List.cons_append, one_action (by rfl) (by rfl)]
      unfold actionT
      have := actB_shift _ 1 q m (Nat.le_refl _) (by decide) e 0 (32 :: r')
      rw [if_pos rfl] at this
      rw [actB_first, this]
      simp only [Option.map_some, Except.ok.injEq, Prod.mk.injEq, true_and]
      refine ⟨?_, by rw [List.length_cons, List.length_take]; omega⟩
      have : m + 1 - 1 = (m - 1) + 1 := by omega
      rw [this, List.take_succ_cons, hlast]
      show ((q.take (m - 1) ++ [125]) ++ 32 :: r').take (m - 1) = _
      rw [List.append_assoc, List.take_append_of_le_length (by rw [htl]; exact Nat.le_refl _), List.take_of_length_le (by rw [htl]; exact Nat.le_refl _)]
set_option maxRecDepth 100000 in
theorem sg_not : ∀ c : UInt8, isSg c = true → isBl c = false ∧ c ≠ 47 ∧ isLt c = false ∧ (c == 123) = false ∧ (37 == c) = false ∧ (c == 37) = false := all256 (by decide)
theorem told_one {l : Bs} {k n : Nat} {t : Bs} (h : oneT l = .ok (k, t, n)) : Told1 l k t n := by
  cases h1 : isLt (lookB l 0)
  · cases h2 : (lookB l 0 == 123)
    · cases h3 : [37, 37].isPrefixOf l
      · cases h4 : (lookB l 0 == 37)
        · cases h5 : isSg (lookB l 0)
          · rw [one_none h1 h2 h3 h4 h5] at h; cases h
          · rw [one_sign h1 h2 h3 h4 h5] at h
            cases l with
            | nil => exact absurd h5 (by decide)
            | cons c q =>
              rw [look_cons] at h h5
              simp only [Except.ok.injEq, Prod.mk.injEq] at h
              obtain ⟨rfl, rfl, rfl⟩ := h
              obtain ⟨q1, q2, q3, q4, q5, q6⟩ := sg_not c h5
              have hs : spell 6 [c] = [c] := rfl
              refine ⟨good_of hs q1 q2 (fun r => ?_) (.inr (.inr (.inl rfl))), by omega, by simp, rfl, by simp⟩
              rw [hs]
              have e := one_sign (l := c :: 32 :: r) (by rw [look_cons]; exact q3) (by rw [look_cons]; exact q4) (by simp [List.isPrefixOf, q5]) (by rw [look_cons]; exact q6) (by rw [look_cons]; exact h5)
              rw [look_cons] at e
              exact e
        · rw [one_word h1 h2 h3 h4] at h
          exact told_word h4 h
      · rw [one_two h1 h2 h3] at h
        cases l with
        | nil => cases h3
        | cons c q =>
          cases q with
          | nil => simp [List.isPrefixOf] at h3
          | cons d q =>
            simp only [List.isPrefixOf, Bool.and_eq_true, beq_iff_eq] at h3
            obtain ⟨rfl, rfl, _⟩ := h3
            simp only [Except.ok.injEq, Prod.mk.injEq] at h
            obtain ⟨rfl, rfl, rfl⟩ := h
            exact ⟨good_of (rfl : spell 6 [37, 37] = 37 :: [37]) (by decide) (by decide) (fun r => rfl) (.inr (.inr (.inl rfl))), by omega, by simp, rfl, by simp⟩
    · rw [one_action h1 h2] at h
      exact told_action h2 h
  · rw [one_name h1] at h
    exact told_name h1 h
theorem one_err {l : Bs} {e : Nat} (h : oneT l = .error e) : e = 100 ∨ e = 101 := by
  unfold oneT at h
  simp only at h
  split at h
  · unfold nameT at h; simp only at h; split at h
    · cases h
    · injection h with h; exact .inr h.symm
  · split at h
    · unfold actionT at h; split at h
      · cases h
      · injection h with h; exact .inr h.symm
    · split at h
      · cases h
      · split at h
        · unfold wordT at h; simp only at h; split at h
          · cases h
          · injection h with h; exact .inr h.symm
        · split at h
          · cases h
          · injection h with h; exact .inl h.symm
end LexT
