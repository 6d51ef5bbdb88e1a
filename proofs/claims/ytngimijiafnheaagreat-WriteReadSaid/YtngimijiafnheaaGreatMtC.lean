/- Sources one behind the other: the tokens of both. -/
/- What the laws of read ask, as mathematics. -/
import Derived.Test.YtngimijiafnheaaGreatMtA
import Derived.Test.YtngimijiafnheaaGreatLexD
import Derived.Test.YtngimijiafnheaaGreatRdU
set_option maxRecDepth 100000
namespace LexT
set_option linter.unusedVariables false
set_option linter.unusedSimpArgs false
/-- What stands behind the blanks and comments. -/
def strip (l : Bs) : Bs := l.drop (skipB l)
theorem strip_nil : strip [] = [] := rfl
theorem strip_bl {c : UInt8} (h : isBl c = true) (r : Bs) : strip (c :: r) = strip r := by
  unfold strip
  rw [skip_rec, skip_rec r]
  simp only [List.takeWhile_cons, h, if_true, List.length_cons, List.drop_succ_cons]
  split
  · rw [Nat.add_right_comm, List.drop_succ_cons, Nat.add_right_comm, List.drop_succ_cons]
  · rw [List.drop_succ_cons]
theorem drop_tw (p : UInt8 → Bool) (l : Bs) : l.drop (l.takeWhile p).length = l.dropWhile p := by
  induction l with
  | nil => rfl
  | cons c l ih =>
    rw [List.takeWhile_cons, List.dropWhile_cons]
    split
    · simpa using ih
    · rfl
theorem strip_cm (r : Bs) : strip (47 :: 47 :: r) = strip (r.dropWhile notNL) := by
  unfold strip
  rw [skip_rec]
  have h1 : (47 :: 47 :: r).takeWhile isBl = [] := by rw [List.takeWhile_cons]; rfl
  have h2 : [47, 47].isPrefixOf (47 :: 47 :: r) = true := by simp [List.isPrefixOf]
  have h3 : (47 :: 47 :: r).takeWhile notNL = 47 :: 47 :: r.takeWhile notNL := by rw [List.takeWhile_cons, List.takeWhile_cons]; rfl
  simp only [h1, List.length_nil, List.drop_zero, h2, if_true, h3, List.length_cons, Nat.zero_add, List.drop_succ_cons, drop_tw]
  rw [show (r.takeWhile notNL).length + 1 + 1 + skipB (r.dropWhile notNL) = ((r.takeWhile notNL).length + skipB (r.dropWhile notNL)) + 1 + 1 from by omega, List.drop_succ_cons, List.drop_succ_cons, ← List.drop_drop, drop_tw]
theorem strip_no {c : UInt8} {r : Bs} (h : isBl c = false) (h2 : [47, 47].isPrefixOf (c :: r) = false) : strip (c :: r) = c :: r := by
  unfold strip
  rw [skip_rec]
  have h1 : (c :: r).takeWhile isBl = [] := by rw [List.takeWhile_cons, h]; rfl
  simp only [h1, List.length_nil, List.drop_zero, h2, Bool.false_eq_true, if_false]
theorem pre2 {c : UInt8} {r : Bs} (h : [47, 47].isPrefixOf (c :: r) = true) : ∃ q, c = 47 ∧ r = 47 :: q := by
  cases r with
  | nil => simp [List.isPrefixOf] at h
  | cons d q =>
    simp only [List.isPrefixOf, Bool.and_eq_true, beq_iff_eq] at h
    exact ⟨q, h.1.symm, by rw [h.2.1]⟩
theorem dw_len (p : UInt8 → Bool) (l : Bs) : (l.dropWhile p).length ≤ l.length := (List.dropWhile_sublist p (l := l)).length_le
theorem dw_app (p : UInt8 → Bool) (l z : Bs) (h : l.dropWhile p ≠ []) : (l ++ z).dropWhile p = l.dropWhile p ++ z := by
  induction l with
  | nil => exact absurd rfl h
  | cons c l ih =>
    rw [List.cons_append, List.dropWhile_cons, List.dropWhile_cons]
    rw [List.dropWhile_cons] at h
    split
    · rename_i hc; rw [if_pos hc] at h; exact ih h
    · rfl
theorem dw_none (p : UInt8 → Bool) (l z : Bs) (h : l.dropWhile p = []) : (l ++ z).dropWhile p = z.dropWhile p := by
  induction l with
  | nil => rfl
  | cons c l ih =>
    rw [List.dropWhile_cons] at h
    split at h
    · rename_i hc
      rw [List.cons_append, List.dropWhile_cons, if_pos hc]
      exact ih h
    · cases h
theorem strip_ind {P : Bs → Prop} (h0 : P []) (h1 : ∀ c r, isBl c = true → P r → P (c :: r)) (h2 : ∀ r, P (r.dropWhile notNL) → P (47 :: 47 :: r)) (h3 : ∀ c r, isBl c = false → [47, 47].isPrefixOf (c :: r) = false → P (c :: r)) (l : Bs) : P l := by
  have key : ∀ (n : Nat) (l : Bs), l.length ≤ n → P l := by
    intro n
    induction n with
    | zero => intro l hl; obtain rfl : l = [] := List.eq_nil_of_length_eq_zero (by omega); exact h0
    | succ n ih =>
      intro l hl
      cases l with
      | nil => exact h0
      | cons c r =>
        cases hb : isBl c with
        | true => exact h1 c r hb (ih r (by simpa using hl))
        | false =>
          cases hp : [47, 47].isPrefixOf (c :: r) with
          | false => exact h3 c r hb hp
          | true =>
            obtain ⟨q, rfl, rfl⟩ := pre2 hp
            refine h2 q (ih _ ?_)
            have := dw_len notNL q
            simp at hl
            omega
  exact key _ l (Nat.le_refl _)
theorem strip_app (z : Bs) (hz : z.head? ≠ some 47) (l : Bs) : strip l ≠ [] → strip (l ++ z) = strip l ++ z := by
  refine strip_ind (P := fun l => strip l ≠ [] → strip (l ++ z) = strip l ++ z) ?_ ?_ ?_ ?_ l
  · intro h; exact absurd rfl h
  · intro c r hb ih h
    rw [strip_bl hb] at h
    rw [List.cons_append, strip_bl hb, strip_bl hb, ih h]
  · intro r ih h
    rw [strip_cm] at h
    have hne : r.dropWhile notNL ≠ [] := by
      intro e; rw [e] at h; exact h rfl
    rw [List.cons_append, List.cons_append, strip_cm, strip_cm, dw_app _ _ _ hne, ih h]
  · intro c r hb hp h
    rw [strip_no hb hp, List.cons_append]
    refine strip_no hb ?_
    cases hq : [47, 47].isPrefixOf (c :: (r ++ z)) with
    | false => rfl
    | true =>
      obtain ⟨q, h1, h2⟩ := pre2 hq
      cases r with
      | nil =>
        rw [List.nil_append] at h2
        rw [h2] at hz
        exact absurd rfl hz
      | cons d r =>
        rw [List.cons_append] at h2
        injection h2 with h2 h3
        rw [h1, h2] at hp
        simp [List.isPrefixOf] at hp
theorem strip_end (b : Bs) (l : Bs) : strip l = [] → strip (l ++ 10 :: b) = strip b := by
  refine strip_ind (P := fun l => strip l = [] → strip (l ++ 10 :: b) = strip b) ?_ ?_ ?_ ?_ l
  · intro _; exact strip_bl rfl b
  · intro c r hb ih h
    rw [strip_bl hb] at h
    rw [List.cons_append, strip_bl hb, ih h]
  · intro r ih h
    rw [strip_cm] at h
    rw [List.cons_append, List.cons_append, strip_cm, ← ih h]
    by_cases hne : r.dropWhile notNL = []
    · rw [dw_none _ _ _ hne, hne]; rfl
    · rw [dw_app _ _ _ hne]
  · intro c r hb hp h
    rw [strip_no hb hp] at h
    cases h
/-- A comment behind. -/
theorem strip_end2 (l : Bs) : strip l = [] → strip (l ++ [32, 47, 47, 32, 123]) = [] := by
  refine strip_ind (P := fun l => strip l = [] → strip (l ++ [32, 47, 47, 32, 123]) = []) ?_ ?_ ?_ ?_ l
  · intro _; rfl
  · intro c r hb ih h
    rw [strip_bl hb] at h
    rw [List.cons_append, strip_bl hb, ih h]
  · intro r ih h
    rw [strip_cm] at h
    rw [List.cons_append, List.cons_append, strip_cm]
    by_cases hne : r.dropWhile notNL = []
    · rw [dw_none _ _ _ hne]; rfl
    · rw [dw_app _ _ _ hne, ih h]
  · intro c r hb hp h
    rw [strip_no hb hp] at h
    cases h
theorem takeWhile_stop2 {p : UInt8 → Bool} {t z : Bs} (ht : ∀ c ∈ t, p c = true) (h : ∀ c, z.head? = some c → p c = false) : (t ++ z).takeWhile p = t := by
  induction t with
  | nil =>
    cases z with
    | nil => rfl
    | cons c z => rw [List.nil_append, List.takeWhile_cons, h c rfl]; rfl
  | cons c t ih => rw [List.cons_append, List.takeWhile_cons, if_pos (ht c (by simp)), ih (fun d hd => ht d (by simp [hd]))]
/-- A token is told alike whatever stands behind it; behind a name, or a word, no letter nor digit. -/
theorem one_loc {l : Bs} {k n : Nat} {t : Bs} (h : oneT l = .ok (k, t, n)) (z : Bs) (hz : k = 1 ∨ k = 2 → ∀ c, z.head? = some c → isLd c = false) : oneT (l.take n ++ z) = .ok (k, t, n) := by
  cases l with
  | nil => cases h
  | cons c r =>
    cases h1 : isLt (lookB (c :: r) 0)
    · cases h2 : (lookB (c :: r) 0 == 123)
      · cases h3 : [37, 37].isPrefixOf (c :: r)
        · cases h4 : (lookB (c :: r) 0 == 37)
          · cases h5 : isSg (lookB (c :: r) 0)
            · rw [one_none h1 h2 h3 h4 h5] at h; cases h
            · rw [one_sign h1 h2 h3 h4 h5] at h
              simp only [Except.ok.injEq, Prod.mk.injEq] at h
              obtain ⟨rfl, rfl, rfl⟩ := h
              rw [look_cons] at h1 h2 h4 h5 ⊢
              have e3 : [37, 37].isPrefixOf (c :: z) = false := by
                have : (37 == c) = false := by
                  have := (sg_not c h5).2.2.2.2.1
                  exact this
                simp [List.isPrefixOf, this]
              show oneT (c :: z) = _
              exact one_sign (l := c :: z) h1 h2 e3 h4 h5
          · have hc : c = 37 := by simpa [look_cons] using h4
            subst hc
            rw [one_word h1 h2 h3 h4] at h
            unfold wordT at h
            simp only [List.drop_succ_cons, List.drop_zero] at h
            split at h
            · rename_i hw
              simp only [Except.ok.injEq, Prod.mk.injEq] at h
              obtain ⟨rfl, rfl, rfl⟩ := h
              have htk := takeWhile_take isLd r
              have hall := takeWhile_all isLd r
              rw [Nat.add_comm, List.take_succ_cons, ← htk, List.cons_append]
              have hne : ∃ d q, r.takeWhile isLd = d :: q := by
                cases e : r.takeWhile isLd with
                | nil => rw [e] at hw; exact absurd hw (by decide)
                | cons d q => exact ⟨d, q, rfl⟩
              obtain ⟨d, q, hd⟩ := hne
              have hdl : isLd d = true := hall d (by rw [hd]; simp)
              have h37 : (37 == d) = false := by
                by_cases e : d = 37
                · subst e; exact absurd hdl (by decide)
                · simpa using fun h => e h.symm
              have e3 : [37, 37].isPrefixOf (37 :: (r.takeWhile isLd ++ z)) = false := by rw [hd]; simp [List.isPrefixOf, h37]
              rw [one_word (by rfl) (by rfl) e3 (by rfl)]
              unfold wordT
              have ht := takeWhile_stop2 (z := z) hall (hz (.inl rfl))
              simp only [List.drop_succ_cons, List.drop_zero, ht]
              rw [if_pos hw, Nat.add_comm]
            · cases h
        · rw [one_two h1 h2 h3] at h
          simp only [Except.ok.injEq, Prod.mk.injEq] at h
          obtain ⟨rfl, rfl, rfl⟩ := h
          cases r with
          | nil => simp [List.isPrefixOf] at h3
          | cons d r =>
            simp only [List.isPrefixOf, Bool.and_eq_true, beq_iff_eq] at h3
            obtain ⟨rfl, rfl, _⟩ := h3
            rfl
      · have hc : c = 123 := by simpa [look_cons] using h2
        subst hc
        rw [one_action h1 h2] at h
        unfold actionT at h
        rw [actB_first] at h
        cases e : actB 1 r with
        | none => rw [e] at h; cases h
        | some m =>
          rw [e] at h
          simp only [Option.map_some, Except.ok.injEq, Prod.mk.injEq] at h
          obtain ⟨rfl, rfl, rfl⟩ := h
          have hl := actB_len _ _ _ _ (Nat.le_refl _) e
          have hsh := actB_shift _ 1 r m (Nat.le_refl _) (by decide) e 0 z
          rw [if_pos rfl] at hsh
          rw [List.take_succ_cons, List.cons_append, one_action (by rfl) (by rfl)]
          unfold actionT
          rw [actB_first, hsh]
          simp only [Option.map_some, Except.ok.injEq, Prod.mk.injEq, true_and, and_true]
          have : m + 1 - 1 = (m - 1) + 1 := by omega
          rw [this, List.take_succ_cons, List.take_succ_cons, List.drop_succ_cons, List.drop_succ_cons, List.drop_zero, List.drop_zero, List.take_append_of_le_length (by rw [List.length_take]; omega), List.take_take, Nat.min_eq_left (by omega)]
    · rw [one_name h1] at h
      unfold nameT at h
      simp only at h
      split at h
      · rename_i h40
        simp only [Except.ok.injEq, Prod.mk.injEq] at h
        obtain ⟨rfl, rfl, rfl⟩ := h
        have htk := takeWhile_take isLd (c :: r)
        have hall := takeWhile_all isLd (c :: r)
        rw [← htk]
        have ht := takeWhile_stop2 (z := z) hall (hz (.inr rfl))
        have hl : lookB ((c :: r).takeWhile isLd ++ z) 0 = c := by rw [List.takeWhile_cons, (lt_not c h1).2.2]; rfl
        rw [one_name (by rw [hl]; exact h1)]
        unfold nameT
        simp only [ht]
        rw [if_pos h40]
      · cases h
theorem tw_next (p : UInt8 → Bool) (l : Bs) : ∀ c, (l.drop (l.takeWhile p).length).head? = some c → p c = false := by
  intro c hc
  rw [drop_tw] at hc
  induction l with
  | nil => cases hc
  | cons d l ih =>
    rw [List.dropWhile_cons] at hc
    split at hc
    · exact ih hc
    · rename_i h
      injection hc with hc
      subst hc
      simpa using h
/-- Behind a name, or a word, there stands no letter nor digit. -/
theorem one_next {l : Bs} {k n : Nat} {t : Bs} (h : oneT l = .ok (k, t, n)) (hk : k = 1 ∨ k = 2) : ∀ c, (l.drop n).head? = some c → isLd c = false := by
  cases h1 : isLt (lookB l 0)
  · cases h2 : (lookB l 0 == 123)
    · cases h3 : [37, 37].isPrefixOf l
      · cases h4 : (lookB l 0 == 37)
        · cases h5 : isSg (lookB l 0)
          · rw [one_none h1 h2 h3 h4 h5] at h; cases h
          · rw [one_sign h1 h2 h3 h4 h5] at h
            simp only [Except.ok.injEq, Prod.mk.injEq] at h
            omega
        · rw [one_word h1 h2 h3 h4] at h
          unfold wordT at h
          simp only at h
          split at h
          · simp only [Except.ok.injEq, Prod.mk.injEq] at h
            obtain ⟨rfl, rfl, rfl⟩ := h
            rw [← List.drop_drop]
            exact tw_next isLd (l.drop 1)
          · cases h
      · rw [one_two h1 h2 h3] at h
        simp only [Except.ok.injEq, Prod.mk.injEq] at h
        omega
    · rw [one_action h1 h2] at h
      unfold actionT at h
      split at h
      · simp only [Except.ok.injEq, Prod.mk.injEq] at h
        omega
      · cases h
  · rw [one_name h1] at h
    unfold nameT at h
    simp only at h
    split at h
    · simp only [Except.ok.injEq, Prod.mk.injEq] at h
      obtain ⟨rfl, rfl, rfl⟩ := h
      exact tw_next isLd l
    · cases h
/-- A token is told alike with more behind the source. -/
theorem one_app {l : Bs} {k n : Nat} {t : Bs} (h : oneT l = .ok (k, t, n)) (z : Bs) (hz : ∀ c, z.head? = some c → isLd c = false) : oneT (l ++ z) = .ok (k, t, n) := by
  have := one_loc h (l.drop n ++ z) (fun hk c hc => by
    cases e : l.drop n with
    | nil => rw [e] at hc; exact hz c hc
    | cons d q => rw [e] at hc; exact one_next h hk c (by rw [e]; exact hc))
  rw [← List.append_assoc, List.take_append_drop] at this
  exact this
abbrev kt (t : Tok) : Nat × Bs := (t.kind, t.text)
/-- The tokens of a source, without places. -/
inductive Tks : Bs → List (Nat × Bs) → Prop
  | nil {l : Bs} : strip l = [] → Tks l []
  | cons {l : Bs} {k n : Nat} {t : Bs} {ts : List (Nat × Bs)} : oneT (strip l) = .ok (k, t, n) → Tks ((strip l).drop n) ts → Tks l ((k, t) :: ts)
theorem one_nil : ∀ {l : Bs} {x : Nat × Bs × Nat}, oneT l = .ok x → l ≠ [] := by
  intro l x h e
  subst e
  cases h
theorem Tks.strip {l l' : Bs} {x : List (Nat × Bs)} (h : Tks l x) (e : LexT.strip l = LexT.strip l') : Tks l' x := by
  cases h with
  | nil h => exact .nil (e ▸ h)
  | cons h1 h2 => rw [e] at h1 h2; exact .cons h1 h2
theorem Tks.app {a z z2 : Bs} {x y : List (Nat × Bs)} (h : Tks a x) (h1 : ∀ c, z.head? = some c → isLd c = false) (h2 : z.head? ≠ some 47) (h3 : ∀ l, LexT.strip l = [] → LexT.strip (l ++ z) = LexT.strip z2) (h4 : Tks z2 y) : Tks (a ++ z) (x ++ y) := by
  induction h with
  | nil h => exact h4.strip (h3 _ h).symm
  | @cons l k n t ts ho _ ih =>
    have e := strip_app z h2 l (one_nil ho)
    refine .cons (n := n) (by rw [e]; exact one_app ho z h1) ?_
    rw [e, List.drop_append_of_le_length (told_one ho).le]
    exact ih
theorem go_tks : ∀ (f : Nat) (l : Bs) (p : Nat) (ts out : List Tok), goT f l p ts = .ok out → ∃ us e, out = ts ++ (us ++ [⟨7, [], e⟩]) ∧ Tks l (us.map kt)
  | 0, l, p, ts, out, h => by cases h
  | f + 1, l, p, ts, out, h => by
    rw [goT] at h
    cases hd : l.drop (skipB l) with
    | nil =>
      rw [hd] at h
      simp only [Except.ok.injEq] at h
      exact ⟨[], _, by rw [← h]; rfl, .nil hd⟩
    | cons c r =>
      rw [hd] at h
      simp only at h
      cases ho : oneT (c :: r) with
      | error e => rw [ho] at h; cases h
      | ok x =>
        obtain ⟨kd, t, n⟩ := x
        rw [ho] at h
        simp only at h
        obtain ⟨us, e, rfl, h2⟩ := go_tks f _ _ _ _ h
        refine ⟨⟨kd, t, p + skipB l⟩ :: us, e, by simp, ?_⟩
        refine Tks.cons (n := n) ?_ ?_
        · show oneT (l.drop (skipB l)) = _
          rw [hd]; exact ho
        · show Tks ((l.drop (skipB l)).drop n) _
          rw [hd]; exact h2
theorem tks_go {l : Bs} {x : List (Nat × Bs)} (h : Tks l x) : ∀ (f p : Nat) (ts : List Tok), l.length < f → ∃ us e, goT f l p ts = .ok (ts ++ (us ++ [⟨7, [], e⟩])) ∧ us.map kt = x := by
  induction h with
  | @nil l h =>
    intro f p ts hf
    obtain ⟨f, rfl⟩ : ∃ j, f = j + 1 := ⟨f - 1, by omega⟩
    rw [goT]
    have h : l.drop (skipB l) = [] := h
    rw [h]
    exact ⟨[], _, rfl, rfl⟩
  | @cons l k n t ts ho h2 ih =>
    intro f p vs hf
    obtain ⟨f, rfl⟩ : ∃ j, f = j + 1 := ⟨f - 1, by omega⟩
    have hne := one_nil ho
    have T := told_one ho
    have ho : oneT (l.drop (skipB l)) = _ := ho
    rw [goT]
    cases hd : l.drop (skipB l) with
    | nil => exact absurd hd hne
    | cons c r =>
      rw [hd] at ho
      simp only [ho]
      have hst : LexT.strip l = c :: r := hd
      rw [hst] at ih T
      have hlen := congrArg List.length hd
      rw [List.length_drop] at hlen
      obtain ⟨us, e, h3, h4⟩ := ih f (p + skipB l + n) (vs ++ [⟨k, t, p + skipB l⟩]) (by
        rw [List.length_drop]
        have := T.pos
        have := T.le
        omega)
      refine ⟨⟨k, t, p + skipB l⟩ :: us, e, by rw [h3]; simp, by simp [h4]⟩
/-- A source's tokens: what is told. -/
theorem tokens_tks {s : Bs} {ts : List Tok} (h : tokensT s = .ok ts) : s.length ≤ 65536 ∧ ∃ us e, ts = us ++ [⟨7, [], e⟩] ∧ Tks s (us.map kt) := by
  unfold tokensT at h
  split at h
  · cases h
  · obtain ⟨us, e, h1, h2⟩ := go_tks _ _ _ _ _ h
    exact ⟨by omega, us, e, by simpa using h1, h2⟩
theorem tks_tokens {s : Bs} {x : List (Nat × Bs)} (h : Tks s x) (hl : s.length ≤ 65536) : ∃ us e, tokensT s = .ok (us ++ [⟨7, [], e⟩]) ∧ us.map kt = x := by
  unfold tokensT
  rw [if_neg (by omega)]
  obtain ⟨us, e, h1, h2⟩ := tks_go h (s.length + 1) 0 [] (by omega)
  exact ⟨us, e, by simpa using h1, h2⟩
end LexT
namespace LexT
set_option linter.unusedVariables false
set_option linter.unusedSimpArgs false
theorem one_kind {l : Bs} {k n : Nat} {t : Bs} (h : oneT l = .ok (k, t, n)) : (k = 1 ∧ t ∈ words) ∨ (k = 2 ∧ t ≠ []) ∨ (k = 6 ∧ (t = [37, 37] ∨ ∃ c, isSg c = true ∧ t = [c])) ∨ k = 9 := by
  cases h1 : isLt (lookB l 0)
  · cases h2 : (lookB l 0 == 123)
    · cases h3 : [37, 37].isPrefixOf l
      · cases h4 : (lookB l 0 == 37)
        · cases h5 : isSg (lookB l 0)
          · rw [one_none h1 h2 h3 h4 h5] at h; cases h
          · rw [one_sign h1 h2 h3 h4 h5] at h
            simp only [Except.ok.injEq, Prod.mk.injEq] at h
            exact .inr (.inr (.inl ⟨h.1.symm, .inr ⟨_, h5, h.2.1.symm⟩⟩))
        · rw [one_word h1 h2 h3 h4] at h
          unfold wordT at h
          simp only at h
          split at h
          · rename_i hw
            simp only [Except.ok.injEq, Prod.mk.injEq] at h
            exact .inl ⟨h.1.symm, by rw [← h.2.1]; simpa using hw⟩
          · cases h
      · rw [one_two h1 h2 h3] at h
        simp only [Except.ok.injEq, Prod.mk.injEq] at h
        exact .inr (.inr (.inl ⟨h.1.symm, .inl h.2.1.symm⟩))
    · rw [one_action h1 h2] at h
      unfold actionT at h
      split at h
      · simp only [Except.ok.injEq, Prod.mk.injEq] at h
        exact .inr (.inr (.inr h.1.symm))
      · cases h
  · have T := told_one h
    rw [one_name h1] at h
    unfold nameT at h
    simp only at h
    split at h
    · simp only [Except.ok.injEq, Prod.mk.injEq] at h
      refine .inr (.inl ⟨h.1.symm, fun e => ?_⟩)
      have h2 := T.spl
      have h3 := T.pos
      rw [← h.1, e] at h2
      simp [spell] at h2
      omega
    · cases h
/-- What a token may be. -/
def okK (y : Nat × Bs) : Prop := (y.1 = 1 ∧ y.2 ∈ words) ∨ (y.1 = 2 ∧ y.2 ≠ []) ∨ (y.1 = 6 ∧ (y.2 = [37, 37] ∨ ∃ c, isSg c = true ∧ y.2 = [c])) ∨ y.1 = 9
theorem Tks.ok {l : Bs} {x : List (Nat × Bs)} (h : Tks l x) : ∀ y ∈ x, okK y := by
  induction h with
  | nil h => intro y hy; cases hy
  | @cons l k n t ts ho _ ih =>
    intro y hy
    rcases List.mem_cons.1 hy with rfl | hy
    · exact one_kind ho
    · exact ih y hy
theorem okK.noE {t : Tok} (h : okK (kt t)) : t.kind = 2 → t.text ≠ [] := by
  intro hk
  rcases h with h | h | h | h
  · have := h.1; simp [kt] at this; omega
  · exact h.2
  · have := h.1; simp [kt] at this; omega
  · simp [kt] at h; omega
theorem okK.noEnd {t : Tok} (h : okK (kt t)) : atT t [[]] = false := by
  unfold atT
  rcases h with h | h | h | h
  · have h2 : t.text ∈ words := h.2
    have : t.text ≠ [] := by intro e; rw [e] at h2; revert h2; decide
    simp [this]
  · have : t.text ≠ [] := h.2
    simp [this]
  · have : t.text ≠ [] := by
      rcases h.2 with h | ⟨c, _, h⟩
      · have h : t.text = _ := h
        rw [h]; decide
      · have h : t.text = _ := h
        rw [h]; simp
    simp [this]
  · have h : t.kind = 9 := h
    simp [h]
theorem cut_end {e : Tok} : ∀ {us u l : List Tok}, (∀ t ∈ us, atT t [[]] = false) → us ++ [e] = u ++ l → atB [[]] l = true → us = u ∧ l = [e]
  | us, [], [], h, h1, h2 => by cases h2
  | [], [], t :: l, h, h1, h2 => by simp at h1; exact ⟨rfl, by rw [h1.1, h1.2]⟩
  | v :: us, [], t :: l, h, h1, h2 => by
    simp at h1
    have := h v (by simp)
    rw [h1.1] at this
    exact absurd (this.symm.trans h2) (by decide)
  | [], v :: u, l, h, h1, h2 => by
    simp at h1
    rw [h1.2.2] at h2
    cases h2
  | t :: us, v :: u, l, h, h1, h2 => by
    simp at h1
    obtain ⟨h3, h4⟩ := cut_end (fun t ht => h t (by simp [ht])) h1.2 h2
    exact ⟨by rw [h1.1, h3], h4⟩
/-- What was told, as tokens that spell it. -/
theorem told_sp {s : Bs} {x : Tx} (h : textT s = .ok x) : ∃ us e, tokensT s = .ok (us ++ [⟨7, [], e⟩]) ∧ Tks s (us.map kt) ∧ Sp us (txV x) ∧ wfT x ∧ s.length ≤ 65536 := by
  unfold textT at h
  cases ht : tokensT s with
  | error e => rw [ht] at h; cases h
  | ok ts =>
    rw [ht] at h
    simp only at h
    obtain ⟨hl, us, e, rfl, hk⟩ := tokens_tks ht
    have hok : ∀ t ∈ us, okK (kt t) := fun t ht => hk.ok (kt t) (List.mem_map_of_mem ht)
    cases hf : textF ((us ++ [(⟨7, [], e⟩ : Tok)]).length + 1) (us ++ [(⟨7, [], e⟩ : Tok)]) with
    | none => rw [hf] at h; cases h
    | some r =>
      rw [hf] at h
      cases r with
      | error e => cases h
      | ok p =>
        obtain ⟨x', l'⟩ := p
        simp only at h
        injection h with h
        subst h
        have hn : NoE (us ++ [⟨7, [], e⟩]) := by
          intro t ht hk
          rcases List.mem_append.1 ht with ht | ht
          · exact (hok t ht).noE hk
          · simp at ht; subst ht; cases hk
        obtain ⟨u, h1, h2, h3, h4⟩ := text_sp hn hf
        obtain ⟨rfl, rfl⟩ := cut_end (fun t ht => (hok t ht).noEnd) h1 h4
        exact ⟨us, e, rfl, hk, h2, h3, hl⟩
def vk (y : Nat × Bs) : Nat × Bs := (if y.1 == 2 then 2 else if y.1 == 9 then 9 else 0, y.2)
theorem lk_vk {us : List Tok} {vs : List Vt} : Lk us vs ↔ (us.map kt).map vk = vs.map (·.1) := by
  unfold Lk
  rw [List.map_map]
  exact Iff.rfl
/-- A source whose tokens look as a text's own is told as that text. -/
theorem told_rd {s : Bs} {xs : List (Nat × Bs)} {x : Tx} (h : Tks s xs) (hl : s.length ≤ 65536) (hx : wfT x) (hv : xs.map vk = (txV x).map (·.1)) : ∃ x', textT s = .ok x' ∧ plT x' = plT x := by
  obtain ⟨us, e, h1, rfl⟩ := tks_tokens h hl
  have hu : Lk us (txV x) := lk_vk.2 hv
  obtain ⟨x', h2, h3⟩ := text_rd2 (r := [⟨7, [], e⟩]) hx hu rfl
  exact ⟨x', textT_3 h1 h2, h3⟩
def preP : Bs := [47, 47, 32, 37, 10, 9]
def sufP : Bs := [32, 47, 47, 32, 123]
/-- Comments and blanks ahead and behind make no difference but to places. -/
theorem around {s : Bs} {x : Tx} (h : textT s = .ok x) (hl : s.length ≤ 20000) : ∃ x', textT (preP ++ s ++ sufP) = .ok x' ∧ plT x' = plT x := by
  obtain ⟨us, e, h1, h2, h3, h4, h5⟩ := told_sp h
  have hk : Tks (s ++ sufP) (us.map kt) := by
    have := Tks.app h2 (z := sufP) (z2 := []) (y := []) (fun c hc => by injection hc with hc; subst hc; rfl) (by decide) (fun l hl => strip_end2 l hl) (.nil rfl)
    simpa using this
  have hk2 : Tks (preP ++ s ++ sufP) (us.map kt) := by
    refine hk.strip ?_
    rw [List.append_assoc]
    show strip (s ++ sufP) = strip (47 :: 47 :: 32 :: 37 :: 10 :: 9 :: (s ++ sufP))
    rw [strip_cm, show (32 :: 37 :: 10 :: 9 :: (s ++ sufP)).dropWhile notNL = 10 :: 9 :: (s ++ sufP) from rfl, strip_bl rfl, strip_bl rfl]
  refine told_rd hk2 (by simp [preP, sufP]; omega) h4 (lk_vk.1 h3.view)
/-- Rules behind %%. -/
theorem behind {a : Bs} {x : Tx} (h : textT (37 :: 37 :: 32 :: a) = .ok x) : x.decls = [] ∧ wfT x ∧ ∃ xa, Tks a xa ∧ xa.map vk = (x.rules.map ruV).flatten.map (·.1) := by
  obtain ⟨us, e, h1, h2, h3, h4, h5⟩ := told_sp h
  have hv := lk_vk.1 h3.view
  generalize us.map kt = xs at *
  have hs : strip (37 :: 37 :: 32 :: a) = 37 :: 37 :: 32 :: a := strip_no rfl rfl
  have ho : oneT (37 :: 37 :: 32 :: a) = .ok (6, [37, 37], 2) := rfl
  cases h2 with
  | nil h => rw [hs] at h; cases h
  | @cons _ k n t ts ho2 h2 =>
    rw [hs] at ho2 h2
    rw [ho] at ho2
    injection ho2 with ho2
    simp only [Prod.mk.injEq] at ho2
    obtain ⟨rfl, rfl, rfl⟩ := ho2
    have h6 : Tks a ts := h2.strip (strip_bl rfl a)
    unfold txV at hv
    cases hd : x.decls with
    | cons d ds =>
      rw [hd] at hv
      have hkd := (h4.1 d (by rw [hd]; simp)).1
      simp only [List.map_cons, List.flatten_cons, deV, List.cons_append] at hv
      injection hv with hv _
      have : ([37, 37] : Bs) = d.kind := congrArg Prod.snd hv
      rw [← this] at hkd
      exact absurd hkd (by decide)
    | nil =>
      rw [hd] at hv
      simp only [List.map_cons, List.map_nil, List.flatten_nil, List.nil_append] at hv
      injection hv with _ hv
      exact ⟨rfl, h4, ts, h6, hv⟩
def preR : Bs := [37, 108, 101, 102, 116, 32, 80, 59, 32, 37, 37, 32]
def leftD : De := ⟨[108, 101, 102, 116], [], [[80]], 0⟩
theorem pre_tks {l : Bs} {xs : List (Nat × Bs)} (h : Tks l xs) : Tks (preR ++ l) ([(1, [108, 101, 102, 116]), (2, [80]), (6, [59]), (6, [37, 37])] ++ xs) := by
  have h1 : Tks (32 :: l) xs := h.strip (strip_bl rfl l).symm
  have h2 : Tks (32 :: 37 :: 37 :: 32 :: l) ((6, [37, 37]) :: xs) := by
    have e : strip (32 :: 37 :: 37 :: 32 :: l) = 37 :: 37 :: 32 :: l := by rw [strip_bl rfl]; exact strip_no rfl rfl
    exact .cons (n := 2) (by rw [e]; rfl) (by rw [e]; exact h1)
  have h3 : Tks (59 :: 32 :: 37 :: 37 :: 32 :: l) ((6, [59]) :: (6, [37, 37]) :: xs) := by
    have e : strip (59 :: 32 :: 37 :: 37 :: 32 :: l) = 59 :: 32 :: 37 :: 37 :: 32 :: l := strip_no rfl rfl
    exact .cons (n := 1) (by rw [e]; rfl) (by rw [e]; exact h2)
  have h4 : Tks (32 :: 80 :: 59 :: 32 :: 37 :: 37 :: 32 :: l) ((2, [80]) :: (6, [59]) :: (6, [37, 37]) :: xs) := by
    have e : strip (32 :: 80 :: 59 :: 32 :: 37 :: 37 :: 32 :: l) = 80 :: 59 :: 32 :: 37 :: 37 :: 32 :: l := by rw [strip_bl rfl]; exact strip_no rfl rfl
    exact .cons (n := 1) (by rw [e]; rfl) (by rw [e]; exact h3)
  have e : strip (preR ++ l) = preR ++ l := strip_no rfl rfl
  exact .cons (n := 5) (by rw [e]; rfl) (by rw [e]; exact h4)
/-- The rules of both, one behind the other. -/
theorem both {a b : Bs} {x y : Tx} (ha : textT (37 :: 37 :: 32 :: a) = .ok x) (hb : textT (37 :: 37 :: 32 :: b) = .ok y) (la : a.length ≤ 10000) (lb : b.length ≤ 10000) : ∃ v, textT (preR ++ a ++ 10 :: b) = .ok v ∧ v.decls.map plD = [leftD] ∧ v.rules.map plR = (x.rules ++ y.rules).map plR := by
  obtain ⟨hx, hwx, xa, h1, h2⟩ := behind ha
  obtain ⟨hy, hwy, xb, h3, h4⟩ := behind hb
  have h5 : Tks (a ++ 10 :: b) (xa ++ xb) := Tks.app h1 (fun c hc => by injection hc with hc; subst hc; rfl) (by simp) (fun l hl => strip_end b l hl) h3
  have h6 := pre_tks h5
  rw [← List.append_assoc] at h6
  obtain ⟨v, h7, h8⟩ := told_rd (x := ⟨[leftD], x.rules ++ y.rules⟩) h6 (by simp [preR]; omega) ⟨fun d hd => by simp at hd; subst hd; exact ⟨by decide, by decide, fun _ _ => rfl, by decide, by decide⟩, fun r hr => by
    rcases List.mem_append.1 hr with hr | hr
    · exact hwx.2 r hr
    · exact hwy.2 r hr⟩ (by
    unfold txV
    simp only [List.map_append, h2, h4, List.map_cons, List.map_nil, List.flatten_cons, List.flatten_nil, List.append_nil, List.flatten_append, List.cons_append, List.nil_append]
    rfl)
  refine ⟨v, h7, ?_, ?_⟩
  · exact congrArg Tx.decls h8
  · exact congrArg Tx.rules h8
/-- Each rule has one sign ; alone. -/
def isEnd (v : Nat × Bs) : Bool := v == (0, [59])
theorem sep_mem {c : Bs} {v : Vt} : ∀ {xs : List (List Vt)}, v ∈ sepV c xs → v = sgV c ∨ ∃ x ∈ xs, v ∈ x
  | [], h => by cases h
  | [x], h => .inr ⟨x, by simp, h⟩
  | x :: y :: r, h => by
    rw [sepV_cons c x (y :: r) (by simp)] at h
    rcases List.mem_append.1 h with h | h
    · exact .inr ⟨x, by simp, h⟩
    · rcases List.mem_cons.1 h with h | h
      · exact .inl h
      · rcases sep_mem h with h | ⟨z, hz, h⟩
        · exact .inl h
        · exact .inr ⟨z, List.mem_cons_of_mem _ hz, h⟩
theorem giv_mem {v : Vt} {xs : List (List Vt)} (h : v ∈ givV xs) : v = sgV [40] ∨ v = sgV [41] ∨ v = sgV [44] ∨ ∃ x ∈ xs, v ∈ x := by
  cases xs with
  | nil => cases h
  | cons y r =>
    have h : v ∈ sgV [40] :: (sepV [44] (y :: r) ++ [sgV [41]]) := h
    rcases List.mem_cons.1 h with h | h
    · exact .inl h
    · rcases List.mem_append.1 h with h | h
      · rcases sep_mem h with h | h
        · exact .inr (.inr (.inl h))
        · exact .inr (.inr (.inr h))
      · simp at h; exact .inr (.inl h)
mutual
theorem wd_noEnd : ∀ (x : Wd) (v : Vt), v ∈ wdV x → isEnd v.1 = false
  | .mk n ws p, v, h => by
    rw [wdV] at h
    rcases List.mem_cons.1 h with h | h
    · subst h; rfl
    · rcases giv_mem h with h | h | h | ⟨y, hy, h⟩
      · subst h; decide
      · subst h; decide
      · subst h; decide
      · exact wds_noEnd ws y hy v h
theorem wds_noEnd : ∀ (ws : List Wd) (y : List Vt), y ∈ wdsV ws → ∀ v ∈ y, isEnd v.1 = false
  | [], y, hy, v, h => by cases hy
  | x :: xs, y, hy, v, h => by
    rw [wdsV] at hy
    rcases List.mem_cons.1 hy with e | hy
    · subst e; exact wd_noEnd x v h
    · exact wds_noEnd xs y hy v h
end
theorem al_noEnd (a : Al) (v : Vt) (h : v ∈ alV a) : isEnd v.1 = false := by
  unfold alV at h
  rcases List.mem_append.1 h with h | h
  · obtain ⟨y, hy, h⟩ := List.mem_flatten.1 h
    exact wds_noEnd _ y hy v h
  · rcases List.mem_append.1 h with h | h
    · unfold precV at h
      split at h
      · cases h
      · simp at h
        rcases h with h | h <;> subst h
        · decide
        · rfl
    · unfold actV at h
      split at h
      · simp at h; subst h; rfl
      · cases h
theorem count_none {p : Vt → Bool} {l : List Vt} (h : ∀ v ∈ l, p v = false) : l.countP p = 0 := by
  rw [List.countP_eq_zero]
  intro v hv
  rw [h v hv]; decide
theorem ru_count (r : Ru) : (ruV r).countP (fun v => isEnd v.1) = 1 := by
  unfold ruV
  rw [List.countP_cons, List.countP_append, List.countP_cons, List.countP_append]
  have h1 : (givV (r.params.map fun p => [noV p])).countP (fun v => isEnd v.1) = 0 := count_none fun v hv => by
    rcases giv_mem hv with h | h | h | ⟨y, hy, h⟩
    · subst h; decide
    · subst h; decide
    · subst h; decide
    · obtain ⟨p, _, rfl⟩ := List.mem_map.1 hy
      simp at h; subst h; rfl
  have h2 : (sepV [124] (r.alts.map alV)).countP (fun v => isEnd v.1) = 0 := count_none fun v hv => by
    rcases sep_mem hv with h | ⟨y, hy, h⟩
    · subst h; decide
    · obtain ⟨p, _, rfl⟩ := List.mem_map.1 hy
      exact al_noEnd p v h
  rw [h1, h2]
  have h3 : isEnd (nmV r.name r.at_).1 = false := rfl
  have h4 : isEnd (sgV [58]).1 = false := by decide
  have h5 : [sgV [59]].countP (fun v => isEnd v.1) = 1 := by decide
  simp [h3, h4, h5]
theorem rus_count : ∀ rs : List Ru, ((rs.map ruV).flatten).countP (fun v => isEnd v.1) = rs.length
  | [] => rfl
  | r :: rs => by rw [List.map_cons, List.flatten_cons, List.countP_append, ru_count, rus_count rs, List.length_cons]; omega
def endT (t : Tok) : Bool := t.kind == 6 && t.text == [59]
theorem okK.isEnd {t : Tok} (h : okK (kt t)) : endT t = LexT.isEnd (vk (kt t)) := by
  unfold endT LexT.isEnd vk
  rcases h with h | h | h | h
  · have h1 : t.kind = 1 := h.1
    have h2 : t.text ∈ words := h.2
    have : t.text ≠ [59] := by intro e; rw [e] at h2; revert h2; decide
    have h3 : (t.text == [59]) = false := by simpa using this
    simp [h1, h3, kt, this]
  · have h1 : t.kind = 2 := h.1
    simp [h1, kt]
  · have h1 : t.kind = 6 := h.1
    simp only [h1, kt]
    cases h3 : (t.text == [59])
    · have : t.text ≠ [59] := by simpa using h3
      simp [this]
    · have : t.text = [59] := by simpa using h3
      simp [this]
  · have h1 : t.kind = 9 := h
    simp [h1, kt]
/-- How many rules there are is how many ; stand there. -/
theorem ends_count {a : Bs} {x : Tx} (h : textT (37 :: 37 :: 32 :: a) = .ok x) (la : a.length ≤ 10000) : ∃ ts, tokensT a = .ok ts ∧ ts.countP endT = x.rules.length := by
  obtain ⟨hx, hwx, xa, h1, h2⟩ := behind h
  obtain ⟨us, e, h3, rfl⟩ := tks_tokens h1 (by omega)
  refine ⟨_, h3, ?_⟩
  rw [List.countP_append]
  have h4 : us.countP endT = (us.map kt |>.map vk).countP LexT.isEnd := by
    rw [List.countP_map, List.countP_map]
    refine List.countP_congr fun t ht => ?_
    rw [(h1.ok (kt t) (List.mem_map_of_mem ht)).isEnd]
    exact Iff.rfl
  rw [h4, h2, List.countP_map]
  have h5 := rus_count x.rules
  have h6 : [(⟨7, [], e⟩ : Tok)].countP endT = 0 := rfl
  rw [h6]
  exact h5
/-- What stands where. -/
def stP (s : Bs) (q : Nat) (nm : Bs) : Prop := q + nm.length ≤ s.length ∧ (s.drop q).take nm.length = nm
theorem lies_mem {s : Bs} : ∀ {us : List Tok} {b : Nat}, Lies s b us → ∀ t ∈ us, stP s t.place (spell t.kind t.text)
  | [], b, h, t, ht => by cases ht
  | u :: us, b, h, t, ht => by
    obtain ⟨h1, h2, h3, h4⟩ := h
    rcases List.mem_cons.1 ht with rfl | ht
    · exact ⟨h2, h3⟩
    · exact lies_mem h4 t ht
mutual
def thP (s : Bs) : Wd → Prop
  | .mk n ws p => stP s p n ∧ thPs s ws
def thPs (s : Bs) : List Wd → Prop
  | [] => True
  | x :: xs => thP s x ∧ thPs s xs
end
theorem mem_sep {c : Bs} {v : Vt} {x : List Vt} : ∀ {xs : List (List Vt)}, x ∈ xs → v ∈ x → v ∈ sepV c xs
  | [], h, hv => by cases h
  | [y], h, hv => by simp at h; subst h; exact hv
  | y :: z :: r, h, hv => by
    rw [sepV_cons c y (z :: r) (by simp)]
    rcases List.mem_cons.1 h with rfl | h
    · exact List.mem_append_left _ hv
    · exact List.mem_append_right _ (List.mem_cons_of_mem _ (mem_sep h hv))
theorem mem_giv {v : Vt} {x : List Vt} {xs : List (List Vt)} (h : x ∈ xs) (hv : v ∈ x) : v ∈ givV xs := by
  cases xs with
  | nil => cases h
  | cons y r => exact List.mem_cons_of_mem _ (List.mem_append_left _ (mem_sep h hv))
mutual
theorem th_of (s : Bs) : ∀ (x : Wd), (∀ n p, nmV n p ∈ wdV x → stP s p n) → thP s x
  | .mk n ws p, h => by
    rw [wdV] at h
    rw [thP]
    refine ⟨h n p (by simp), ths_of s ws fun y hy n p hv => h n p ?_⟩
    refine List.mem_cons_of_mem _ ?_
    exact mem_giv hy hv
theorem ths_of (s : Bs) : ∀ (ws : List Wd), (∀ y ∈ wdsV ws, ∀ n p, nmV n p ∈ y → stP s p n) → thPs s ws
  | [], h => trivial
  | x :: xs, h => by
    rw [wdsV] at h
    exact ⟨th_of s x fun n p hv => h _ (by simp) n p hv, ths_of s xs fun y hy => h y (by simp [hy])⟩
end
/-- All of a text stands at its place. -/
def allSt (s : Bs) (x : Tx) : Prop :=
  (∀ d ∈ x.decls, stP s d.at_ (37 :: d.kind)) ∧ ∀ r ∈ x.rules, stP s r.at_ r.name ∧ ∀ a ∈ r.alts, (a.has = true → 1 ≤ a.where_ ∧ stP s (a.where_ - 1) (123 :: (a.action ++ [125]))) ∧ thPs s a.words
theorem told_all {s : Bs} {x : Tx} (h : textT s = .ok x) : allSt s x := by
  obtain ⟨us, e, h1, h2, h3, h4, h5⟩ := told_sp h
  have hb := back s
  rw [h1] at hb
  obtain ⟨us2, hus, hl, _⟩ := hb
  have hus2 : us = us2 := by
    have := congrArg List.dropLast hus
    simpa using this
  subst hus2
  have key : ∀ v ∈ txV x, ∀ p, v.2 = some p → (v.1.1 = 2 → stP s p v.1.2) ∧ (v.1.1 = 9 → stP s p (123 :: (v.1.2 ++ [125]))) ∧ (v.1.1 = 0 → v.1.2 ∈ kinds → stP s p (37 :: v.1.2)) := by
    intro v hv p hp
    obtain ⟨t, ht, hm, hpl⟩ := h3.mem v hv
    have hs := lies_mem hl t ht
    have hpt := hpl p hp
    have hok := h2.ok (kt t) (List.mem_map_of_mem ht)
    obtain ⟨⟨vk1, vt⟩, vp⟩ := v
    simp only at hm hp ⊢
    subst hpt
    refine ⟨fun hk => ?_, fun hk => ?_, fun hk hmem => ?_⟩
    · subst hk
      obtain ⟨e1, e2⟩ := vw_two hm
      rw [e1, e2] at hs; exact hs
    · subst hk
      obtain ⟨e1, e2⟩ := vw_nine hm
      rw [e1, e2] at hs; exact hs
    · subst hk
      obtain ⟨e1, e2, e3⟩ := vw_zero hm
      subst e3
      have e4 : t.kind = 1 := by
        rcases hok with h | h | h | h
        · exact h.1
        · have h : t.kind = 2 := h.1
          rw [h] at e1; cases e1
        · exfalso
          rcases h.2 with h | ⟨c, hc, h⟩
          · have h : t.text = _ := h
            rw [h] at hmem; revert hmem; decide
          · have h : t.text = _ := h
            rw [h] at hmem
            revert hmem
            unfold kinds
            simp
        · have h : t.kind = 9 := h
          rw [h] at e2; cases e2
      rw [e4] at hs
      exact hs
  refine ⟨fun d hd => ?_, fun r hr => ?_⟩
  · refine (key ((0, d.kind), some d.at_) ?_ d.at_ rfl).2.2 rfl (h4.1 d hd).1
    unfold txV
    refine List.mem_append_left _ (List.mem_flatten.2 ⟨deV d, List.mem_map_of_mem hd, ?_⟩)
    unfold deV; simp
  · have hin : ∀ v ∈ ruV r, v ∈ txV x := by
      intro v hv
      unfold txV
      exact List.mem_append_right _ (List.mem_cons_of_mem _ (List.mem_flatten.2 ⟨ruV r, List.mem_map_of_mem hr, hv⟩))
    refine ⟨(key (nmV r.name r.at_) (hin _ (by unfold ruV; simp)) r.at_ rfl).1 rfl, fun a ha => ?_⟩
    have hina : ∀ v ∈ alV a, v ∈ txV x := by
      intro v hv
      refine hin v ?_
      unfold ruV
      refine List.mem_cons_of_mem _ (List.mem_append_right _ (List.mem_cons_of_mem _ (List.mem_append_left _ ?_)))
      exact mem_sep (List.mem_map_of_mem ha) hv
    refine ⟨fun hh => ⟨((h4.2 r hr).2.2.2 a ha).2.2 hh, ?_⟩, ?_⟩
    · refine (key ((9, a.action), some (a.where_ - 1)) (hina _ ?_) _ rfl).2.1 rfl
      unfold alV actV
      rw [if_pos hh]
      simp
    · refine ths_of s a.words fun y hy n p hv => (key (nmV n p) (hina _ ?_) p rfl).1 rfl
      unfold alV
      exact List.mem_append_left _ (List.mem_flatten.2 ⟨y, hy, hv⟩)
/-- Tokens with the end behind them, each within the source. -/
def Gd (B : Nat) (l : List Tok) : Prop := (∀ t ∈ l, t.place ≤ B) ∧ Fine l
/-- Something is told, of fewer tokens, or a fault whose place lies within the source. -/
def Tame {α : Type} (B n : Nat) (x : Pa α) : Prop := match x with | none => False | some (.error e) => e.1 ≠ 0 ∧ e.2 ≤ B | some (.ok (_, l)) => Gd B l ∧ l.length ≤ n
theorem Tame.mono {α : Type} {B n m : Nat} {x : Pa α} (h : Tame B n x) (hm : n ≤ m) : Tame B m x := by
  unfold Tame at *
  split at h
  · exact h
  · exact h
  · exact ⟨h.1, by have := h.2; omega⟩
theorem Tame.bnd {α β : Type} {B n m : Nat} {x : Pa α} {g : α → List Tok → Pa β} (h : Tame B n x) (hg : ∀ a l, Gd B l → l.length ≤ n → Tame B m (g a l)) : Tame B m (bnd x g) := by
  unfold LexT.bnd
  unfold Tame at h
  split at h
  · exact h.elim
  · exact h
  · exact hg _ _ h.1 h.2
theorem Gd.next {B : Nat} {t : Tok} {r : List Tok} (h : Gd B (t :: r)) (ht : t.kind ≠ 7 ∨ t.text ≠ []) : Gd B r := ⟨fun u hu => h.1 u (by simp [hu]), h.2.tail ht⟩
theorem need_tame {B : Nat} {xs : List Bs} {l : List Tok} (hx : ∀ x ∈ xs, x ≠ []) (h : Gd B l) : Tame B (l.length - 1) (some (needF xs l)) := by
  unfold needF
  cases l with
  | nil => have := h.2.pos; simp at this
  | cons t r =>
    simp only
    split
    · rename_i ha; exact ⟨h.next (.inr (atT_text ha hx)), by simp⟩
    · exact ⟨(by decide : (102 : Nat) ≠ 0), h.1 t (by simp)⟩
theorem name_tame {B : Nat} {l : List Tok} (h : Gd B l) : Tame B (l.length - 1) (some (nameF l)) := by
  unfold nameF
  cases l with
  | nil => have := h.2.pos; simp at this
  | cons t r =>
    simp only
    split
    · rename_i ha
      have hk : t.kind = 2 := by simpa using ha
      exact ⟨h.next (.inl (by omega)), by simp⟩
    · exact ⟨(by decide : (102 : Nat) ≠ 0), h.1 t (by simp)⟩
theorem tail_tame {B : Nat} {l : List Tok} {s : Bs} (hs : s ≠ []) (ha : atB [s] l = true) (h : Gd B l) : Gd B l.tail ∧ l.tail.length + 1 = l.length := by
  cases l with
  | nil => cases ha
  | cons t r => exact ⟨h.next (.inr (atT_text (xs := [s]) ha (by simpa using hs))), rfl⟩
theorem some_tame {β : Type} {B n0 : Nat} {one : β → List Tok → Pa β} {sep : Bs} (hs : sep ≠ []) (h1 : ∀ x l, Gd B l → l.length ≤ n0 → Tame B l.length (one x l)) : ∀ (f : Nat) (x : β) (l : List Tok), Gd B l → l.length ≤ n0 → l.length < f → Tame B l.length (someF one sep f x l)
  | 0, x, l, h, hl, hf => by omega
  | f + 1, x, l, h, hl, hf => Tame.bnd (h1 x l h hl) fun a m hm hlm => by
    split
    · rename_i ha
      have := tail_tame hs ha hm
      exact (some_tame hs h1 f _ _ this.1 (by omega) (by omega)).mono (by omega)
    · exact ⟨hm, hlm⟩
theorem given_tame {β : Type} {B n0 : Nat} {one : β → List Tok → Pa β} (h1 : ∀ x l, Gd B l → l.length ≤ n0 → Tame B l.length (one x l)) (f : Nat) (x : β) (l : List Tok) (h : Gd B l) (hl : l.length ≤ n0 + 1) (hf : l.length ≤ f) : Tame B l.length (givenF one f x l) := by
  unfold givenF
  split
  · rename_i ha
    have ht := tail_tame (by simp) ha h
    exact (some_tame (by simp) h1 f _ _ ht.1 (by omega) (by omega)).bnd fun a m hm hlm => (need_tame (by simp) hm).bnd fun a m2 hm2 hlm2 => ⟨hm2, by omega⟩
  · exact ⟨h, Nat.le_refl _⟩
theorem word_tame {B : Nat} : ∀ (f k : Nat) (l : List Tok), Gd B l → l.length < f → Tame B (l.length - 1) (wordF f k l)
  | 0, k, l, h, hf => by omega
  | f + 1, k, l, h, hf => by
    have hp : ∀ t r, nameF l = .ok (t, r) → t.place ≤ B := by
      intro t r hh
      obtain ⟨rfl, _⟩ := name_sp hh
      exact h.1 t (by simp)
    have hn := name_tame h
    have hpos := h.2.pos
    unfold wordF
    cases e : nameF l with
    | error x => rw [e] at hn; exact hn
    | ok p =>
      obtain ⟨t, r⟩ := p
      rw [e] at hn
      obtain ⟨hn1, hn2⟩ := hn
      have hlt : r.length ≤ l.length - 1 := hn2
      simp only [bnd]
      split
      · exact ⟨(by decide : (103 : Nat) ≠ 0), hp t r e⟩
      · refine (given_tame (n0 := l.length - 2) (fun ws l' hl' hle => ?_) _ _ _ hn1 (by omega) (by omega)).bnd fun a m hm hlm => ⟨hm, by omega⟩
        have := hl'.2.pos
        exact (word_tame f (k + 1) l' hl' (by omega)).bnd fun a m hm hlm => ⟨hm, by omega⟩
theorem words_tame {B N : Nat} : ∀ (f : Nat) (ws : List Wd) (l : List Tok), Gd B l → l.length < f → l.length < N → Tame B l.length (wordsF N f ws l)
  | 0, ws, l, h, hf, hN => by omega
  | f + 1, ws, l, h, hf, hN => by
    unfold wordsF
    split
    · have := h.2.pos
      exact (word_tame N 0 l h hN).bnd fun a m hm hlm => (words_tame f _ m hm (by omega) (by omega)).mono (by omega)
    · exact ⟨h, Nat.le_refl _⟩
theorem act_tame {B : Nat} (ws : List Wd) (pr : Bs) (p : Nat) (l : List Tok) (h : Gd B l) : Tame B l.length (actF2 ws pr p l) := by
  unfold actF2
  cases l with
  | nil => have := h.2.pos; simp at this
  | cons t r =>
    simp only
    split
    · rename_i ha
      have hk : t.kind = 9 := by simpa using ha
      exact ⟨h.next (.inl (by omega)), by simp⟩
    · exact ⟨h, Nat.le_refl _⟩
theorem prec_tame {B : Nat} (l : List Tok) (h : Gd B l) : Tame B l.length (precF l) := by
  unfold precF
  split
  · rename_i ha
    have ht := tail_tame (by simp) ha h
    exact (name_tame ht.1).bnd fun a m hm hlm => ⟨hm, by omega⟩
  · exact ⟨h, Nat.le_refl _⟩
theorem alt_tame {B N : Nat} (l : List Tok) (h : Gd B l) (hN : l.length < N) : Tame B l.length (altF N l) :=
  (words_tame N [] l h hN hN).bnd fun a m hm hlm => (prec_tame m hm).bnd fun b m2 hm2 hlm2 => (act_tame _ _ _ _ hm2).mono (by omega)
theorem rule_tame {B N : Nat} (l : List Tok) (h : Gd B l) (hN : l.length < N) : Tame B (l.length - 1) (ruleF N l) :=
  (name_tame h).bnd fun n m hm hlm => (given_tame (n0 := l.length) (fun x l hl _ => by exact (name_tame hl).bnd fun a m hm hlm => ⟨hm, by omega⟩) _ _ _ hm (by omega) (by omega)).bnd fun ps m2 hm2 hlm2 => (need_tame (by simp) hm2).bnd fun _ m3 hm3 hlm3 => (some_tame (n0 := l.length) (by simp) (fun x l' hl hle => by exact (alt_tame l' hl (by omega)).bnd fun a m hm hlm => ⟨hm, hlm⟩) _ _ _ hm3 (by omega) (by omega)).bnd fun az m4 hm4 hlm4 => (need_tame (by simp) hm4).bnd fun _ m5 hm5 hlm5 => ⟨hm5, by omega⟩
theorem names_tame {B : Nat} : ∀ (f : Nat) (ns : List Bs) (l : List Tok), Gd B l → l.length < f → Tame B l.length (namesF f ns l)
  | 0, ns, l, h, hf => by omega
  | f + 1, ns, l, h, hf => by
    unfold namesF
    split
    · rename_i ha
      have ht := tail_tame (by simp) ha h
      exact ⟨ht.1, by show l.tail.length ≤ _; omega⟩
    · have := h.2.pos
      exact (name_tame h).bnd fun a m hm hlm => (names_tame f _ m hm (by omega)).mono (by omega)
theorem decl_tame {B N : Nat} (l : List Tok) (h : Gd B l) (hN : l.length < N) : Tame B (l.length - 1) (declF N l) :=
  (need_tame (by decide) h).bnd fun w m hm hlm => Tame.bnd (n := m.length) (by
    unfold typedF
    split
    · exact (need_tame (by simp) hm).bnd fun _ m1 hm1 hlm1 => (name_tame hm1).bnd fun _ m2 hm2 hlm2 => (need_tame (by simp) hm2).bnd fun _ m3 hm3 hlm3 => ⟨hm3, by omega⟩
    · exact ⟨hm, Nat.le_refl _⟩) fun ty m2 hm2 hlm2 => (name_tame hm2).bnd fun n m3 hm3 hlm3 => (names_tame _ _ _ hm3 (by omega)).bnd fun _ m4 hm4 hlm4 => ⟨hm4, by omega⟩
theorem decls_tame {B N : Nat} : ∀ (f : Nat) (ds : List De) (l : List Tok), Gd B l → l.length < f → l.length < N → Tame B l.length (declsF N f ds l)
  | 0, ds, l, h, hf, hN => by omega
  | f + 1, ds, l, h, hf, hN => by
    unfold declsF
    split
    · rename_i ha
      have ht := tail_tame (by simp) ha h
      exact ⟨ht.1, by show l.tail.length ≤ _; omega⟩
    · have := h.2.pos
      exact (decl_tame l h hN).bnd fun a m hm hlm => (decls_tame f _ m hm (by omega) (by omega)).mono (by omega)
theorem rules_tame {B N : Nat} : ∀ (f : Nat) (ds : List Ru) (l : List Tok), Gd B l → l.length < f → l.length < N → Tame B l.length (rulesF N f ds l)
  | 0, ds, l, h, hf, hN => by omega
  | f + 1, ds, l, h, hf, hN => by
    unfold rulesF
    split
    · exact ⟨h, Nat.le_refl _⟩
    · have := h.2.pos
      exact (rule_tame l h hN).bnd fun a m hm hlm => (rules_tame f _ m hm (by omega) (by omega)).mono (by omega)
theorem fault_in {s : Bs} {c q : Nat} (h : textT s = .error (c, q)) : c ≠ 0 ∧ q ≤ s.length := by
  unfold textT at h
  cases ht : tokensT s with
  | error e =>
    rw [ht] at h
    injection h with h
    subst h
    refine ⟨tokens_err ht, ?_⟩
    have hb := back s
    rw [ht] at hb
    obtain ⟨_, _, hb⟩ := hb
    unfold tokensT at ht
    split at ht
    · injection ht with ht; injection ht with h1 h2; omega
    · omega
  | ok ts =>
    have hp := tokens_fine ht
    rw [ht] at h
    simp only at h
    have hT : Tame s.length ts.length (textF (ts.length + 1) ts) := (decls_tame _ _ _ ⟨hp.2, hp.1⟩ (by omega) (by omega)).bnd fun ds m hm hlm => (rules_tame _ _ _ hm (by omega) (by omega)).bnd fun rs m hm hlm2 => ⟨hm, by omega⟩
    cases hf : textF (ts.length + 1) ts with
    | none => rw [hf] at hT; exact hT.elim
    | some r =>
      rw [hf] at h hT
      cases r with
      | error e => injection h with h; subst h; exact hT
      | ok p => cases h
theorem tks_len {l : Bs} {x : List (Nat × Bs)} (h : Tks l x) : x.length ≤ l.length := by
  induction h with
  | nil h => simp
  | @cons l k n t ts ho _ ih =>
    have T := told_one ho
    have h1 := T.pos
    have h2 := T.le
    have h3 : (LexT.strip l).length ≤ l.length := by unfold LexT.strip; rw [List.length_drop]; omega
    rw [List.length_drop] at ih
    rw [List.length_cons]
    omega
/-- No list of what is told is long. -/
theorem told_small {s : Bs} {x : Tx} (h : textT s = .ok x) : smallT x := by
  obtain ⟨us, e, h1, h2, h3, h4, h5⟩ := told_sp h
  unfold textT at h
  rw [h1] at h
  simp only at h
  have hl := tks_len h2
  rw [List.length_map] at hl
  cases hf : textF ((us ++ [(⟨7, [], e⟩ : Tok)]).length + 1) (us ++ [(⟨7, [], e⟩ : Tok)]) with
  | none => rw [hf] at h; cases h
  | some r =>
    rw [hf] at h
    cases r with
    | error e => cases h
    | ok p =>
      obtain ⟨x', l'⟩ := p
      injection h with h
      subst h
      exact text_small (by rw [List.length_append, List.length_singleton]; omega) hf
end LexT
