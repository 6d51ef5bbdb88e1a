/- Of a text that is quoted the string says it. -/
import Derived.Test.YthhfgjcdopkmgaaGreatDoorScnA
set_option maxRecDepth 100000
namespace ScnT
set_option linter.unusedVariables false
theorem all256 {P : UInt8 → Prop} [DecidablePred P] (h : ∀ n : Fin 256, P (UInt8.ofNat n.val)) (c : UInt8) : P c := by
  have := h ⟨c.toNat, c.toNat_lt⟩
  simpa using this
set_option maxRecDepth 100000 in
theorem hex_dig : ∀ c : UInt8, hexB (digB (c >>> 4)) = some (c >>> 4) ∧ hexB (digB (c &&& 15)) = some (c &&& 15) ∧ ((c >>> 4) <<< 4 ||| (c &&& 15)) = c := all256 (by decide)
set_option maxRecDepth 100000 in
theorem quote_ways : ∀ c : UInt8, (∃ d, quoteOne c = [92, d] ∧ (d == 120) = false ∧ pairB d = some c) ∨ (quoteOne c = [c] ∧ (c == 34) = false ∧ (c == 92) = false ∧ isPl c = true) ∨ quoteOne c = [92, 120, digB (c >>> 4), digB (c &&& 15)] := by
  intro c
  unfold quoteOne
  by_cases h1 : c = 10
  · subst h1; exact .inl ⟨110, by decide⟩
  by_cases h2 : c = 9
  · subst h2; exact .inl ⟨116, by decide⟩
  by_cases h3 : c = 13
  · subst h3; exact .inl ⟨114, by decide⟩
  by_cases h4 : c = 92
  · subst h4; exact .inl ⟨92, by decide⟩
  by_cases h5 : c = 34
  · subst h5; exact .inl ⟨34, by decide⟩
  simp only [beq_iff_eq, h1, h2, h3, h4, h5, if_false]
  cases h6 : isPl c
  · exact .inr (.inr (by simp))
  · exact .inr (.inl ⟨by simp, by simp [h5], by simp [h4], rfl⟩)
theorem says_one (c : UInt8) (r : Bs) : saysB (quoteOne c ++ r) = (saysB r).map fun x => (c :: x.1, x.2 + (quoteOne c).length) := by
  rcases quote_ways c with ⟨d, h1, h2, h3⟩ | ⟨h1, h2, h3, h4⟩ | h1
  · rw [h1]
    show saysB (92 :: d :: r) = _
    rw [saysB.eq_def]
    simp only [h2, h3]
    cases saysB r <;> simp
  · rw [h1]
    show saysB (c :: r) = _
    rw [saysB.eq_def]
    simp only [h2, h3, h4]
    cases saysB r <;> simp
  · rw [h1]
    obtain ⟨e1, e2, e3⟩ := hex_dig c
    show saysB (92 :: 120 :: digB (c >>> 4) :: digB (c &&& 15) :: r) = _
    rw [saysB]
    simp only [e1, e2]
    cases saysB r <;> simp [e3]
theorem says_quote (s r : Bs) : saysB (s.flatMap quoteOne ++ 34 :: r) = some (s, (s.flatMap quoteOne).length + 1) := by
  induction s with
  | nil => show saysB (34 :: r) = _; rw [saysB.eq_def]; simp
  | cons c s ih =>
    rw [List.flatMap_cons, List.append_assoc, says_one, ih]
    simp
    omega
theorem quote_cons (s r : Bs) : quoteB s ++ r = 34 :: (s.flatMap quoteOne ++ 34 :: r) := by simp [quoteB]
theorem quote_len (s : Bs) : (quoteB s).length = (s.flatMap quoteOne).length + 2 := by simp [quoteB]
theorem string_quote (s r : Bs) : oneT (quoteB s ++ r) = .ok (5, s, (quoteB s).length) := by
  rw [quote_cons]
  unfold oneT
  show (if isLt 34 = true then _ else if isDg 34 = true then _ else if (34 : UInt8) == 34 then stringT (34 :: (s.flatMap quoteOne ++ 34 :: r)) else _) = _
  rw [if_neg (by decide), if_neg (by decide), if_pos (by decide)]
  unfold stringT
  show (match saysB (s.flatMap quoteOne ++ 34 :: r) with | some (t, n) => Except.ok (5, t, n + 1) | none => Except.error 101) = _
  rw [says_quote, quote_len]
theorem quoteOne_len (c : UInt8) : (quoteOne c).length ≤ 4 := by
  rcases quote_ways c with ⟨d, h1, _⟩ | ⟨h1, _⟩ | h1 <;> rw [h1] <;> simp
theorem quote_le (s : Bs) : (quoteB s).length ≤ 4 * s.length + 2 := by
  rw [quote_len]
  have : (s.flatMap quoteOne).length ≤ 4 * s.length := by
    induction s with
    | nil => simp
    | cons c s ih => have := quoteOne_len c; simp only [List.flatMap_cons, List.length_append, List.length_cons]; omega
  omega
theorem skip_quote (r : Bs) : skipB (34 :: r) = 0 := by
  unfold skipB
  have h1 : (34 :: r).takeWhile isBl = [] := by rw [List.takeWhile_cons]; rfl
  rw [h1]
  simp
theorem skip_blank_quote (r : Bs) : skipB (32 :: 34 :: r) = 1 := by
  unfold skipB
  have h1 : (32 :: 34 :: r).takeWhile isBl = [32] := by rw [List.takeWhile_cons, List.takeWhile_cons]; rfl
  rw [h1]
  simp
theorem skip_nil : skipB [] = 0 := rfl
/-- One round: a string's. -/
theorem go_quote (f : Nat) (s r : Bs) (p : Nat) (ts : List Tok) : goT (f + 1) (quoteB s ++ r) p ts = goT f r (p + (quoteB s).length) (ts ++ [⟨5, s, p⟩]) := by
  have h := string_quote s r
  rw [quote_cons] at h ⊢
  rw [goT]
  simp only [skip_quote, List.drop_zero]
  rw [if_neg (by decide), h]
  simp only [Nat.add_zero]
  have : List.drop (quoteB s).length (34 :: (s.flatMap quoteOne ++ 34 :: r)) = r := by rw [← quote_cons, List.drop_left]
  rw [this]
theorem go_blank_quote (f : Nat) (s r : Bs) (p : Nat) (ts : List Tok) : goT (f + 1) (32 :: (quoteB s ++ r)) p ts = goT f r (p + 1 + (quoteB s).length) (ts ++ [⟨5, s, p + 1⟩]) := by
  have h := string_quote s r
  rw [quote_cons] at h ⊢
  rw [goT]
  simp only [skip_blank_quote, List.drop_succ_cons, List.drop_zero]
  rw [if_neg (by decide), h]
  simp only
  have : List.drop (quoteB s).length (34 :: (s.flatMap quoteOne ++ 34 :: r)) = r := by rw [← quote_cons, List.drop_left]
  rw [this]
theorem go_end (f : Nat) (p : Nat) (ts : List Tok) : goT (f + 1) [] p ts = .ok (endLine ts p ++ [⟨7, [], p⟩]) := by
  rw [goT]; rfl
theorem says_two (a b : Bs) (ha : a.length ≤ 7500) (hb : b.length ≤ 7500) : ∃ p q r : Nat, tokensT (quoteB a ++ (32 :: quoteB b)) = .ok [⟨5, a, 0⟩, ⟨5, b, p⟩, ⟨6, [59], q⟩, ⟨7, [], r⟩] := by
  have h1 := quote_le a
  have h2 := quote_le b
  have hl : (quoteB a ++ (32 :: quoteB b)).length = (quoteB a).length + (quoteB b).length + 1 := by simp; omega
  have h3 := quote_len a
  unfold tokensT
  rw [if_neg (by rw [hl]; omega)]
  generalize hf : (quoteB a ++ (32 :: quoteB b)).length = n
  obtain ⟨m, rfl⟩ : ∃ m, n = m + 2 := ⟨n - 2, by omega⟩
  have hb0 : quoteB b = quoteB b ++ [] := by simp
  rw [go_quote, hb0, go_blank_quote, go_end]
  exact ⟨_, _, _, rfl⟩
end ScnT
