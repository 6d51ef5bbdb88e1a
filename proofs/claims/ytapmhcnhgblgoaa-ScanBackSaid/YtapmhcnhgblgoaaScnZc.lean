/- Tokens written anew. -/
import Derived.Test.YtapmhcnhgblgoaaScnZb
import Derived.Laws.IdiomStrings
import Derived.Lib.BufferRead
set_option maxRecDepth 100000
namespace ScnT
open Go Go.RowKit
set_option linter.unusedVariables false
theorem written_snoc (ts : List Tok) (k : Nat) (t : Tok) (h : ts[k]? = some t) : writtenB (ts.take (k + 1)) = writtenB (ts.take k) ++ spell t.kind t.text ++ [32] := by
  unfold writtenB
  rw [List.take_add_one, h]
  simp
theorem spell_le (k : Nat) (t : Bs) : (spell k t).length ≤ 4 * t.length + 2 := by
  unfold spell
  split
  · exact quote_le t
  · split
    · simp; omega
    · omega
theorem written_le (ts : List Tok) (h : ∀ t ∈ ts, t.text.length ≤ 65536) : (writtenB ts).length ≤ ts.length * 262147 := by
  induction ts with
  | nil => simp [writtenB]
  | cons t ts ih =>
    have h1 := ih fun x hx => h x (by simp [hx])
    have h2 := h t (by simp)
    have h3 := spell_le t.kind t.text
    unfold writtenB at h1 ⊢
    simp only [List.flatMap_cons, List.length_append, List.length_cons, List.length_nil]
    omega
/-- Texts are no longer than what they are told of. -/
theorem one_len {l t : Bs} {k n : Nat} (h : oneT l = .ok (k, t, n)) : t.length ≤ l.length := by
  have htw : ∀ p : UInt8 → Bool, (l.takeWhile p).length ≤ l.length := fun p => (List.takeWhile_sublist p).length_le
  have hsay : ∀ (m : Nat) (l t : Bs) (n : Nat), l.length ≤ m → saysB l = some (t, n) → t.length ≤ l.length := by
    intro m
    induction m with
    | zero => intro l t n hl h; obtain rfl : l = [] := List.eq_nil_of_length_eq_zero (by omega); simp [saysB] at h
    | succ m ih =>
      intro l t n hl h
      cases l with
      | nil => simp [saysB] at h
      | cons c r =>
        rw [saysB.eq_def] at h
        simp only [List.length_cons] at hl ⊢
        by_cases h1 : (c == 34) = true
        · simp [h1] at h; obtain ⟨rfl, _⟩ := h; simp
        · simp only [h1, Bool.false_eq_true, if_false] at h
          by_cases h2 : (c == 92) = true
          · simp only [h2, if_true] at h
            cases r with
            | nil => simp at h
            | cons d r1 =>
              simp only [List.length_cons] at hl ⊢
              by_cases h3 : (d == 120) = true
              · simp only [h3, if_true] at h
                rcases r1 with _ | ⟨x, _ | ⟨y, r2⟩⟩
                · simp at h
                · simp at h
                · simp only at h
                  cases e1 : hexB x <;> cases e2 : hexB y <;> cases e3 : saysB r2 <;> simp [e1, e2, e3] at h
                  rename_i v
                  have := ih r2 v.1 v.2 (by simp only [List.length_cons] at hl; omega) e3
                  obtain ⟨rfl, _⟩ := h
                  simp only [List.length_cons]
                  omega
              · simp only [h3, Bool.false_eq_true, if_false] at h
                cases e1 : pairB d <;> cases e3 : saysB r1 <;> simp [e1, e3] at h
                rename_i v
                have := ih r1 v.1 v.2 (by omega) e3
                obtain ⟨rfl, _⟩ := h
                simp only [List.length_cons]
                omega
          · simp only [h2, Bool.false_eq_true, if_false] at h
            by_cases h3 : isPl c = true
            · simp only [h3, if_true] at h
              cases e3 : saysB r <;> simp [e3] at h
              rename_i v
              have := ih r v.1 v.2 (by omega) e3
              obtain ⟨rfl, _⟩ := h
              simp only [List.length_cons]
              omega
            · simp [h3] at h
  have hsg : ∀ m, signT l m = .ok (k, t, n) → t.length ≤ l.length := by
    intro m
    induction m with
    | zero => intro h; cases h
    | succ m ih =>
      intro h
      rw [signT] at h
      split at h
      · cases h
      · split at h
        · simp only [Except.ok.injEq, Prod.mk.injEq] at h
          obtain ⟨_, rfl, _⟩ := h
          rw [List.length_take]; omega
        · exact ih h
  unfold oneT at h
  simp only at h
  split at h
  · unfold nameT at h
    simp only at h
    split at h
    · simp only [Except.ok.injEq, Prod.mk.injEq] at h; obtain ⟨_, rfl, _⟩ := h; exact htw _
    · split at h
      · simp only [Except.ok.injEq, Prod.mk.injEq] at h; obtain ⟨_, rfl, _⟩ := h; exact htw _
      · cases h
  · split at h
    · unfold numberT at h
      simp only at h
      split at h <;>
      · split at h
        · simp only [Except.ok.injEq, Prod.mk.injEq] at h
          obtain ⟨_, rfl, _⟩ := h
          rw [List.length_take]; omega
        · cases h
    · split at h
      · unfold stringT at h
        split at h
        · rename_i tt nn hs
          simp only [Except.ok.injEq, Prod.mk.injEq] at h
          obtain ⟨_, rfl, _⟩ := h
          have := hsay _ _ _ _ (Nat.le_refl _) hs
          rw [List.length_drop] at this
          omega
        · cases h
      · split at h
        · rename_i hc
          unfold dollarT at h
          split at h
          · simp only [Except.ok.injEq, Prod.mk.injEq] at h
            obtain ⟨_, rfl, _⟩ := h
            cases l with
            | nil => exact absurd hc (by decide)
            | cons _ _ => simp
          · simp only at h
            split at h
            · simp only [Except.ok.injEq, Prod.mk.injEq] at h
              obtain ⟨_, rfl, _⟩ := h
              have := (List.takeWhile_sublist isDg (l := l.drop 1)).length_le
              rw [List.length_drop] at this
              omega
            · cases h
        · exact hsg 3 h
theorem go_short : ∀ (f : Nat) (l : Bs) (p : Nat) (ts out : List Tok) (N : Nat), l.length ≤ N → 1 ≤ N → (∀ t ∈ ts, t.text.length ≤ N) → goT f l p ts = .ok out → ∀ t ∈ out, t.text.length ≤ N := by
  intro f
  induction f with
  | zero => intro l p ts out N _ _ _ h; cases h
  | succ f ih =>
    intro l p ts out N hl h1 hts h
    have hend : ∀ q, ∀ t ∈ endLine ts q, t.text.length ≤ N := by
      intro q t ht
      rcases endLine_ways ts q with e | e <;> rw [e] at ht
      · exact hts t ht
      · rcases List.mem_append.1 ht with ht | ht
        · exact hts t ht
        · obtain rfl := List.mem_singleton.1 ht; exact h1
    rw [goT] at h
    have hd : (l.drop (skipB l)).length ≤ l.length := by rw [List.length_drop]; omega
    cases hdr : l.drop (skipB l) with
    | nil =>
      rw [hdr] at h
      simp only [Except.ok.injEq] at h
      subst h
      intro t ht
      rcases List.mem_append.1 ht with ht | ht
      · exact hend _ t ht
      · obtain rfl := List.mem_singleton.1 ht; simp
    | cons c r =>
      rw [hdr] at h hd
      simp only [List.length_cons] at hd
      simp only at h
      split at h
      · exact ih r _ _ out N (by omega) h1 (hend _) h
      · cases ho : oneT (c :: r) with
        | error e => rw [ho] at h; cases h
        | ok x =>
          obtain ⟨k, t, n⟩ := x
          rw [ho] at h
          simp only at h
          have hlen := one_len ho
          simp only [List.length_cons] at hlen
          refine ih _ _ _ out N (by rw [List.length_drop]; simp only [List.length_cons]; omega) h1 (fun y hy => ?_) h
          rcases List.mem_append.1 hy with hy | hy
          · exact hts y hy
          · obtain rfl := List.mem_singleton.1 hy
            show t.length ≤ N
            omega
theorem tokens_short {s : Bs} {out : List Tok} (h : tokensT s = .ok out) : ∀ t ∈ out, t.text.length ≤ 65536 := by
  unfold tokensT at h
  split at h
  · cases h
  · exact go_short _ _ _ _ _ 65536 (by omega) (by omega) (by simp) h
end ScnT
