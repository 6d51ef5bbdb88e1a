/- The stage's theorem of tokens, as mathematics; actions within actions. -/
import Derived.Test.YtngimijiafnheaaGreatLexC
set_option maxRecDepth 100000
namespace LexT
set_option linter.unusedVariables false
/-- Each token stands at its place in the source, behind the one ahead of it. -/
def Lies (s : Bs) : Nat → List Tok → Prop
  | _, [] => True
  | b, t :: ts => b ≤ t.place ∧ t.place + (spell t.kind t.text).length ≤ s.length ∧ (s.drop t.place).take (spell t.kind t.text).length = spell t.kind t.text ∧ Lies s (t.place + (spell t.kind t.text).length) ts
theorem go_keeps : ∀ (f : Nat) (s : Bs) (p : Nat) (ts : List Tok), s.length - p < f → p ≤ s.length →
    match goT f (s.drop p) p ts with
    | .ok out => ∃ us, out = ts ++ (us ++ [⟨7, [], s.length⟩]) ∧ Lies s p us ∧ ∀ t ∈ us, Good t.kind t.text ∧ t.text.length ≤ s.length
    | .error (e, q) => (e = 100 ∨ e = 101) ∧ p ≤ q ∧ q < s.length := by
  intro f
  induction f with
  | zero => intro s p ts h; omega
  | succ f ih =>
    intro s p ts hl hp
    rw [goT]
    have hs := skip_le (s.drop p)
    rw [List.length_drop] at hs
    generalize skipB (s.drop p) = k at *
    simp only [List.drop_drop]
    cases hd : s.drop (p + k) with
    | nil =>
      have := congrArg List.length hd
      rw [List.length_drop] at this
      simp only [List.length_nil] at this
      have e : p + k = s.length := by omega
      simp only [e]
      exact ⟨[], rfl, trivial, by simp⟩
    | cons c r =>
      have hlen := congrArg List.length hd
      rw [List.length_drop] at hlen
      simp only [List.length_cons] at hlen
      simp only
      cases ho : oneT (c :: r) with
      | error e => exact ⟨one_err ho, Nat.le_add_right _ _, by omega⟩
      | ok x =>
        obtain ⟨kd, t, n⟩ := x
        have T := told_one ho
        have hspl := T.spl
        have hle := T.le
        simp only [List.length_cons] at hle
        have hpos := T.pos
        have e : (c :: r).drop n = s.drop (p + k + n) := by rw [← hd, List.drop_drop]
        simp only [e]
        have := ih s (p + k + n) (ts ++ [⟨kd, t, p + k⟩]) (by omega) (by omega)
        revert this
        cases goT f (s.drop (p + k + n)) (p + k + n) (ts ++ [⟨kd, t, p + k⟩]) with
        | ok out =>
          rintro ⟨us, rfl, h1, h2⟩
          refine ⟨⟨kd, t, p + k⟩ :: us, by simp, ⟨Nat.le_add_right _ _, by show p + k + (spell kd t).length ≤ _; omega, ?_, ?_⟩, fun y hy => ?_⟩
          · show (s.drop (p + k)).take (spell kd t).length = spell kd t
            rw [hd, hspl, T.sp]
          · show Lies s (p + k + (spell kd t).length) us
            rw [hspl]; exact h1
          · rcases List.mem_cons.1 hy with rfl | hy
            · exact ⟨T.good, by have := T.tl; show t.length ≤ _; omega⟩
            · exact h2 y hy
        | error x =>
          rintro ⟨h1, h2, h3⟩
          exact ⟨h1, by omega, h3⟩
/-- Tokens written, one blank behind each. -/
def writtenB (ts : List Tok) : Bs := ts.flatMap fun t => spell t.kind t.text ++ [32]
def alikeB (a b : List Tok) : Prop := a.map (fun t => (t.kind, t.text)) = b.map fun t => (t.kind, t.text)
theorem go_written : ∀ (us : List Tok) (f : Nat) (b : Bs) (p : Nat) (vs : List Tok), (b = [] ∨ b = [32]) → (∀ t ∈ us, Good t.kind t.text) → us.length < f →
    ∃ out e, goT f (b ++ writtenB us) p vs = .ok (vs ++ (out ++ [⟨7, [], e⟩])) ∧ alikeB us out := by
  intro us
  induction us with
  | nil =>
    intro f b p vs hb hg hf
    obtain ⟨f, rfl⟩ : ∃ m, f = m + 1 := ⟨f - 1, by simp at hf; omega⟩
    have hs : b.drop (skipB b) = [] := by rcases hb with rfl | rfl <;> rfl
    have hw : b ++ writtenB [] = b := by simp [writtenB]
    rw [hw, goT]
    simp only [hs]
    exact ⟨[], p + skipB b, rfl, rfl⟩
  | cons t us ih =>
    intro f b p vs hb hg hf
    obtain ⟨f, rfl⟩ : ∃ m, f = m + 1 := ⟨f - 1, by simp at hf; omega⟩
    have g := hg t (by simp)
    have hw : writtenB (t :: us) = spell t.kind t.text ++ 32 :: writtenB us := by simp [writtenB]
    have hk : ∃ k, skipB (b ++ writtenB (t :: us)) = k ∧ (b ++ writtenB (t :: us)).drop k = spell t.kind t.text ++ 32 :: writtenB us := by
      rw [hw]
      rcases hb with rfl | rfl
      · exact ⟨0, g.skip _, rfl⟩
      · exact ⟨1, g.blank _, rfl⟩
    obtain ⟨k, hk1, hk2⟩ := hk
    rw [goT]
    simp only [hk1, hk2]
    obtain ⟨c, q, hcq⟩ : ∃ c q, spell t.kind t.text ++ 32 :: writtenB us = c :: q := by
      cases e : spell t.kind t.text with
      | nil => have := g.pos; rw [e] at this; simp at this
      | cons c q => exact ⟨c, _, rfl⟩
    have h1 := g.one (writtenB us)
    have hdrop : (c :: q).drop (spell t.kind t.text).length = [32] ++ writtenB us := by rw [← hcq, List.drop_left]; rfl
    rw [hcq] at h1 ⊢
    simp only [h1, hdrop]
    obtain ⟨out, e, h2, h3⟩ := ih f [32] (p + k + (spell t.kind t.text).length) (vs ++ [⟨t.kind, t.text, p + k⟩]) (.inr rfl) (fun x hx => hg x (by simp [hx])) (by simp at hf; omega)
    refine ⟨⟨t.kind, t.text, p + k⟩ :: out, e, by rw [h2]; simp, ?_⟩
    unfold alikeB at h3 ⊢
    simp [h3]
theorem writtenB_len (us : List Tok) (hg : ∀ t ∈ us, Good t.kind t.text) : us.length ≤ (writtenB us).length := by
  induction us with
  | nil => simp
  | cons t us ih =>
    have := ih fun x hx => hg x (by simp [hx])
    have h1 := (hg t (by simp)).pos
    unfold writtenB at this ⊢
    simp only [List.flatMap_cons, List.length_append, List.length_cons]
    omega
/-- The whole. -/
theorem back (s : Bs) : match tokensT s with
    | .error (e, q) => e ≠ 0 ∧ e < 256 ∧ (q < s.length ∨ 65536 < s.length)
    | .ok out => ∃ us : List Tok, out = us ++ [⟨7, [], s.length⟩] ∧ Lies s 0 us ∧ (∀ t ∈ us, (t.kind = 1 ∨ t.kind = 2 ∨ t.kind = 6 ∨ t.kind = 9) ∧ t.text.length ≤ s.length) ∧ s.length ≤ 65536 ∧
        ((writtenB us).length ≤ 65536 → ∃ m e, tokensT (writtenB us) = .ok (m ++ [⟨7, [], e⟩]) ∧ alikeB us m) := by
  unfold tokensT
  by_cases hl : s.length > 65536
  · rw [if_pos hl]
    exact ⟨by decide, by decide, .inr hl⟩
  · rw [if_neg hl]
    have h := go_keeps (s.length + 1) s 0 [] (by omega) (by omega)
    rw [List.drop_zero] at h
    revert h
    cases goT (s.length + 1) s 0 [] with
    | error x =>
      rintro ⟨h1, h2, h3⟩
      exact ⟨by omega, by omega, .inl h3⟩
    | ok out =>
      rintro ⟨us, rfl, h1, h2⟩
      refine ⟨us, rfl, h1, fun t ht => ⟨(h2 t ht).1.kind, (h2 t ht).2⟩, by omega, fun hw => ?_⟩
      rw [if_neg (by omega)]
      have hg : ∀ t ∈ us, Good t.kind t.text := fun t ht => (h2 t ht).1
      have hlen := writtenB_len us hg
      obtain ⟨m, e, h3, h4⟩ := go_written us ((writtenB us).length + 1) [] 0 [] (.inl rfl) hg (by omega)
      exact ⟨m, e, h3, h4⟩
end LexT
