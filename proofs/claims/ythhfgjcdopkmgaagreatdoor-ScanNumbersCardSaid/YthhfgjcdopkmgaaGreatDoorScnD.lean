/- The stage's theorem of tokens: places rise, the last one is the end, written anew they are told as they were. -/
import Derived.Test.YthhfgjcdopkmgaaGreatDoorScnC
set_option maxRecDepth 100000
namespace ScnT
set_option linter.unusedVariables false
/-- All of them are told again; places rise, below p. -/
structure Keeps (ts : List Tok) (p : Nat) : Prop where
  good : ∀ t ∈ ts, Good t.kind t.text ∧ t.kind ≠ 7
  rise : ts.Pairwise fun a b => a.place < b.place
  below : ∀ t ∈ ts, t.place < p
theorem semi_good : Good 6 [59] := sign_good _ (by decide)
theorem Keeps.nil : Keeps [] 0 := ⟨by simp, .nil, by simp⟩
theorem Keeps.more {ts : List Tok} {p q : Nat} (h : Keeps ts p) (hq : p ≤ q) : Keeps ts q := ⟨h.good, h.rise, fun t ht => Nat.lt_of_lt_of_le (h.below t ht) hq⟩
theorem Keeps.put {ts : List Tok} {p q : Nat} {k : Nat} {t : Bs} {r : Nat} (h : Keeps ts p) (hg : Good k t) (hk : k ≠ 7) (hq : p ≤ q) (hr : q < r) : Keeps (ts ++ [⟨k, t, q⟩]) r := by
  refine ⟨fun x hx => ?_, ?_, fun x hx => ?_⟩
  · rcases List.mem_append.1 hx with hx | hx
    · exact h.good x hx
    · obtain rfl := List.mem_singleton.1 hx; exact ⟨hg, hk⟩
  · rw [List.pairwise_append]
    refine ⟨h.rise, List.pairwise_singleton _ _, fun a ha b hb => ?_⟩
    obtain rfl := List.mem_singleton.1 hb
    have := h.below a ha
    show a.place < q
    omega
  · rcases List.mem_append.1 hx with hx | hx
    · have := h.below x hx; omega
    · obtain rfl := List.mem_singleton.1 hx; exact hr
theorem endLine_ways (ts : List Tok) (p : Nat) : endLine ts p = ts ∨ endLine ts p = ts ++ [⟨6, [59], p⟩] := by
  unfold endLine
  split
  · split
    · exact .inr rfl
    · exact .inl rfl
  · exact .inl rfl
theorem Keeps.line {ts : List Tok} {p q r : Nat} (h : Keeps ts p) (hq : p ≤ q) (hr : q < r) : Keeps (endLine ts q) r := by
  rcases endLine_ways ts q with e | e <;> rw [e]
  · exact h.more (by omega)
  · exact h.put semi_good (by decide) hq hr
/-- Behind a line's end nothing stands that a line may end with. -/
theorem endLine_last (ts : List Tok) (p q : Nat) : endLine (endLine ts p) q = endLine ts p := by
  unfold endLine
  cases h : ts.getLast? with
  | none => simp [h]
  | some t =>
    simp only
    by_cases hm : mayEnd t = true
    · simp only [hm, if_true, List.getLast?_append, List.getLast?_singleton, Option.some_or]
      have : mayEnd ⟨6, [59], p⟩ = false := rfl
      simp [this]
    · simp [hm, h]
theorem skip_le (l : Bs) : skipB l ≤ l.length := by
  unfold skipB
  have h1 := (List.takeWhile_sublist isBl (l := l)).length_le
  simp only
  split
  · have h2 := (List.takeWhile_sublist (· != 10) (l := l.drop (l.takeWhile isBl).length)).length_le
    rw [List.length_drop] at h2
    omega
  · exact h1
theorem go_keeps : ∀ (f : Nat) (l : Bs) (p : Nat) (ts : List Tok), l.length < f → Keeps ts p →
    match goT f l p ts with
    | .ok out => ∃ (us : List Tok) (q : Nat), q = p + l.length ∧ out = endLine us q ++ [⟨7, [], q⟩] ∧ Keeps us q ∧ Keeps (endLine us q) (q + 1)
    | .error (e, q) => e ≠ 0 ∧ e < 256 ∧ p ≤ q ∧ q < p + l.length := by
  intro f
  induction f with
  | zero => intro l p ts hl; omega
  | succ f ih =>
    intro l p ts hl hk
    rw [goT]
    have hs := skip_le l
    have hld : (l.drop (skipB l)).length = l.length - skipB l := List.length_drop
    cases hd : l.drop (skipB l) with
    | nil =>
      rw [hd] at hld
      simp only [List.length_nil] at hld
      have e : p + skipB l = p + l.length := by omega
      simp only [e]
      exact ⟨ts, _, rfl, rfl, hk.more (by omega), hk.line (by omega) (by omega)⟩
    | cons c r =>
      rw [hd] at hld
      simp only [List.length_cons] at hld
      simp only
      by_cases hc : (c == 10) = true
      · rw [if_pos hc]
        have := ih r (p + skipB l + 1) (endLine ts (p + skipB l)) (by omega) (hk.line (by omega) (by omega))
        revert this
        cases goT f r (p + skipB l + 1) (endLine ts (p + skipB l)) with
        | ok out =>
          rintro ⟨us, q, h1, h2⟩
          exact ⟨us, q, by omega, h2⟩
        | error x =>
          rintro ⟨h1, h2, h3, h4⟩
          exact ⟨h1, h2, by omega, by omega⟩
      · rw [if_neg hc]
        cases ho : oneT (c :: r) with
        | error e =>
          refine ⟨?_, ?_, Nat.le_add_right _ _, by omega⟩ <;>
          · have key : ∀ m, ∀ e', signT (c :: r) m = .error e' → e' = 100 ∨ e' = 101 := by
              intro m
              induction m with
              | zero => intro e' h; injection h with h; exact .inl h.symm
              | succ m ih2 =>
                intro e' h
                rw [signT] at h
                split at h
                · injection h with h; exact .inr h.symm
                · split at h
                  · cases h
                  · exact ih2 e' h
            have he : e = 100 ∨ e = 101 := by
              unfold oneT at ho
              simp only at ho
              split at ho
              · unfold nameT at ho
                simp only at ho
                split at ho
                · cases ho
                · split at ho
                  · cases ho
                  · injection ho with ho; exact .inr ho.symm
              · split at ho
                · unfold numberT at ho
                  simp only at ho
                  split at ho <;>
                  · split at ho
                    · cases ho
                    · injection ho with ho; exact .inr ho.symm
                · split at ho
                  · unfold stringT at ho
                    split at ho
                    · cases ho
                    · injection ho with ho; exact .inr ho.symm
                  · split at ho
                    · unfold dollarT at ho
                      simp only at ho
                      split at ho
                      · cases ho
                      · split at ho
                        · cases ho
                        · injection ho with ho; exact .inr ho.symm
                    · exact key _ _ ho
            omega
        | ok x =>
          obtain ⟨k, t, n⟩ := x
          obtain ⟨g1, g2, g3, g4⟩ := good_one ho
          simp only [List.length_cons] at g3
          have hl2 : ((c :: r).drop n).length = r.length + 1 - n := by rw [List.length_drop]; simp
          have := ih ((c :: r).drop n) (p + skipB l + n) (ts ++ [⟨k, t, p + skipB l⟩]) (by omega) (hk.put g1 (by omega) (by omega) (by omega))
          revert this
          simp only
          cases goT f ((c :: r).drop n) (p + skipB l + n) (ts ++ [⟨k, t, p + skipB l⟩]) with
          | ok out =>
            rintro ⟨us, q, h1, h2⟩
            exact ⟨us, q, by omega, h2⟩
          | error x =>
            rintro ⟨h1, h2, h3, h4⟩
            exact ⟨h1, h2, by omega, by omega⟩
/-- Tokens written, one blank behind each. -/
def writtenB (ts : List Tok) : Bs := ts.flatMap fun t => spell t.kind t.text ++ [32]
def alikeB (a b : List Tok) : Prop := a.map (fun t => (t.kind, t.text)) = b.map fun t => (t.kind, t.text)
theorem spell_pos {t : Tok} (h : Good t.kind t.text) : 1 ≤ (spell t.kind t.text).length := by
  obtain ⟨_, ⟨c, q, hc, _⟩, _⟩ := h []
  rw [hc]; simp
theorem endLine_alike (a b : List Tok) (h : alikeB a b) (p : Nat) (he : endLine a p = a) (q : Nat) : endLine b q = b := by
  unfold endLine at he ⊢
  unfold alikeB at h
  cases hb : b.getLast? with
  | none => rfl
  | some u =>
    simp only
    cases ha : a.getLast? with
    | none =>
      rw [List.getLast?_eq_none_iff] at ha
      subst ha
      simp at h
      subst h
      simp at hb
    | some t =>
      rw [ha] at he
      simp only at he
      have hm : mayEnd t = false := by
        cases hm : mayEnd t with
        | false => rfl
        | true => rw [hm] at he; simp at he
      have e : some (t.kind, t.text) = some (u.kind, u.text) := by
        have h1 : (a.map fun t => (t.kind, t.text)).getLast? = some (t.kind, t.text) := by simp [ha]
        have h2 : (b.map fun t => (t.kind, t.text)).getLast? = some (u.kind, u.text) := by simp [hb]
        rw [← h1, ← h2, h]
      simp only [Option.some.injEq, Prod.mk.injEq] at e
      have : mayEnd u = mayEnd t := by unfold mayEnd; rw [e.1, e.2]
      rw [this, hm]
      rfl
theorem go_written : ∀ (us : List Tok) (f : Nat) (b : Bs) (p : Nat) (ts vs : List Tok), (b = [] ∨ b = [32]) → (∀ t ∈ us, Good t.kind t.text ∧ t.kind ≠ 7) → us.length < f → alikeB ts vs →
    (∀ q, endLine (ts ++ us) q = ts ++ us) → ∃ out e, goT f (b ++ writtenB us) p vs = .ok (out ++ [⟨7, [], e⟩]) ∧ alikeB (ts ++ us) out := by
  intro us
  induction us with
  | nil =>
    intro f b p ts vs hb hg hf ha he
    obtain ⟨f, rfl⟩ : ∃ m, f = m + 1 := ⟨f - 1, by simp at hf; omega⟩
    have hs : b.drop (skipB b) = [] := by rcases hb with rfl | rfl <;> rfl
    have hw : b ++ writtenB [] = b := by simp [writtenB]
    rw [hw, goT]
    simp only [hs]
    refine ⟨_, _, rfl, ?_⟩
    rw [List.append_nil] at he ⊢
    rw [endLine_alike ts vs ha 0 (he 0)]
    exact ha
  | cons t us ih =>
    intro f b p ts vs hb hg hf ha he
    obtain ⟨f, rfl⟩ : ∃ m, f = m + 1 := ⟨f - 1, by simp at hf; omega⟩
    obtain ⟨g, gk⟩ := hg t (by simp)
    obtain ⟨s1, ⟨c, q, s2, s3⟩, s4⟩ := g (writtenB us)
    have hw : writtenB (t :: us) = spell t.kind t.text ++ 32 :: writtenB us := by simp [writtenB]
    have hk : ∃ k, skipB (b ++ writtenB (t :: us)) = k ∧ (b ++ writtenB (t :: us)).drop k = spell t.kind t.text ++ 32 :: writtenB us := by
      rw [hw]
      rcases hb with rfl | rfl
      · exact ⟨0, s1, rfl⟩
      · refine ⟨1, ?_, rfl⟩
        generalize hz : spell t.kind t.text ++ 32 :: writtenB us = z at s1
        show skipB (32 :: z) = 1
        unfold skipB at s1 ⊢
        have : (32 :: z).takeWhile isBl = 32 :: z.takeWhile isBl := by rw [List.takeWhile_cons]; rfl
        rw [this]
        simp only [List.length_cons, List.drop_succ_cons] at s1 ⊢
        split at s1
        · rename_i hif
          rw [if_pos hif]
          omega
        · rename_i hif
          rw [if_neg hif]
          omega
    obtain ⟨k, hk1, hk2⟩ := hk
    rw [goT]
    simp only [hk1, hk2]
    have hcons : spell t.kind t.text ++ 32 :: writtenB us = c :: (q ++ 32 :: writtenB us) := by rw [s2]; rfl
    have hdrop : (c :: (q ++ 32 :: writtenB us)).drop (spell t.kind t.text).length = [32] ++ writtenB us := by rw [← hcons, List.drop_left]; rfl
    rw [hcons] at s4 ⊢
    simp only
    rw [if_neg (by simpa using s3), s4]
    simp only [hdrop]
    have := ih f [32] (p + k + (spell t.kind t.text).length) (ts ++ [t]) (vs ++ [⟨t.kind, t.text, p + k⟩]) (.inr rfl) (fun x hx => hg x (by simp [hx])) (by simp at hf; omega) (by unfold alikeB at ha ⊢; simp [ha]) (fun q => by rw [List.append_assoc]; exact he q)
    rw [List.append_assoc] at this
    exact this
theorem writtenB_len (us : List Tok) (hg : ∀ t ∈ us, Good t.kind t.text ∧ t.kind ≠ 7) : us.length ≤ (writtenB us).length := by
  induction us with
  | nil => simp
  | cons t us ih =>
    have := ih fun x hx => hg x (by simp [hx])
    have h1 := spell_pos (hg t (by simp)).1
    unfold writtenB at this ⊢
    simp only [List.flatMap_cons, List.length_append, List.length_cons]
    omega
/-- The whole. -/
theorem back (s : Bs) : match tokensT s with
    | .error (e, q) => e ≠ 0 ∧ e < 256 ∧ (q < s.length ∨ 65536 < s.length)
    | .ok out => ∃ us : List Tok, out = us ++ [⟨7, [], s.length⟩] ∧ us.Pairwise (fun a b => a.place < b.place) ∧ (∀ t ∈ us, t.place ≤ s.length ∧ t.kind ≠ 7) ∧
        ((writtenB us).length ≤ 65536 → ∃ m e, tokensT (writtenB us) = .ok (m ++ [⟨7, [], e⟩]) ∧ alikeB us m) := by
  unfold tokensT
  by_cases hl : s.length > 65536
  · rw [if_pos hl]
    exact ⟨by decide, by decide, .inr hl⟩
  · rw [if_neg hl]
    have h := go_keeps (s.length + 1) s 0 [] (by omega) .nil
    revert h
    cases goT (s.length + 1) s 0 [] with
    | error x =>
      rintro ⟨h1, h2, h3, h4⟩
      exact ⟨h1, h2, .inl (by omega)⟩
    | ok out =>
      rintro ⟨us, q, hq, rfl, hk1, hk⟩
      have hq' : q = s.length := by omega
      subst hq'
      refine ⟨_, rfl, hk.rise, fun t ht => ⟨by have := hk.below t ht; omega, (hk.good t ht).2⟩, fun hw => ?_⟩
      rw [if_neg (by omega)]
      have hlen := writtenB_len _ hk.good
      obtain ⟨m, e, h1, h2⟩ := go_written (endLine us s.length) ((writtenB (endLine us s.length)).length + 1) [] 0 [] [] (.inl rfl) hk.good (by omega) rfl (fun q => by rw [List.nil_append]; exact endLine_last _ _ _)
      exact ⟨m, e, h1, by simpa using h2⟩
end ScnT
