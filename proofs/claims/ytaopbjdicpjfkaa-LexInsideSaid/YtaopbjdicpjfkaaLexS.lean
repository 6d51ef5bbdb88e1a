/- Actions within one another, side by side. -/
import Derived.Test.YtaopbjdicpjfkaaLexD
set_option maxRecDepth 100000
namespace LexT
set_option linter.unusedVariables false
/-- Is a text, in braces, one action? -/
def oneB (a : Bs) : Bool := match tokensT (123 :: (a ++ [125])) with
  | .ok l => l.length == 2 && (match l[0]? with | some t => t.kind == 9 && t.text == a | none => false)
  | .error _ => false
theorem go_act {f : Nat} {q : Bs} {p : Nat} {ts : List Tok} {m : Nat} (h : actB 1 q = some m) : goT (f + 1) (123 :: q) p ts = goT f (q.drop m) (p + (m + 1)) (ts ++ [⟨9, q.take (m - 1), p⟩]) := by
  have hl := actB_len _ _ _ _ (Nat.le_refl _) h
  have ho : oneT (123 :: q) = .ok (9, q.take (m - 1), m + 1) := by
    rw [one_action (by rfl) (by rfl)]
    unfold actionT
    rw [actB_first, h]
    simp only [Option.map_some]
    have : m + 1 - 1 = (m - 1) + 1 := by omega
    rw [this, List.take_succ_cons]
    rfl
  rw [goT]
  have hs : skipB (123 :: q) = 0 := skip_first (by decide) (by decide) q
  simp only [hs, List.drop_zero, ho, Nat.add_zero, List.drop_succ_cons]
theorem go_prefix : ∀ (f : Nat) (l : Bs) (p : Nat) (ts out : List Tok), goT f l p ts = .ok out → ∃ us, out = ts ++ us ∧ 1 ≤ us.length := by
  intro f
  induction f with
  | zero => intro l p ts out h; cases h
  | succ f ih =>
    intro l p ts out h
    rw [goT] at h
    split at h
    · injection h with h; exact ⟨_, h.symm, by simp⟩
    · split at h
      · cases h
      · obtain ⟨us, h1, h2⟩ := ih _ _ _ _ h
        rw [List.append_assoc] at h1; exact ⟨_, h1, by simp⟩
theorem act_of_one {a : Bs} (h : oneB a = true) : actB 1 (a ++ [125]) = some (a.length + 1) := by
  unfold oneB tokensT at h
  split at h
  · rename_i l hl
    split at hl
    · cases hl
    · cases hm : actB 1 (a ++ [125]) with
      | none =>
        exfalso
        rw [goT] at hl
        have hs : skipB (123 :: (a ++ [125])) = 0 := skip_first (by decide) (by decide) _
        have ho : oneT (123 :: (a ++ [125])) = .error 101 := by
          rw [one_action (by rfl) (by rfl)]
          unfold actionT
          rw [actB_first, hm]
          rfl
        simp only [hs, List.drop_zero, ho] at hl
        cases hl
      | some m =>
        rw [go_act hm] at hl
        obtain ⟨us, rfl, _⟩ := go_prefix _ _ _ _ _ hl
        have hlen := actB_len _ _ _ _ (Nat.le_refl _) hm
        simp only [List.length_append, List.length_cons, List.length_nil] at hlen
        simp only [List.nil_append, List.cons_append, List.getElem?_cons_zero, Bool.and_eq_true, beq_iff_eq] at h
        have := congrArg List.length h.2.2
        rw [List.length_take] at this
        simp only [List.length_append, List.length_cons, List.length_nil] at this
        congr 1
        omega
  · cases h
theorem one_of_act {a : Bs} (h : actB 1 (a ++ [125]) = some (a.length + 1)) (hl : a.length ≤ 60000) : oneB a = true := by
  unfold oneB tokensT
  have hn : ¬ (123 :: (a ++ [125])).length > 65536 := by simp; omega
  rw [if_neg hn, go_act h]
  have e1 : (a ++ [125]).drop (a.length + 1) = [] := List.drop_of_length_le (by simp)
  have e2 : (a ++ [125]).take (a.length + 1 - 1) = a := by simp
  rw [e1, e2]
  have e3 : (123 :: (a ++ [125])).length = a.length + 1 + 1 := by simp
  rw [e3]
  simp [goT, skipB, skipF]
theorem takeWhile_swap (p : UInt8 → Bool) (c d : UInt8) (hc : p c = true) : ∀ (q r z : Bs), (((q ++ c :: r).takeWhile p).length ≤ q.length) → (q ++ z).takeWhile p = (q ++ c :: r).takeWhile p := by
  intro q
  induction q with
  | nil => intro r z h; simp [hc] at h
  | cons x q ih =>
    intro r z h
    rw [List.cons_append, List.cons_append, List.takeWhile_cons, List.takeWhile_cons] at *
    cases hx : p x
    · simp
    · simp only [hx, if_true, List.length_cons] at h ⊢
      rw [ih r z (by omega)]
theorem piece_swap {x c : UInt8} {q r : Bs} {n : Nat} (h : pieceB x (q ++ [125]) = some n) (hn : n ≤ q.length + 1) (hc : c ≠ 47) : pieceB x (q ++ c :: r) = some n := by
  unfold pieceB at h ⊢
  by_cases h1 : (x == 34) = true
  · simp only [h1, if_true] at h ⊢
    cases e : strB (q ++ [125]) <;> simp [e] at h
    subst h
    have := strB_local _ _ _ (Nat.le_refl _) e q.length (c :: r) (by omega)
    rw [List.take_left] at this
    rw [this]; rfl
  · simp only [h1, Bool.false_eq_true, if_false] at h ⊢
    by_cases h2 : (x == 47) = true
    · simp only [h2, if_true] at h ⊢
      cases q with
      | nil =>
        have h47 : (47 == c) = false := by simpa using fun h => hc h.symm
        simp [List.isPrefixOf] at h
        simp [List.isPrefixOf, h47, h]
      | cons d q =>
        have e : ∀ z : Bs, [47].isPrefixOf (d :: q ++ z) = (47 == d) := fun z => by simp [List.isPrefixOf]
        rw [e] at h ⊢
        split at h
        · rename_i hd
          rw [if_pos hd]
          simp only [Option.some.injEq] at h ⊢
          rw [takeWhile_swap notNL 125 0 (by decide) (d :: q) [] (c :: r) (by omega)]
          exact h
        · rename_i hd
          rw [if_neg hd]
          exact h
    · simp only [h2, Bool.false_eq_true, if_false] at h ⊢
      exact h
/-- What is whole goes by, whatever stands behind it but a slash. -/
theorem act_whole : ∀ (j o : Nat) (l : Bs), l.length ≤ j → 1 ≤ o → actB o (l ++ [125]) = some (l.length + 1) → ∀ c r, c ≠ 47 → actB o (l ++ c :: r) = (actB 1 (c :: r)).map (· + l.length) := by
  intro j
  induction j with
  | zero =>
    intro o l hl ho h c r hc
    obtain rfl : l = [] := List.eq_nil_of_length_eq_zero (by omega)
    rw [List.nil_append] at h
    obtain ⟨n, hp, ⟨h0, hn⟩ | ⟨h0, m', h1, h2⟩⟩ := actB_some h
    · obtain ⟨_, rfl⟩ := openB_zero h0 ho
      simp
    · have hn := pieceB_len hp
      have := actB_len _ _ _ _ (Nat.le_refl _) h1
      simp at h2
      omega
  | succ j ih =>
    intro o l hl ho h c r hc
    cases l with
    | nil =>
      exact ih o [] (by simp) ho h c r hc
    | cons x q =>
      simp only [List.length_cons] at hl
      rw [List.cons_append] at h
      obtain ⟨n, hp, ⟨h0, hn⟩ | ⟨h0, m', h1, h2⟩⟩ := actB_some h
      · obtain ⟨rfl, rfl⟩ := openB_zero h0 ho
        simp [pieceB] at hp
        simp only [List.length_cons] at hn
        omega
      · have hm := actB_len _ _ _ _ (Nat.le_refl _) h1
        have hnl := pieceB_len hp
        simp only [List.length_cons] at h2
        have hn : n ≤ q.length + 1 := by omega
        have e1 : (x :: (q ++ [125])).drop n = (x :: q).drop n ++ [125] := by
          rw [← List.cons_append, List.drop_append_of_le_length (by simpa using hn)]
        have e2 : (x :: (q ++ c :: r)).drop n = (x :: q).drop n ++ c :: r := by
          rw [← List.cons_append, List.drop_append_of_le_length (by simpa using hn)]
        have hdl : ((x :: q).drop n).length = q.length + 1 - n := by rw [List.length_drop]; simp
        rw [e1] at h1
        have h3 := ih (openB x o) ((x :: q).drop n) (by omega) (by omega) (by rw [h1]; congr 1; omega) c r hc
        rw [List.cons_append, actB_cons, piece_swap hp hn hc]
        simp only [if_neg h0, e2, h3, Option.map_map]
        congr 1
        funext y
        simp only [Function.comp, List.length_cons]
        omega
theorem act_inner {b r : Bs} (hb : actB 1 (b ++ [125]) = some (b.length + 1)) : actB 1 (123 :: (b ++ 125 :: r)) = (actB 1 r).map (· + (b.length + 2)) := by
  have h := actB_shift _ 1 (b ++ [125]) (b.length + 1) (Nat.le_refl _) (by decide) hb 1 r
  have e : (b ++ [125]).take (b.length + 1) ++ r = b ++ 125 :: r := by
    rw [List.take_of_length_le (by simp)]; simp
  rw [e, if_neg (by decide)] at h
  rw [actB_cons]
  have e1 : pieceB 123 (b ++ 125 :: r) = some 1 := rfl
  have e2 : openB 123 1 = 2 := rfl
  simp only [e1, e2, List.drop_succ_cons, List.drop_zero]
  rw [if_neg (by decide), h, Option.map_map]
  congr 1
theorem act_end : actB 1 [125] = some 1 := rfl
theorem within_one {a b : Bs} (ha : oneB a = true) (hb : oneB b = true) (hal : a.length ≤ 10000) (hbl : b.length ≤ 10000) : oneB (a ++ 123 :: (b ++ [125])) = true := by
  have h1 := act_of_one ha
  have h2 := act_of_one hb
  refine one_of_act ?_ (by simp; omega)
  have e : a ++ 123 :: (b ++ [125]) ++ [125] = a ++ 123 :: (b ++ 125 :: [125]) := by simp
  rw [e, act_whole _ 1 a (Nat.le_refl _) (by decide) h1 123 _ (by decide), act_inner h2, act_end]
  simp
  omega
theorem within_two {a b : Bs} (ha : oneB a = true) (hb : oneB b = true) (hal : a.length ≤ 10000) (hbl : b.length ≤ 10000) : oneB (123 :: (a ++ 125 :: 10 :: 123 :: (b ++ [125]))) = true := by
  have h1 := act_of_one ha
  have h2 := act_of_one hb
  refine one_of_act ?_ (by simp; omega)
  have e : 123 :: (a ++ 125 :: 10 :: 123 :: (b ++ [125])) ++ [125] = 123 :: (a ++ 125 :: 10 :: 123 :: (b ++ 125 :: [125])) := by simp
  have e10 : ∀ r, actB 1 (10 :: r) = (actB 1 r).map (· + 1) := fun r => by
    rw [actB_cons]
    have e1 : pieceB 10 r = some 1 := rfl
    have e2 : openB 10 1 = 1 := rfl
    simp only [e1, e2, List.drop_succ_cons, List.drop_zero]
    rw [if_neg (by decide)]
  rw [e, act_inner h1, e10, act_inner h2, act_end]
  simp
  omega
theorem side_by {a b : Bs} (ha : oneB a = true) (hb : oneB b = true) (hal : a.length ≤ 10000) (hbl : b.length ≤ 10000) :
    ∃ p2 p3 p4, tokensT (120 :: 32 :: 123 :: (a ++ 125 :: 123 :: (b ++ [125, 32, 121]))) = .ok [⟨2, [120], 0⟩, ⟨9, a, 2⟩, ⟨9, b, p2⟩, ⟨2, [121], p3⟩, ⟨7, [], p4⟩] := by
  have h1 := act_of_one ha
  have h2 := act_of_one hb
  have hloc : ∀ (x r : Bs), actB 1 (x ++ [125]) = some (x.length + 1) → actB 1 (x ++ 125 :: r) = some (x.length + 1) := fun x r h => by
    have h3 := actB_shift _ 1 (x ++ [125]) (x.length + 1) (Nat.le_refl _) (by decide) h 0 r
    have e : (x ++ [125]).take (x.length + 1) ++ r = x ++ 125 :: r := by rw [List.take_of_length_le (by simp)]; simp
    rw [e, if_pos rfl] at h3
    exact h3
  have hd : ∀ (x r : Bs), (x ++ 125 :: r).drop (x.length + 1) = r := fun x r => by
    have : x ++ 125 :: r = (x ++ [125]) ++ r := by simp
    rw [this]
    have e : x.length + 1 = (x ++ [125]).length := by simp
    rw [e, List.drop_left]
  have ht : ∀ (x r : Bs), (x ++ 125 :: r).take (x.length + 1 - 1) = x := fun x r => by simp
  have hlen : (120 :: 32 :: 123 :: (a ++ 125 :: 123 :: (b ++ [125, 32, 121]))).length = a.length + b.length + 8 := by simp; omega
  unfold tokensT
  rw [if_neg (by rw [hlen]; omega), hlen]
  have ex : ∀ (f p : Nat) (r : Bs) (ts : List Tok), goT (f + 1) (120 :: 32 :: 123 :: r) p ts = goT f (32 :: 123 :: r) (p + 1) (ts ++ [⟨2, [120], p⟩]) := fun f p r ts => by
    rw [goT]
    have hs : skipB (120 :: 32 :: 123 :: r) = 0 := skip_first (by decide) (by decide) _
    have ho : oneT (120 :: 32 :: 123 :: r) = .ok (2, [120], 1) := rfl
    simp only [hs, List.drop_zero, ho, Nat.add_zero, List.drop_succ_cons]
  have eb : ∀ (f p : Nat) (r : Bs) (ts : List Tok), goT (f + 1) (32 :: 123 :: r) p ts = goT (f + 1) (123 :: r) (p + 1) ts := fun f p r ts => by
    rw [goT, goT]
    have hs : skipB (32 :: 123 :: r) = 1 := skip_blank (by decide) (by decide) _
    have hs2 : skipB (123 :: r) = 0 := skip_first (by decide) (by decide) _
    simp only [hs, hs2, List.drop_zero, Nat.add_zero, List.drop_succ_cons]
  have ee : ∀ (f p : Nat) (ts : List Tok), goT (f + 2) [32, 121] p ts = .ok (ts ++ [⟨2, [121], p + 1⟩] ++ [⟨7, [], p + 1 + 1⟩]) := fun f p ts => by
    rw [goT]
    have hs : skipB [32, 121] = 1 := rfl
    have ho : oneT [121] = .ok (2, [121], 1) := rfl
    simp only [hs, List.drop_succ_cons, List.drop_zero, ho]
    rw [goT]
    rfl
  have hf : a.length + b.length + 8 + 1 = (a.length + b.length + 4) + 2 + 1 + 1 + 1 := by omega
  rw [hf, ex, eb, go_act (hloc a _ h1), hd, ht, go_act (hloc b _ h2), hd, ht, ee]
  exact ⟨_, _, _, rfl⟩
end LexT
