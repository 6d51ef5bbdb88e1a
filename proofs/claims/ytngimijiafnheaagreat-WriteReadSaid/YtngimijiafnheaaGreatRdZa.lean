/- What is told is no longer than the tokens. -/
/- More fuel tells the same. -/
/- The law's own small questions. -/
import Derived.Test.YtngimijiafnheaaGreatRdY
set_option maxRecDepth 100000
namespace LexT
set_option linter.unusedVariables false
set_option linter.unusedSimpArgs false
theorem bnd_ok {α β : Type} {x : Pa α} {g : α → List Tok → Pa β} {r : β × List Tok} (h : bnd x g = some (.ok r)) : ∃ a l, x = some (.ok (a, l)) ∧ g a l = some (.ok r) := by
  unfold bnd at h
  split at h
  · cases h
  · cases h
  · exact ⟨_, _, rfl, h⟩
theorem need_len {xs : List Bs} {l l' : List Tok} {t : Tok} (h : needF xs l = .ok (t, l')) : l'.length + 1 = l.length := by
  unfold needF at h
  cases l with
  | nil => cases h
  | cons u r =>
    simp only at h
    split at h
    · injection h with h; injection h with h1 h2; subst h2; rfl
    · cases h
theorem name_len {l l' : List Tok} {t : Tok} (h : nameF l = .ok (t, l')) : l'.length + 1 = l.length := by
  unfold nameF at h
  cases l with
  | nil => cases h
  | cons u r =>
    simp only at h
    split at h
    · injection h with h; injection h with h1 h2; subst h2; rfl
    · cases h
theorem at_len {xs : List Bs} {l : List Tok} (h : atB xs l = true) : l.tail.length + 1 = l.length := by
  cases l with
  | nil => cases h
  | cons t r => rfl
/-- One thing or more, of which each counts, and takes as many tokens. -/
theorem some_len {β : Type} {one : β → List Tok → Pa β} {sep : Bs} (c : β → Nat) (d : Nat) (hone : ∀ x l x' l', one x l = some (.ok (x', l')) → c x' + l'.length ≤ c x + l.length + d) (hd : d ≤ 1) :
    ∀ (f : Nat) (x : β) (l : List Tok) (x' : β) (l' : List Tok), someF one sep f x l = some (.ok (x', l')) → c x' + l'.length ≤ c x + l.length + d
  | 0, x, l, x', l', h => by cases h
  | f + 1, x, l, x', l', h => by
    obtain ⟨y, m, h1, h2⟩ := bnd_ok (show bnd (one x l) _ = _ from h)
    have a1 := hone _ _ _ _ h1
    by_cases ha : atB [sep] m = true
    · rw [if_pos ha] at h2
      have := at_len ha
      have := some_len c d hone hd f y m.tail x' l' h2
      omega
    · rw [if_neg ha] at h2
      injection h2 with h2; injection h2 with h2; injection h2 with e1 e2
      subst e1 e2
      exact a1
theorem given_len {β : Type} {one : β → List Tok → Pa β} (c : β → Nat) (hone : ∀ x l x' l', one x l = some (.ok (x', l')) → c x' + l'.length ≤ c x + l.length) (f : Nat) (x : β) (l : List Tok) (x' : β) (l' : List Tok) (h : givenF one f x l = some (.ok (x', l'))) : c x' + l'.length ≤ c x + l.length := by
  unfold givenF at h
  split at h
  · rename_i ha
    obtain ⟨y, m, h1, h2⟩ := bnd_ok h
    obtain ⟨t, m2, h3, h4⟩ := bnd_ok h2
    injection h3 with h3
    have := need_len h3
    have := at_len ha
    have := some_len c 0 (fun x l x' l' h => by have := hone x l x' l' h; omega) (by omega) _ _ _ _ _ h1
    injection h4 with h4; injection h4 with h4; injection h4 with e1 e2
    subst e1 e2
    omega
  · injection h with h; injection h with h; injection h with e1 e2
    subst e1 e2
    omega
theorem wdsYtngimijiafnheaaGreatappend : ∀ a b : List Wd, wdsN (a ++ b) = wdsN a + wdsN b
  | [], b => by simp [wdsN]
  | x :: a, b => by simp [wdsN, wdsYtngimijiafnheaaGreatappend a b]; omega
theorem word_len : ∀ (f k : Nat) (l : List Tok) (x : Wd) (l' : List Tok), wordF f k l = some (.ok (x, l')) → wdN x + l'.length ≤ l.length
  | 0, k, l, x, l', h => by cases h
  | f + 1, k, l, x, l', h => by
    obtain ⟨t, m, h1, h2⟩ := bnd_ok (show bnd (some (nameF l)) _ = _ from h)
    injection h1 with h1
    have a1 := name_len h1
    split at h2
    · cases h2
    · obtain ⟨ws, m2, h3, h4⟩ := bnd_ok h2
      have a3 := given_len wdsN (fun ws l ws' l' h => by
        obtain ⟨y, m, h5, h6⟩ := bnd_ok h
        have := word_len f (k + 1) l y m h5
        injection h6 with h6; injection h6 with h6; injection h6 with e1 e2
        subst e1 e2
        rw [wdsYtngimijiafnheaaGreatappend]
        simp [wdsN]
        omega) _ _ _ _ _ h3
      injection h4 with h4; injection h4 with h4; injection h4 with e1 e2
      subst e1 e2
      simp only [wdN, wdsN] at *
      omega
theorem words_len (N : Nat) : ∀ (f : Nat) (ws : List Wd) (l : List Tok) (ws' : List Wd) (l' : List Tok), wordsF N f ws l = some (.ok (ws', l')) → wdsN ws' + l'.length ≤ wdsN ws + l.length
  | 0, ws, l, ws', l', h => by cases h
  | f + 1, ws, l, ws', l', h => by
    unfold wordsF at h
    split at h
    · obtain ⟨y, m, h1, h2⟩ := bnd_ok h
      have := word_len _ _ _ _ _ h1
      have := words_len N f _ _ _ _ h2
      rw [wdsYtngimijiafnheaaGreatappend] at this
      simp [wdsN] at this
      omega
    · injection h with h; injection h with h; injection h with e1 e2
      subst e1 e2
      omega
theorem prec_len {l l' : List Tok} {x : Bs} (h : precF l = some (.ok (x, l'))) : l'.length ≤ l.length := by
  unfold precF at h
  split at h
  · rename_i ha
    obtain ⟨y, m, h1, h2⟩ := bnd_ok h
    injection h1 with h1
    have := name_len h1
    have := at_len ha
    injection h2 with h2; injection h2 with h2; injection h2 with e1 e2
    subst e2
    omega
  · injection h with h; injection h with h; injection h with e1 e2
    subst e2
    omega
theorem alt_len {N : Nat} {l l' : List Tok} {a : Al} (h : altF N l = some (.ok (a, l'))) : wdsN a.words ≤ l.length ∧ l'.length ≤ l.length := by
  obtain ⟨ws, m, h1, h2⟩ := bnd_ok (show bnd (wordsF N N [] l) _ = _ from h)
  obtain ⟨pr, m2, h3, h4⟩ := bnd_ok h2
  have a1 := words_len N _ _ _ _ _ h1
  have a2 := prec_len h3
  simp [wdsN] at a1
  unfold actF2 at h4
  cases m2 with
  | nil =>
    simp only at h4
    injection h4 with h4; injection h4 with h4; injection h4 with e1 e2
    subst e1 e2
    exact ⟨by show wdsN ws ≤ _; omega, by simp⟩
  | cons t r =>
    simp only at h4
    split at h4
    all_goals
      injection h4 with h4; injection h4 with h4; injection h4 with e1 e2
      subst e1 e2
      simp only [List.length_cons] at *
      exact ⟨by show wdsN ws ≤ _; omega, by omega⟩
theorem some_inv {β : Type} {one : β → List Tok → Pa β} {sep : Bs} (P : β → Prop) (B : Nat) (hone : ∀ x l x' l', l.length ≤ B → P x → one x l = some (.ok (x', l')) → P x' ∧ l'.length ≤ l.length) :
    ∀ (f : Nat) (x : β) (l : List Tok) (x' : β) (l' : List Tok), l.length ≤ B → P x → someF one sep f x l = some (.ok (x', l')) → P x' ∧ l'.length ≤ l.length
  | 0, x, l, x', l', hl, hp, h => by cases h
  | f + 1, x, l, x', l', hl, hp, h => by
    obtain ⟨y, m, h1, h2⟩ := bnd_ok (show bnd (one x l) _ = _ from h)
    obtain ⟨a1, a2⟩ := hone _ _ _ _ hl hp h1
    by_cases ha : atB [sep] m = true
    · rw [if_pos ha] at h2
      have := at_len ha
      have := some_inv P B hone f y m.tail x' l' (by omega) a1 h2
      exact ⟨this.1, by omega⟩
    · rw [if_neg ha] at h2
      injection h2 with h2; injection h2 with h2; injection h2 with e1 e2
      subst e1 e2
      exact ⟨a1, a2⟩
theorem param_len (ps : List Bs) (l : List Tok) (ps' : List Bs) (l' : List Tok) (h : paramF ps l = some (.ok (ps', l'))) : ps'.length + l'.length ≤ ps.length + l.length := by
  obtain ⟨t, m, h1, h2⟩ := bnd_ok (show bnd (some (nameF l)) _ = _ from h)
  injection h1 with h1
  have := name_len h1
  injection h2 with h2; injection h2 with h2; injection h2 with e1 e2
  subst e1 e2
  simp
  omega
theorem rule_small {N : Nat} {l l' : List Tok} {r : Ru} (hl : l.length ≤ 70000) (h : ruleF N l = some (.ok (r, l'))) : smallR r ∧ l'.length + 1 ≤ l.length := by
  obtain ⟨t, m, h1, h2⟩ := bnd_ok (show bnd (some (nameF l)) _ = _ from h)
  injection h1 with h1
  have a1 := name_len h1
  obtain ⟨ps, m2, h3, h4⟩ := bnd_ok h2
  have a3 := given_len List.length param_len _ _ _ _ _ h3
  simp only [List.length_nil] at a3
  obtain ⟨t2, m3, h5, h6⟩ := bnd_ok h4
  injection h5 with h5
  have a5 := need_len h5
  obtain ⟨az, m4, h7, h8⟩ := bnd_ok h6
  have halt : ∀ (az : List Al) (l : List Tok) (az' : List Al) (l' : List Tok), altsF N az l = some (.ok (az', l')) → (∃ a, az' = az ++ [a] ∧ wdsN a.words ≤ l.length) ∧ l'.length ≤ l.length := by
    intro az l az' l' h
    obtain ⟨a, m, h1, h2⟩ := bnd_ok (show bnd (altF N l) _ = _ from h)
    obtain ⟨b1, b2⟩ := alt_len h1
    injection h2 with h2; injection h2 with h2; injection h2 with e1 e2
    subst e1 e2
    exact ⟨⟨a, rfl, b1⟩, b2⟩
  have a7 := some_len (one := altsF N) (sep := [124]) List.length 1 (fun az l az' l' h => by
    obtain ⟨⟨a, rfl, _⟩, h2⟩ := halt az l az' l' h
    simp
    omega) (by omega) _ _ _ _ _ h7
  have a8 := some_inv (one := altsF N) (sep := [124]) (fun az : List Al => ∀ a ∈ az, wdsN a.words ≤ 100000) 70000 (fun az l az' l' hl hp h => by
    obtain ⟨⟨a, rfl, hw⟩, h2⟩ := halt az l az' l' h
    refine ⟨fun y hy => ?_, h2⟩
    rcases List.mem_append.1 hy with hy | hy
    · exact hp y hy
    · simp at hy; subst hy; omega) _ _ _ _ _ (by omega) (by simp) h7
  obtain ⟨t5, m5, h9, h10⟩ := bnd_ok h8
  injection h9 with h9
  have a9 := need_len h9
  injection h10 with h10; injection h10 with h10; injection h10 with e1 e2
  subst e1 e2
  simp only [List.length_nil] at a7
  exact ⟨⟨by show ps.length ≤ _; omega, by show az.length ≤ _; omega, fun a ha => a8.1 a ha⟩, by omega⟩
theorem names_len : ∀ (f : Nat) (ns : List Bs) (l : List Tok) (ns' : List Bs) (l' : List Tok), namesF f ns l = some (.ok (ns', l')) → ns'.length + l'.length ≤ ns.length + l.length
  | 0, ns, l, ns', l', h => by cases h
  | f + 1, ns, l, ns', l', h => by
    unfold namesF at h
    split at h
    · rename_i ha
      have := at_len ha
      injection h with h; injection h with h; injection h with e1 e2
      subst e1 e2
      omega
    · obtain ⟨t, m, h1, h2⟩ := bnd_ok h
      injection h1 with h1
      have := name_len h1
      have := names_len f _ _ _ _ h2
      simp at this
      omega
theorem typed_len {k : Bs} {l l' : List Tok} {x : Bs} (h : typedF k l = some (.ok (x, l'))) : l'.length ≤ l.length := by
  unfold typedF at h
  split at h
  · obtain ⟨t, m, h1, h2⟩ := bnd_ok (show bnd (some (needF [[60]] l)) _ = _ from h)
    obtain ⟨t2, m2, h3, h4⟩ := bnd_ok h2
    obtain ⟨t3, m3, h5, h6⟩ := bnd_ok h4
    injection h1 with h1
    injection h3 with h3
    injection h5 with h5
    have := need_len h1
    have := name_len h3
    have := need_len h5
    injection h6 with h6; injection h6 with h6; injection h6 with e1 e2
    subst e2
    omega
  · injection h with h; injection h with h; injection h with e1 e2
    subst e2
    omega
theorem decl_small {N : Nat} {l l' : List Tok} {d : De} (hl : l.length ≤ 70000) (h : declF N l = some (.ok (d, l'))) : d.names.length ≤ 100000 ∧ l'.length + 1 ≤ l.length := by
  obtain ⟨t, m, h1, h2⟩ := bnd_ok (show bnd (some (needF kinds l)) _ = _ from h)
  injection h1 with h1
  have a1 := need_len h1
  obtain ⟨ty, m2, h3, h4⟩ := bnd_ok h2
  have a3 := typed_len h3
  obtain ⟨t2, m3, h5, h6⟩ := bnd_ok h4
  injection h5 with h5
  have a5 := name_len h5
  obtain ⟨ns, m4, h7, h8⟩ := bnd_ok h6
  have a7 := names_len _ _ _ _ _ h7
  injection h8 with h8; injection h8 with h8; injection h8 with e1 e2
  subst e1 e2
  simp only [List.length_cons, List.length_nil] at a7
  exact ⟨by show ns.length ≤ _; omega, by omega⟩
theorem decls_small (N : Nat) : ∀ (f : Nat) (ds : List De) (l : List Tok) (ds' : List De) (l' : List Tok), l.length ≤ 70000 → (∀ d ∈ ds, d.names.length ≤ 100000) → declsF N f ds l = some (.ok (ds', l')) → (∀ d ∈ ds', d.names.length ≤ 100000) ∧ ds'.length + l'.length ≤ ds.length + l.length
  | 0, ds, l, ds', l', hl, hd, h => by cases h
  | f + 1, ds, l, ds', l', hl, hd, h => by
    unfold declsF at h
    split at h
    · rename_i ha
      have := at_len ha
      injection h with h; injection h with h; injection h with e1 e2
      subst e1 e2
      exact ⟨hd, by omega⟩
    · obtain ⟨d, m, h1, h2⟩ := bnd_ok h
      obtain ⟨b1, b2⟩ := decl_small hl h1
      have := decls_small N f _ _ _ _ (by omega) (fun y hy => by
        rcases List.mem_append.1 hy with hy | hy
        · exact hd y hy
        · simp at hy; subst hy; exact b1) h2
      refine ⟨this.1, ?_⟩
      have := this.2
      simp at this
      omega
theorem rules_small (N : Nat) : ∀ (f : Nat) (rs : List Ru) (l : List Tok) (rs' : List Ru) (l' : List Tok), l.length ≤ 70000 → (∀ r ∈ rs, smallR r) → rulesF N f rs l = some (.ok (rs', l')) → (∀ r ∈ rs', smallR r) ∧ rs'.length + l'.length ≤ rs.length + l.length
  | 0, ds, l, ds', l', hl, hd, h => by cases h
  | f + 1, ds, l, ds', l', hl, hd, h => by
    unfold rulesF at h
    split at h
    · injection h with h; injection h with h; injection h with e1 e2
      subst e1 e2
      exact ⟨hd, by omega⟩
    · obtain ⟨d, m, h1, h2⟩ := bnd_ok h
      obtain ⟨b1, b2⟩ := rule_small hl h1
      have := rules_small N f _ _ _ _ (by omega) (fun y hy => by
        rcases List.mem_append.1 hy with hy | hy
        · exact hd y hy
        · simp at hy; subst hy; exact b1) h2
      refine ⟨this.1, ?_⟩
      have := this.2
      simp at this
      omega
/-- No list of a text that is told is longer than the tokens. -/
theorem text_small {N : Nat} {l l' : List Tok} {x : Tx} (hl : l.length ≤ 70000) (h : textF N l = some (.ok (x, l'))) : smallT x := by
  obtain ⟨ds, m, h1, h2⟩ := bnd_ok (show bnd (declsF N N [] l) _ = _ from h)
  obtain ⟨b1, b2⟩ := decls_small N _ _ _ _ _ hl (by simp) h1
  obtain ⟨rs, m2, h3, h4⟩ := bnd_ok h2
  simp only [List.length_nil] at b2
  obtain ⟨c1, c2⟩ := rules_small N _ _ _ _ _ (by omega) (by simp) h3
  simp only [List.length_nil] at c2
  injection h4 with h4; injection h4 with h4; injection h4 with e1 e2
  subst e1
  exact ⟨by show ds.length ≤ _; omega, b1, by show rs.length ≤ _; omega, c1⟩
end LexT
namespace LexT
set_option linter.unusedVariables false
set_option linter.unusedSimpArgs false
/-- What the one tells the other tells, too. -/
def Le {α : Type} (x y : Pa α) : Prop := ∀ R, x = some R → y = some R
theorem Le.refl {α : Type} (x : Pa α) : Le x x := fun _ h => h
theorem Le.none {α : Type} (y : Pa α) : Le (Option.none) y := fun R h => by cases h
theorem bnd_mono {α β : Type} {x y : Pa α} {g g' : α → List Tok → Pa β} (h : Le x y) (hg : ∀ a l, Le (g a l) (g' a l)) : Le (bnd x g) (bnd y g') := by
  intro R hR
  unfold bnd at hR ⊢
  cases x with
  | none => cases hR
  | some v =>
    rw [h v rfl]
    cases v with
    | error e => exact hR
    | ok p => exact hg p.1 p.2 R hR
theorem ite_mono {α : Type} {c : Prop} [Decidable c] {x y x' y' : Pa α} (h1 : Le x x') (h2 : Le y y') : Le (if c then x else y) (if c then x' else y') := by
  by_cases hc : c
  · rw [if_pos hc, if_pos hc]; exact h1
  · rw [if_neg hc, if_neg hc]; exact h2
theorem some_mono {β : Type} {one one' : β → List Tok → Pa β} {sep : Bs} (h : ∀ x l, Le (one x l) (one' x l)) : ∀ (f f' : Nat) (x : β) (l : List Tok), f ≤ f' → Le (someF one sep f x l) (someF one' sep f' x l)
  | 0, f', x, l, hf => Le.none _
  | f + 1, 0, x, l, hf => by omega
  | f + 1, f' + 1, x, l, hf => bnd_mono (h x l) fun a m => ite_mono (some_mono h f f' a m.tail (by omega)) (Le.refl _)
theorem given_mono {β : Type} {one one' : β → List Tok → Pa β} (h : ∀ x l, Le (one x l) (one' x l)) (f f' : Nat) (x : β) (l : List Tok) (hf : f ≤ f') : Le (givenF one f x l) (givenF one' f' x l) :=
  ite_mono (bnd_mono (some_mono h f f' x l.tail hf) fun _ _ => Le.refl _) (Le.refl _)
theorem word_mono : ∀ (f f' k : Nat) (l : List Tok), f ≤ f' → Le (wordF f k l) (wordF f' k l)
  | 0, f', k, l, hf => Le.none _
  | f + 1, 0, k, l, hf => by omega
  | f + 1, f' + 1, k, l, hf => by
    show Le (bnd (some (nameF l)) _) (bnd (some (nameF l)) _)
    refine bnd_mono (Le.refl _) fun t m => ite_mono (Le.refl _) (bnd_mono (given_mono (fun ws l => bnd_mono (word_mono f f' (k + 1) l (by omega)) fun _ _ => Le.refl _) _ _ _ _ (by omega)) fun _ _ => Le.refl _)
theorem words_mono {N N' : Nat} (hN : N ≤ N') : ∀ (f f' : Nat) (ws : List Wd) (l : List Tok), f ≤ f' → Le (wordsF N f ws l) (wordsF N' f' ws l)
  | 0, f', ws, l, hf => Le.none _
  | f + 1, 0, ws, l, hf => by omega
  | f + 1, f' + 1, ws, l, hf => ite_mono (bnd_mono (word_mono N N' 0 l hN) fun a m => words_mono hN f f' _ m (by omega)) (Le.refl _)
theorem alt_mono {N N' : Nat} (hN : N ≤ N') (l : List Tok) : Le (altF N l) (altF N' l) := bnd_mono (words_mono hN N N' [] l hN) fun _ _ => Le.refl _
theorem alts_mono {N N' : Nat} (hN : N ≤ N') (az : List Al) (l : List Tok) : Le (altsF N az l) (altsF N' az l) := bnd_mono (alt_mono hN l) fun _ _ => Le.refl _
theorem rule_mono {N N' : Nat} (hN : N ≤ N') (l : List Tok) : Le (ruleF N l) (ruleF N' l) :=
  bnd_mono (Le.refl _) fun _ _ => bnd_mono (given_mono (fun _ _ => Le.refl _) _ _ _ _ hN) fun _ _ => bnd_mono (Le.refl _) fun _ _ => bnd_mono (some_mono (fun az l => alts_mono hN az l) N N' _ _ hN) fun _ _ => Le.refl _
theorem names_mono : ∀ (f f' : Nat) (ns : List Bs) (l : List Tok), f ≤ f' → Le (namesF f ns l) (namesF f' ns l)
  | 0, f', ns, l, hf => Le.none _
  | f + 1, 0, ns, l, hf => by omega
  | f + 1, f' + 1, ns, l, hf => ite_mono (Le.refl _) (bnd_mono (Le.refl _) fun a m => names_mono f f' _ m (by omega))
theorem decl_mono {N N' : Nat} (hN : N ≤ N') (l : List Tok) : Le (declF N l) (declF N' l) :=
  bnd_mono (Le.refl _) fun _ _ => bnd_mono (Le.refl _) fun _ _ => bnd_mono (Le.refl _) fun _ _ => bnd_mono (names_mono N N' _ _ hN) fun _ _ => Le.refl _
theorem decls_mono {N N' : Nat} (hN : N ≤ N') : ∀ (f f' : Nat) (ds : List De) (l : List Tok), f ≤ f' → Le (declsF N f ds l) (declsF N' f' ds l)
  | 0, f', ds, l, hf => Le.none _
  | f + 1, 0, ds, l, hf => by omega
  | f + 1, f' + 1, ds, l, hf => ite_mono (Le.refl _) (bnd_mono (decl_mono hN l) fun a m => decls_mono hN f f' _ m (by omega))
theorem rules_mono {N N' : Nat} (hN : N ≤ N') : ∀ (f f' : Nat) (rs : List Ru) (l : List Tok), f ≤ f' → Le (rulesF N f rs l) (rulesF N' f' rs l)
  | 0, f', ds, l, hf => Le.none _
  | f + 1, 0, ds, l, hf => by omega
  | f + 1, f' + 1, ds, l, hf => ite_mono (Le.refl _) (bnd_mono (rule_mono hN l) fun a m => rules_mono hN f f' _ m (by omega))
/-- With more fuel a text is told alike. -/
theorem text_mono {N N' : Nat} (hN : N ≤ N') (l : List Tok) : Le (textF N l) (textF N' l) := bnd_mono (decls_mono hN N N' [] l hN) fun _ m => bnd_mono (rules_mono hN N N' [] m hN) fun _ _ => Le.refl _
end LexT
set_option linter.unusedSimpArgs false
namespace LexT
open Go Go.RowKit
set_option linter.unusedVariables false
/-- A text stands at its place. -/
def standsP (S : ByteArray) (q : Nat) (nm : Bs) : Prop := q + nm.length ≤ S.size ∧ S.extract q (q + nm.length) = mkS nm
mutual
/-- A word and all in it stand at their places. -/
def thereP (S : ByteArray) : Wd → Prop
  | .mk nm ws q => standsP S q nm ∧ therePs S ws
def therePs (S : ByteArray) : List Wd → Prop
  | [] => True
  | x :: xs => thereP S x ∧ therePs S xs
end
theorem therePs_mem {S : ByteArray} : ∀ (ws : List Wd), therePs S ws → ∀ y ∈ ws, thereP S y
  | [], h, y, hy => by simp at hy
  | x :: xs, h, y, hy => by
    unfold therePs at h
    rcases List.mem_cons.1 hy with rfl | hy
    · exact h.1
    · exact therePs_mem xs h.2 y hy
end LexT
