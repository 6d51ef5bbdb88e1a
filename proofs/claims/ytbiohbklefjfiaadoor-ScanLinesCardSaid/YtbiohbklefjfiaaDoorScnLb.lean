/- ScanLines, as mathematics: the whole text dressed. -/
import Derived.Test.YtbiohbklefjfiaaDoorScnLa
set_option maxRecDepth 100000
namespace ScnT
set_option linter.unusedVariables false
/-- What is left behind blanks and a comment. -/
def rest (l : Bs) : Bs := let l1 := l.dropWhile isBl; if [47, 47].isPrefixOf l1 then l1.dropWhile (· != 10) else l1
theorem drop_tw (f : UInt8 → Bool) : ∀ l : Bs, l.drop (l.takeWhile f).length = l.dropWhile f := by
  intro l
  induction l with
  | nil => rfl
  | cons c l ih =>
    rw [List.takeWhile_cons, List.dropWhile_cons]
    by_cases h : f c = true
    · simp [h, ih]
    · simp [h]
theorem rest_eq (l : Bs) : l.drop (skipB l) = rest l := by
  unfold skipB rest
  simp only [drop_tw]
  split
  · rw [← List.drop_drop, drop_tw, drop_tw]
  · exact drop_tw _ _
def fin : Bs → Bs
  | [] => []
  | _ :: r => 10 :: dr r
theorem dw_append (f : UInt8 → Bool) (u w : Bs) : (u ++ w).dropWhile f = if (u.dropWhile f) = [] then w.dropWhile f else u.dropWhile f ++ w := by
  induction u with
  | nil => simp
  | cons c u ih =>
    rw [List.cons_append, List.dropWhile_cons, List.dropWhile_cons]
    by_cases h : f c = true
    · simp only [h, if_true]; exact ih
    · simp [h]
theorem dw_all {f : UInt8 → Bool} : ∀ {u : Bs}, (∀ x ∈ u, f x = true) → u.dropWhile f = [] := by
  intro u
  induction u with
  | nil => intro _; rfl
  | cons c u ih =>
    intro h
    rw [List.dropWhile_cons, h c (by simp), if_pos rfl]
    exact ih fun x hx => h x (by simp [hx])
theorem dw_sub {f : UInt8 → Bool} : ∀ {u : Bs} {x : UInt8}, x ∈ u.dropWhile f → x ∈ u := by
  intro u x h
  exact (List.dropWhile_sublist f).subset h
theorem dw_head {f : UInt8 → Bool} : ∀ {u : Bs} {c : UInt8} {r : Bs}, u.dropWhile f = c :: r → f c = false := by
  intro u
  induction u with
  | nil => intro c r h; cases h
  | cons x u ih =>
    intro c r h
    rw [List.dropWhile_cons] at h
    by_cases hx : f x = true
    · rw [if_pos hx] at h; exact ih h
    · rw [if_neg hx] at h
      injection h with h1 h2
      rw [← h1]
      simpa using hx
theorem rest_ways (u w : Bs) (hu : ∀ x ∈ u, x ≠ 10) (hw : hard w) :
    (rest (u ++ w) = w ∧ rest (u ++ dr w) = fin w) ∨
    (∃ (c : UInt8) (u1 : Bs), c ≠ 10 ∧ (∀ x ∈ u1, x ≠ 10) ∧ rest (u ++ w) = c :: u1 ++ w ∧ rest (u ++ dr w) = c :: u1 ++ dr w) := by
  have hwb : w.dropWhile isBl = w := by
    rcases hw with rfl | ⟨r, rfl⟩
    · rfl
    · rw [List.dropWhile_cons]; rfl
  have hwn : w.dropWhile (· != 10) = w := by
    rcases hw with rfl | ⟨r, rfl⟩
    · rfl
    · rw [List.dropWhile_cons]; rfl
  have hdn : (dr w).dropWhile (· != 10) = fin w := by
    rcases hw with rfl | ⟨r, rfl⟩
    · rfl
    · rw [dr_line]; simp [List.dropWhile, fin]
  cases hd : u.dropWhile isBl with
  | nil =>
    left
    unfold rest
    simp only [dw_append, hd, if_true, hwb]
    constructor
    · rcases hw with rfl | ⟨r, rfl⟩
      · rfl
      · have : [47, 47].isPrefixOf ((10 : UInt8) :: r) = false := rfl
        rw [this]; rfl
    · rcases hw with rfl | ⟨r, rfl⟩
      · rfl
      · rw [dr_line]
        have e : ((32 : UInt8) :: 47 :: 47 :: 32 :: 120 :: 34 :: 32 :: 0 :: 10 :: dr r).dropWhile isBl = 47 :: 47 :: 32 :: 120 :: 34 :: 32 :: 0 :: 10 :: dr r := by simp [List.dropWhile, isBl]
        rw [e]
        simp [List.isPrefixOf, List.dropWhile, fin]
  | cons c u1 =>
    have hc : isBl c = false := dw_head hd
    have hin : ∀ x ∈ c :: u1, x ≠ 10 := fun x hx => hu x (dw_sub (f := isBl) (by rw [hd]; exact hx))
    have hall : (c :: u1).dropWhile (· != 10) = [] := dw_all fun x hx => by simpa using hin x hx
    have hne : ¬ (c :: u1 : Bs) = [] := by simp
    have hpre : ∀ v : Bs, bd v → [47, 47].isPrefixOf (c :: u1 ++ v) = [47, 47].isPrefixOf (c :: u1) := by
      intro v hv
      rcases u1 with _ | ⟨c2, u2⟩
      · rcases hv with rfl | ⟨d, r, rfl, rfl | rfl | rfl⟩
        · rfl
        · simp [List.isPrefixOf]
        · simp [List.isPrefixOf]
        · simp [List.isPrefixOf]
      · simp [List.isPrefixOf]
    by_cases hp : [47, 47].isPrefixOf (c :: u1) = true
    · left
      unfold rest
      simp only [dw_append isBl, hd, hne, if_false]
      rw [hpre w hw.bd, hpre (dr w) (dr_bd hw), if_pos hp, if_pos hp, dw_append, dw_append, hall, if_pos rfl, if_pos rfl]
      exact ⟨hwn, hdn⟩
    · right
      refine ⟨c, u1, hin c (by simp), fun x hx => hin x (by simp [hx]), ?_, ?_⟩
      · unfold rest
        simp only [dw_append isBl, hd, hne, if_false]
        rw [hpre w hw.bd, if_neg hp]
      · unfold rest
        simp only [dw_append isBl, hd, hne, if_false]
        rw [hpre (dr w) (dr_bd hw), if_neg hp]
theorem al_snoc {a b : List Tok} (h : alikeB a b) (k : Nat) (t : Bs) (p q : Nat) : alikeB (a ++ [⟨k, t, p⟩]) (b ++ [⟨k, t, q⟩]) := by
  unfold alikeB at h ⊢
  rw [List.map_append, List.map_append, h]
  rfl
theorem al_line {a b : List Tok} (h : alikeB a b) (p q : Nat) : alikeB (endLine a p) (endLine b q) := by
  have h2 := h
  unfold alikeB at h2
  have hl : (a.getLast?.map fun t => (t.kind, t.text)) = b.getLast?.map fun t => (t.kind, t.text) := by
    rw [← List.getLast?_map, ← List.getLast?_map, h2]
  unfold endLine
  cases ha : a.getLast? with
  | none =>
    cases hb : b.getLast? with
    | none => exact h
    | some y => rw [ha, hb] at hl; cases hl
  | some x =>
    cases hb : b.getLast? with
    | none => rw [ha, hb] at hl; cases hl
    | some y =>
      rw [ha, hb] at hl
      simp only [Option.map_some, Option.some.injEq, Prod.mk.injEq] at hl
      have hm : mayEnd x = mayEnd y := by unfold mayEnd; rw [hl.1, hl.2]
      simp only [hm]
      split
      · exact al_snoc h _ _ _ _
      · exact h
theorem cut_at (l : Bs) : ∃ u w : Bs, l = u ++ w ∧ (∀ x ∈ u, x ≠ 10) ∧ hard w := by
  induction l with
  | nil => exact ⟨[], [], rfl, by simp, .inl rfl⟩
  | cons c l ih =>
    by_cases hc : c = 10
    · subst hc
      exact ⟨[], 10 :: l, rfl, by simp, .inr ⟨l, rfl⟩⟩
    · obtain ⟨u, w, rfl, h1, h2⟩ := ih
      refine ⟨c :: u, w, rfl, fun x hx => ?_, h2⟩
      rcases List.mem_cons.1 hx with rfl | hx
      · exact hc
      · exact h1 x hx
theorem go_rest (f : Nat) (l : Bs) (p : Nat) (ts : List Tok) : goT (f + 1) l p ts = match rest l with
    | [] => .ok (endLine ts (p + skipB l) ++ [⟨7, [], p + skipB l⟩])
    | c :: r => if c == 10 then goT f r (p + skipB l + 1) (endLine ts (p + skipB l)) else
      match oneT (rest l) with
      | .error e => .error (e, p + skipB l)
      | .ok (kd, t, n) => goT f ((rest l).drop n) (p + skipB l + n) (ts ++ [⟨kd, t, p + skipB l⟩]) := by
  rw [goT]
  simp only [rest_eq]
  cases rest l <;> rfl
theorem rest_le (l : Bs) : (rest l).length ≤ l.length := by rw [← rest_eq, List.length_drop]; omega
theorem go_dr : ∀ (f : Nat) (l : Bs) (p : Nat) (ts out : List Tok), goT f l p ts = .ok out → ∀ (f' p' : Nat) (ts' : List Tok), (dr l).length < f' → alikeB ts ts' →
    ∃ out', goT f' (dr l) p' ts' = .ok out' ∧ alikeB out out' := by
  intro f
  induction f with
  | zero => intro l p ts out h; cases h
  | succ f ih =>
    intro l p ts out h f' p' ts' hf hal
    obtain ⟨f', rfl⟩ : ∃ g, f' = g + 1 := ⟨f' - 1, by omega⟩
    obtain ⟨u, w, rfl, hu, hw⟩ := cut_at l
    rw [dr_append u w hu] at hf ⊢
    have hrl := rest_le (u ++ dr w)
    rw [go_rest] at h ⊢
    rcases rest_ways u w hu hw with ⟨e1, e2⟩ | ⟨c, u1, hc, hu1, e1, e2⟩
    · rw [e1] at h
      rw [e2] at hrl ⊢
      rcases hw with rfl | ⟨r, rfl⟩
      · simp only at h
        injection h with h
        subst h
        exact ⟨_, rfl, al_snoc (al_line hal _ _) _ _ _ _⟩
      · simp only [fin, beq_self_eq_true, if_true] at h hrl ⊢
        simp only [List.length_cons] at hrl
        exact ih r _ _ _ h _ _ _ (by omega) (al_line hal _ _)
    · rw [e1] at h
      rw [e2] at hrl ⊢
      have hcb : (c == 10) = false := by simpa using hc
      simp only [List.cons_append, hcb, Bool.false_eq_true, if_false] at h hrl ⊢
      cases ho : oneT (c :: (u1 ++ w)) with
      | error e => rw [ho] at h; cases h
      | ok x =>
        obtain ⟨k, t, n⟩ := x
        have ho0 : oneT (c :: u1 ++ []) = .ok (k, t, n) := one_in hw (.inl rfl) c u1 ho
        have ho' : oneT (c :: (u1 ++ dr w)) = .ok (k, t, n) := one_in hw (dr_bd hw) c u1 ho
        obtain ⟨g1, g2, g3, g4⟩ := good_one ho0
        simp only [List.append_nil, List.length_cons] at g3
        rw [ho] at h
        rw [ho']
        simp only at h ⊢
        have hn : n ≤ (c :: u1).length := by simp; omega
        have d1 : (c :: (u1 ++ w)).drop n = (c :: u1).drop n ++ w := dr_le (c :: u1) w n hn
        have d2 : (c :: (u1 ++ dr w)).drop n = (c :: u1).drop n ++ dr w := dr_le (c :: u1) (dr w) n hn
        have hno : ∀ x ∈ (c :: u1).drop n, x ≠ 10 := fun x hx => by
          rcases List.mem_cons.1 (List.mem_of_mem_drop hx) with rfl | hx
          · exact hc
          · exact hu1 x hx
        rw [d1] at h
        rw [d2, ← dr_append _ _ hno]
        refine ih _ _ _ _ h _ _ _ ?_ (al_snoc hal _ _ _ _)
        rw [dr_append _ _ hno, List.length_append, List.length_drop]
        simp only [List.length_cons, List.length_append] at hrl hf hn ⊢
        omega
/-- A text that is told, dressed: told alike. -/
theorem lines_told (s : Bs) (out : List Tok) (h : tokensT s = .ok out) (hl : (headE ++ dr s).length ≤ 65536) : ∃ out', tokensT (headE ++ dr s) = .ok out' ∧ alikeB out out' := by
  unfold tokensT at h ⊢
  split at h
  · cases h
  · rw [if_neg (by omega), go_rest]
    have e : rest (headE ++ dr s) = 10 :: dr s := by
      unfold rest headE
      simp [List.dropWhile, isBl, List.isPrefixOf]
    rw [e]
    simp only [beq_self_eq_true, if_true]
    refine go_dr _ s 0 [] out h _ _ _ ?_ rfl
    rw [List.length_append]
    show _ < 9 + _
    omega
theorem ed_len (s : Bs) : (ed s).length = s.length + 8 * s.countP (· == 10) := by
  induction s with
  | nil => rfl
  | cons c s ih =>
    have e : ed (c :: s) = (if c == 10 then eol else [c]) ++ ed s := by unfold ed; rw [List.flatMap_cons]
    rw [e, List.length_append, ih, List.countP_cons, List.length_cons]
    by_cases h : (c == 10) = true
    · simp [h, eol]; omega
    · simp [h]; omega
end ScnT
