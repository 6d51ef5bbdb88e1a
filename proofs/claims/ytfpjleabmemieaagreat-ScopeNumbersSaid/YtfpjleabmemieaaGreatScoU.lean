/- What is on the stack of a copy under way. -/
import Derived.Test.YtfpjleabmemieaaGreatScoS
set_option maxRecDepth 100000
namespace ScoT
open Go Go.RowKit
set_option linter.unusedVariables false
mutual
/-- How much a type is. -/
def weight : Ty → Nat | .mk _ _ _ _ es => 1 + wsum es
def wsum : List Ty → Nat | [] => 0 | t :: ts => weight t + wsum ts
end
theorem weight_eq (t : Ty) : weight t = 1 + wsum t.els := by cases t; rfl
theorem wsum_mem {ts : List Ty} {t : Ty} (h : t ∈ ts) : weight t ≤ wsum ts := by
  induction ts with
  | nil => cases h
  | cons a ts ih =>
    simp only [wsum]
    rcases List.mem_cons.1 h with rfl | h
    · omega
    · have := ih h; omega
/-- What lies in the same cells is the same. -/
theorem in_unique {w : World} {S : Nat → Prop} : ∀ t : Ty, In w S t → ∀ u : Ty, In w S u → t.cs = u.cs → t = u := by
  refine Ty.rose fun t ih ht u hu he => ?_
  obtain ⟨k, s, A, c, es⟩ := t
  obtain ⟨k', s', A', c', es'⟩ := u
  simp only [Ty.cs, Ty.row, Ty.kind, Ty.name, Ty.addr, Ty.els, Ty.cap, List.cons.injEq, Value.int.injEq, Value.string.injEq, Value.slice.injEq, true_and, and_true] at he
  obtain ⟨h1, h2, h3, h4, h5⟩ := he
  have h1' : k = k' := by omega
  subst h1' h2 h3 h5
  have : es = es' := by
    apply List.ext_getElem? 
    intro i
    by_cases hi : i < es.length
    · have a1 : es[i]? = some es[i] := List.getElem?_eq_getElem hi
      have a2 : es'[i]? = some (es'[i]'(by omega)) := List.getElem?_eq_getElem (by omega)
      rw [a1, a2]
      congr 1
      obtain ⟨b, o, hA, _, hc⟩ := ht.rows (show 0 < es.length by omega)
      obtain ⟨b', o', hA', _, hc'⟩ := hu.rows (show 0 < es'.length by omega)
      have hAA : (some (⟨b, o, none⟩ : Addr)) = some ⟨b', o', none⟩ := hA.symm.trans hA'
      injection hAA with hAA
      injection hAA with e1 e2 _
      subst e1 e2
      refine ih es[i] (List.getElem_mem hi) (ht.kid a1) _ (hu.kid a2) ?_
      have g : ∀ j : Nat, j < 3 → (es[i]).cs[j]? = (es'[i]'(by omega)).cs[j]? := fun j hj => by
        obtain ⟨v, hv⟩ : ∃ v, (es[i]).cs[j]? = some v := ⟨_, List.getElem?_eq_getElem (show j < (es[i]).cs.length from hj)⟩
        obtain ⟨v', hv'⟩ : ∃ v, (es'[i]'(by omega)).cs[j]? = some v := ⟨_, List.getElem?_eq_getElem (show j < (es'[i]'(by omega)).cs.length from hj)⟩
        have q1 := hc i es[i] a1 j v hv
        have q2 := hc' i _ a2 j v' hv'
        rw [hv, hv', ← q1, ← q2]
      apply List.ext_getElem?
      intro j
      by_cases hj : j < 3
      · exact g j hj
      · rw [List.getElem?_eq_none (by show 3 ≤ j; omega), List.getElem?_eq_none (by show 3 ≤ j; omega)]
    · rw [List.getElem?_eq_none (by omega), List.getElem?_eq_none (by omega)]
  subst this
  rfl
theorem els_unique {w : World} {S : Nat → Prop} {t u : Ty} (ht : In w S t) (hu : In w S u) (hA : t.addr = u.addr) (hl : t.els.length = u.els.length) : t.els = u.els := by
  have h := in_unique (.mk 0 ⟨#[]⟩ t.addr t.els.length t.els) (.mk _ ⟨Nat.zero_lt_succ 255, Nat.zero_le _, Nat.le_refl _, Nat.le_trans ht.fits.len ht.fits.cap, fun h => ⟨(ht.fits.nil h).1, (ht.fits.nil h).1⟩⟩ ht.rows fun i u hi => ht.kid hi)
    (.mk 0 ⟨#[]⟩ u.addr u.els.length u.els) (.mk _ ⟨Nat.zero_lt_succ 255, Nat.zero_le _, Nat.le_refl _, Nat.le_trans hu.fits.len hu.fits.cap, fun h => ⟨(hu.fits.nil h).1, (hu.fits.nil h).1⟩⟩ hu.rows fun i u hi => hu.kid hi)
    (by show [Value.int .u8 0, Value.string ⟨#[]⟩, Value.slice t.addr t.els.length t.els.length] = [Value.int .u8 0, Value.string ⟨#[]⟩, Value.slice u.addr u.els.length u.els.length]; rw [hA, hl])
  injection h
/-- What is to be done: a type at a spot; a row whose elements are done, and they. -/
inductive Task where
  | spot (e : Sp)
  | row (q : Nat × Nat × Nat) (es : List Ty)
def taskC : Task → List Value
  | .spot e => todoC e.1.1 e.1.2
  | .row q _ => doneC q
def tasksC (l : List Task) : List Value := l.flatMap taskC
def pendOf : List Task → List Sp
  | [] => []
  | .spot e :: l => e :: pendOf l
  | .row _ _ :: l => pendOf l
def keysOf : List Task → List (Nat × Nat × Nat)
  | [] => []
  | .spot _ :: l => keysOf l
  | .row q _ :: l => q :: keysOf l
def work : List Task → Nat
  | [] => 0
  | .spot e :: l => 2 * weight e.2 + work l
  | .row _ _ :: l => 1 + work l
theorem pendOf_append (a b : List Task) : pendOf (a ++ b) = pendOf a ++ pendOf b := by
  induction a with
  | nil => rfl
  | cons x a ih => cases x <;> simp [pendOf, ih]
theorem keysOf_append (a b : List Task) : keysOf (a ++ b) = keysOf a ++ keysOf b := by
  induction a with
  | nil => rfl
  | cons x a ih => cases x <;> simp [keysOf, ih]
theorem work_append (a b : List Task) : work (a ++ b) = work a + work b := by
  induction a with
  | nil => simp [work]
  | cons x a ih => cases x <;> simp [work, ih] <;> omega
theorem tasksC_append (a b : List Task) : tasksC (a ++ b) = tasksC a ++ tasksC b := by simp [tasksC]
theorem taskC_len (x : Task) : (taskC x).length = 3 := by cases x <;> rfl
theorem tasksC_len (l : List Task) : (tasksC l).length = l.length * 3 := by
  induction l with
  | nil => rfl
  | cons x l ih => simp only [tasksC, List.flatMap_cons, List.length_append, taskC_len, List.length_cons] at ih ⊢; omega
theorem taskC_one (x : Task) : ∀ v ∈ taskC x, v.oneCell' = true := by
  intro v hv
  cases x <;> simp only [taskC, todoC, doneC, List.mem_cons, List.not_mem_nil, or_false] at hv <;> rcases hv with rfl | rfl | rfl <;> rfl
theorem tasksC_one (l : List Task) : ∀ v ∈ tasksC l, v.oneCell' = true := by
  intro v hv
  obtain ⟨x, _, hx⟩ := List.mem_flatMap.1 hv
  exact taskC_one x v hx
theorem len_work (l : List Task) : l.length ≤ work l := by
  induction l with
  | nil => simp [work]
  | cons x l ih =>
    cases x with
    | spot e => simp only [work, List.length_cons]; have := weight_eq e.2; omega
    | row q es => simp only [work, List.length_cons]; omega
/-- A row's elements, as tasks. -/
def kidsT (g : Nat) (i : Nat) (ks : List Ty) : List Task := (spots g i ks).map Task.spot
theorem kidsT_pend (g i : Nat) (ks : List Ty) : pendOf (kidsT g i ks) = spots g i ks := by
  unfold kidsT
  induction spots g i ks with
  | nil => rfl
  | cons e l ih => simp [pendOf, ih]
theorem kidsT_keys (g i : Nat) (ks : List Ty) : keysOf (kidsT g i ks) = [] := by
  unfold kidsT
  induction spots g i ks with
  | nil => rfl
  | cons e l ih => simp [keysOf, ih]
theorem kidsT_work (g i : Nat) (ks : List Ty) : work (kidsT g i ks) = 2 * wsum ks := by
  unfold kidsT
  induction ks generalizing i with
  | nil => rfl
  | cons u us ih => simp only [spots, List.map_cons, work, wsum, ih]; omega
theorem kidsT_len (g i : Nat) (ks : List Ty) : (kidsT g i ks).length = ks.length := by simp [kidsT, spots_length]
theorem kidsT_range (g : Nat) (ks : List Ty) : ∀ i : Nat, tasksC (kidsT g i ks) = (List.range' i ks.length).flatMap fun j => todoC g (j * 3) := by
  induction ks with
  | nil => intro i; rfl
  | cons u us ih =>
    intro i
    have e : kidsT g i (u :: us) = [Task.spot ((g, i * 3), u)] ++ kidsT g (i + 1) us := rfl
    rw [e, tasksC_append, ih, List.length_cons, List.range'_succ]
    simp [tasksC, taskC]
theorem todos_range (g k : Nat) : todos g k = (List.range k).flatMap fun j => todoC g (j * 3) := by
  induction k with
  | zero => rfl
  | succ k ih => rw [List.range_succ, List.flatMap_append, todos, ih]; simp
theorem kidsT_cells (g : Nat) (ks : List Ty) : tasksC (kidsT g 0 ks) = todos g ks.length := by
  rw [kidsT_range, todos_range, List.range_eq_range']
theorem mem_pend {l : List Task} {e : Sp} : e ∈ pendOf l ↔ Task.spot e ∈ l := by
  induction l with
  | nil => simp [pendOf]
  | cons x l ih => cases x <;> simp [pendOf, ih]
theorem mem_keys {l : List Task} {q : Nat × Nat × Nat} : q ∈ keysOf l ↔ ∃ es, Task.row q es ∈ l := by
  induction l with
  | nil => simp [keysOf]
  | cons x l ih =>
    cases x with
    | spot e => simp [keysOf, ih]
    | row q' es' =>
      simp only [keysOf, List.mem_cons, ih, Task.row.injEq]
      constructor
      · rintro (rfl | ⟨es, h⟩)
        · exact ⟨es', .inl ⟨rfl, rfl⟩⟩
        · exact ⟨es, .inr h⟩
      · rintro ⟨es, (⟨rfl, _⟩ | h)⟩
        · exact .inl rfl
        · exact .inr ⟨es, h⟩
/-- Above a row only what is less than its elements lies. -/
def Ordered : List Task → Prop
  | [] => True
  | .spot _ :: l => Ordered l
  | .row _ es :: l => (∀ e ∈ pendOf l, weight e.2 ≤ wsum es) ∧ Ordered l
theorem Ordered.append {a b : List Task} (ha : Ordered a) (hb : Ordered b) (h : ∀ q es, Task.row q es ∈ a → ∀ e ∈ pendOf b, weight e.2 ≤ wsum es) : Ordered (a ++ b) := by
  induction a with
  | nil => exact hb
  | cons x a ih =>
    cases x with
    | spot e => exact ih ha (fun q es hq => h q es (by simp [hq]))
    | row q es =>
      obtain ⟨h1, h2⟩ := ha
      refine ⟨fun e he => ?_, ih h2 (fun q es hq => h q es (by simp [hq]))⟩
      have he : e ∈ pendOf (a ++ b) := he
      rw [pendOf_append] at he
      rcases List.mem_append.1 he with he | he
      · exact h1 e he
      · exact h q es (by simp) e he
theorem Ordered.left {a b : List Task} (h : Ordered (a ++ b)) : Ordered a ∧ ∀ q es, Task.row q es ∈ a → ∀ e ∈ pendOf b, weight e.2 ≤ wsum es := by
  induction a with
  | nil => exact ⟨trivial, by simp⟩
  | cons x a ih =>
    cases x with
    | spot e =>
      obtain ⟨h1, h2⟩ := ih h
      exact ⟨h1, fun q es hq => h2 q es (by simpa using hq)⟩
    | row q es =>
      obtain ⟨h1, h2⟩ := h
      obtain ⟨h3, h4⟩ := ih h2
      refine ⟨⟨fun e he => h1 e (by show e ∈ pendOf (a ++ b); rw [pendOf_append]; exact List.mem_append_left _ he), h3⟩, fun q' es' hq e he => ?_⟩
      rcases List.mem_cons.1 hq with hq | hq
      · injection hq with _ hq; subst hq
        exact h1 e (by show e ∈ pendOf (a ++ b); rw [pendOf_append]; exact List.mem_append_right _ he)
      · exact h4 q' es' hq e he
theorem ordered_kids (g i : Nat) (ks : List Ty) : Ordered (kidsT g i ks) := by
  unfold kidsT
  induction spots g i ks with
  | nil => trivial
  | cons e l ih => exact ih
end ScoT
