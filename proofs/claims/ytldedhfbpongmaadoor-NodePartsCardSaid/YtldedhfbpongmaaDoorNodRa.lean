/- Regions that build: each operation's slot comes to its shape, whatever order is drawn. Plain theorems over any program. -/
/- Regions that build, with a fact on each two slots, and a tail in the text's order. Plain theorems over any program. -/
import Derived.WalkKit
import Derived.Below
import Derived.BigQuiet
set_option maxRecDepth 100000
namespace ShapeR
open Go Go.RowKit
set_option linter.unusedVariables false
set_option linter.unusedSimpArgs false
section
variable {Sh : Type} (P : Program) (Den : Sh → Value → World → Prop) (Inv : World → Prop)
/-- These slots hold values of these shapes. -/
def Has (env : List (Nat × Sh)) (a : Act) (w : World) : Prop := ∀ p ∈ env, ∃ v, a.tmps[p.1]? = some v ∧ Den p.2 v w
/-- An operation comes to a value of a shape wherever its own slots hold theirs. -/
def OpOK (ops : Array Oper) (o : Oper) (env : List (Nat × Sh)) (s : Sh) : Prop :=
  ∀ (a : Act) (w : World), Inv w → Has Den env a w → ∀ (K : Act → World → Prop) (Q : Exit → Act → World → Prop),
    (∀ v w', Den s v w' → Below w.heap.size w w' → Inv w' → K (a.put o.dst v) w') →
    if Region.wanted o (yielded ops a.tmps) then o.wp P a w K Q else K (a.put o.dst undef) w
/-- The slots that operations of D have written, with their shapes. -/
structure St (ops : Array Oper) (env : List (Nat × Sh)) (shs : List Sh) (n0 : Nat) (df : List Deferred) (D : Nat → Prop) (a : Act) (w : World) : Prop where
  inv : Inv w
  size : a.tmps.size = n0
  defers : a.defers = df
  out : Has Den env a w
  done : ∀ (i : Nat) (o : Oper) (s : Sh) (d : Nat), ops[i]? = some o → shs[i]? = some s → D i → o.dst = some d → ∃ v, a.tmps[d]? = some v ∧ Den s v w
/-- The slots of these operations, with their shapes. -/
def availOf (ops : Array Oper) (shs : List Sh) (js : List Nat) : List (Nat × Sh) :=
  js.filterMap fun j => match ops[j]?, shs[j]? with | some o, some s => o.dst.map fun d => (d, s) | _, _ => none
def afters (ops : Array Oper) (i : Nat) : List Nat := match ops[i]? with | some o => (o.after.toList.filter (Region.binds .any)).map (·.on) | none => []
/-- The slots that are written are others than those that are read from outside, each once. -/
structure Apart (ops : Array Oper) (env : List (Nat × Sh)) (n0 : Nat) : Prop where
  low : ∀ (i : Nat) (o : Oper) (d : Nat), ops[i]? = some o → o.dst = some d → d < n0 ∧ ∀ p ∈ env, p.1 ≠ d
  once : ∀ (i j : Nat) (oi oj : Oper) (d : Nat), ops[i]? = some oi → ops[j]? = some oj → i ≠ j → oi.dst = some d → oj.dst ≠ some d
/-- What a region comes to: all slots, and a later world. -/
structure Came (env : List (Nat × Sh)) (n0 : Nat) (df : List Deferred) (w : World) (a' : Act) (w' : World) : Prop where
  inv : Inv w'
  size : a'.tmps.size = n0
  defers : a'.defers = df
  has : Has Den env a' w'
  below : Below w.heap.size w w'
variable {P Den Inv}
variable {ops : Array Oper} {env : List (Nat × Sh)} {shs : List Sh} {n0 : Nat} {df : List Deferred}
theorem put_size (a : Act) (d : Option Tmp) (v : Value) : (a.put d v).tmps.size = a.tmps.size := by cases d <;> simp [Act.put]
theorem put_defers (a : Act) (d : Option Tmp) (v : Value) : (a.put d v).defers = a.defers := by cases d <;> rfl
theorem put_same (a : Act) (d : Nat) (v : Value) (h : d < a.tmps.size) : (a.put (some d) v).tmps[d]? = some v := by simp [Act.put, h]
theorem put_other (a : Act) (d : Option Tmp) (v : Value) (x : Nat) (h : d ≠ some x) : (a.put d v).tmps[x]? = a.tmps[x]? := by
  cases d with
  | none => rfl
  | some y =>
    have : y ≠ x := fun e => h (by rw [e])
    simp [Act.put, this]
/-- All that was written, as slots. -/
theorem St.all {D : Nat → Prop} {a : Act} {w : World} (h : St Den Inv ops env shs n0 df D a w) {js : List Nat} (hjs : ∀ j ∈ js, D j) : Has Den (env ++ availOf ops shs js) a w := by
  intro p hp
  rcases List.mem_append.1 hp with hp | hp
  · exact h.out p hp
  · obtain ⟨j, hj, he⟩ := List.mem_filterMap.1 hp
    cases hoj : ops[j]? with
    | none => simp [hoj] at he
    | some oj =>
      cases hsj : shs[j]? with
      | none => simp [hoj, hsj] at he
      | some sj =>
        simp only [hoj, hsj, Option.map_eq_some_iff] at he
        obtain ⟨d, hd, rfl⟩ := he
        exact h.done j oj sj d hoj hsj (hjs j hj) hd
theorem St.put (hmono : ∀ s v w w', Den s v w → Below w.heap.size w w' → Den s v w') (hap : Apart ops env n0) {D D' : Nat → Prop} {a : Act} {w w' : World} (h : St Den Inv ops env shs n0 df D a w)
    {i : Nat} {o : Oper} {s : Sh} (hi : ops[i]? = some o) (hs : shs[i]? = some s) {v : Value} (hden : Den s v w') (hb : Below w.heap.size w w') (hinv : Inv w') (hD : ∀ j, D' j → j ≠ i → D j) :
    St Den Inv ops env shs n0 df D' (a.put o.dst v) w' := by
  refine ⟨hinv, (put_size _ _ _).trans h.size, (put_defers _ _ _).trans h.defers, ?_, ?_⟩
  · intro p hp
    obtain ⟨u, hu, hd⟩ := h.out p hp
    refine ⟨u, ?_, hmono _ _ _ _ hd hb⟩
    rw [put_other _ _ _ _ (fun e => (hap.low i o _ hi e).2 p hp rfl)]
    exact hu
  · intro j oj sj d hoj hsj hDj hdj
    by_cases hji : j = i
    · subst hji
      obtain rfl : o = oj := Option.some.inj (hi.symm.trans hoj)
      obtain rfl : s = sj := Option.some.inj (hs.symm.trans hsj)
      rw [hdj]
      exact ⟨v, put_same _ _ _ (by rw [h.size]; exact (hap.low j o d hi hdj).1), hden⟩
    · obtain ⟨u, hu, hd⟩ := h.done j oj sj d hoj hsj (hD j hDj hji) hdj
      refine ⟨u, ?_, hmono _ _ _ _ hd hb⟩
      rw [put_other _ _ _ _ (hap.once j i oj o d hoj hi hji hdj)]
      exact hu
theorem wpOp_of {i : Nat} {o : Oper} (hi : ops[i]? = some o) {a : Act} {w : World} {K : Act → World → Prop} {Q : Exit → Act → World → Prop}
    (h : if Region.wanted o (yielded ops a.tmps) then o.wp P a w K Q else K (a.put o.dst undef) w) : wpOp P ops Q i K a w := by
  unfold wpOp
  rw [hi]
  simp only
  split
  · rename_i hw; rw [if_pos hw] at h; exact .inl h
  · rename_i hw; rw [if_neg hw] at h; exact h
/-- In the order of the text: all operations but the last come to their shapes. -/
theorem wp_lex {id n : Nat} {Q : Exit → Act → World → Prop} {a : Act} {w : World}
    (hmono : ∀ s v w w', Den s v w → Below w.heap.size w w' → Den s v w') (hap : Apart ops env n0) (hn : ops.size = n + 1) (hlen : shs.length = n)
    (hok : ∀ (i : Nat) (o : Oper) (s : Sh), ops[i]? = some o → shs[i]? = some s → OpOK P Den Inv ops o (env ++ availOf ops shs (List.range i)) s)
    (h0 : Came Den Inv env n0 df w a w)
    (hlast : ∀ a' w', Came Den Inv (env ++ availOf ops shs (List.range n)) n0 df w a' w' → wpOp P ops Q n (Q .normal) a' w') :
    (Code.region id ops false).wp P Q a w := by
  refine wp_region ?_
  have key : ∀ (m k : Nat), k + m = n → ∀ (a' : Act) (w' : World), Below w.heap.size w w' → St Den Inv ops env shs n0 df (fun j => j < k) a' w' →
      wpOps P ops Q (List.range' k (m + 1)) a' w' := by
    intro m
    induction m with
    | zero =>
      intro k hk a' w' hb hst
      obtain rfl : k = n := by omega
      have h1 := hlast a' w' ⟨hst.inv, hst.size, hst.defers, St.all hst (js := List.range k) (fun j hj => List.mem_range.1 hj), hb⟩
      rw [show List.range' k (0 + 1) = [k] from rfl, wpOps_cons]
      exact wpOp_mono (fun _ _ h => h) h1
    | succ m ih =>
      intro k hk a' w' hb hst
      obtain ⟨o, ho⟩ : ∃ o, ops[k]? = some o := ⟨_, Array.getElem?_eq_getElem (by omega)⟩
      obtain ⟨s, hs⟩ : ∃ s, shs[k]? = some s := ⟨_, List.getElem?_eq_getElem (by omega)⟩
      rw [List.range'_succ, wpOps_cons]
      refine wpOp_of ho (hok k o s ho hs a' w' hst.inv (St.all hst (js := List.range k) (fun j hj => List.mem_range.1 hj)) _ Q ?_)
      intro v w'' hden hb' hinv
      exact ih (k + 1) (by omega) _ _ (hb.trans (hb'.mono hb.size)) (hst.put hmono hap ho hs hden hb' hinv fun j hj hne => by omega)
  have h1 := key n 0 (by omega) a w h0.below ⟨h0.inv, h0.size, h0.defers, h0.has, fun i o s d _ _ hD _ => by omega⟩
  rw [List.range_eq_range', hn]
  exact h1
theorem countP_lt {p p' : Nat → Bool} (himp : ∀ x, p' x = true → p x = true) {i : Nat} (hp : p i = true) (hp' : p' i = false) : ∀ {l : List Nat}, i ∈ l → l.countP p' < l.countP p := by
  intro l
  induction l with
  | nil => intro h; cases h
  | cons x l ih =>
    intro h
    have hle : l.countP p' ≤ l.countP p := List.countP_mono_left fun x _ hx => himp x hx
    rw [List.countP_cons, List.countP_cons]
    rcases List.mem_cons.1 h with rfl | h
    · simp [hp, hp']; omega
    · have := ih h
      by_cases hx : p' x = true
      · simp [hx, himp x hx]; omega
      · simp only [hx, if_false, Bool.false_eq_true]; split <;> omega
/-- The order's own facts: what waits for what. -/
structure Waits (ops : Array Oper) (n : Nat) : Prop where
  down : ∀ i, ∀ j ∈ afters ops i, j < i
  last : ∀ i, i < n → ∃ j, i < j ∧ j ≤ n ∧ i ∈ afters ops j
theorem afters_of {i : Nat} {o : Oper} (h : ops[i]? = some o) {D : Nat → Prop} (hd : ∀ e ∈ o.after, Region.binds .any e = true → D e.on) : ∀ j ∈ afters ops i, D j := by
  intro j hj
  unfold afters at hj
  rw [h] at hj
  simp only [List.mem_map, List.mem_filter] at hj
  obtain ⟨e, ⟨he, hb⟩, rfl⟩ := hj
  exact hd e (by simpa using he) hb
theorem ready_of {i : Nat} {o : Oper} (h : ops[i]? = some o) {listed : Array Bool} (hu : listed.getD i true = false) (hd : ∀ j ∈ afters ops i, listed.getD j false = true) : i ∈ Region.ready .any ops listed := by
  refine mem_ready.2 ⟨hu, o, h, fun e he hb => hd e.on ?_⟩
  unfold afters
  rw [h]
  exact List.mem_map.2 ⟨e, List.mem_filter.2 ⟨by simpa using he, hb⟩, rfl⟩
/-- Whatever order is drawn: all operations but the last come to their shapes; the last waits for all. -/
theorem wp_drawn {id n : Nat} {Q : Exit → Act → World → Prop} {a : Act} {w : World} (hm : P.follows .mixedOrders = true)
    (hmono : ∀ s v w w', Den s v w → Below w.heap.size w w' → Den s v w') (hinvm : ∀ w w', Inv w → Below w.heap.size w w' → Inv w') (hap : Apart ops env n0) (hwt : Waits ops n) (hn : ops.size = n + 1) (hlen : shs.length = n)
    (hok : ∀ (i : Nat) (o : Oper) (s : Sh), ops[i]? = some o → shs[i]? = some s → OpOK P Den Inv ops o (env ++ availOf ops shs (afters ops i)) s)
    (h0 : Came Den Inv env n0 df w a w)
    (hlast : ∀ a' w', Came Den Inv (env ++ availOf ops shs (List.range n)) n0 df w a' w' → wpOp P ops Q n (Q .normal) a' w') :
    (Code.region id ops true).wp P Q a w := by
  refine wp_region_any hm ?_
  have hbd : Below w.heap.size w { w with drawn := w.drawn + 1 } := (Below.refl _ _).drew
  have key : ∀ (fuel : Nat) (listed : Array Bool) (a' : Act) (w' : World), listed.size = n + 1 → (List.range (n + 1)).countP (fun i => !listed.getD i true) ≤ fuel →
      (∀ i, listed.getD i false = true → ∀ j ∈ afters ops i, listed.getD j false = true) → listed.getD n false = false →
      Below w.heap.size w w' → St Den Inv ops env shs n0 df (fun j => listed.getD j false = true) a' w' → wpAny P .any ops Q fuel listed a' w' := by
    intro fuel
    induction fuel with
    | zero =>
      intro listed a' w' hsz hcnt hdown hnl hb hst
      exfalso
      have : 0 < (List.range (n + 1)).countP (fun i => !listed.getD i true) := List.countP_pos_iff.2 ⟨n, List.mem_range.2 (by omega), by
        have hlt : n < listed.size := by omega
        simp [Array.getD, hlt] at hnl ⊢
        exact hnl⟩
      omega
    | succ fuel ih =>
      intro listed a' w' hsz hcnt hdown hnl hb hst
      have hsame : ∀ i, i < n + 1 → listed.getD i true = listed.getD i false := fun i hi => by simp [Array.getD, show i < listed.size by omega]
      refine ⟨fun hr => ?_, fun i hi => ?_⟩
      · -- some operation is ready
        exfalso
        have hex : ∀ i, i ≤ n → listed.getD i false = false → ∃ j, j ∈ Region.ready .any ops listed := by
          intro i
          induction i using Nat.strongRecOn with
          | _ i ihi =>
            intro hin hu
            by_cases hall : ∀ j ∈ afters ops i, listed.getD j false = true
            · obtain ⟨o, ho⟩ : ∃ o, ops[i]? = some o := ⟨_, Array.getElem?_eq_getElem (by omega)⟩
              exact ⟨i, ready_of ho (by rw [hsame i (by omega)]; exact hu) hall⟩
            · have : ∃ j ∈ afters ops i, listed.getD j false ≠ true := by
                refine Classical.byContradiction fun hne => hall fun j hj => Classical.byContradiction fun hj' => hne ⟨j, hj, hj'⟩
              obtain ⟨j, hj, hjf⟩ := this
              have hlt := hwt.down i j hj
              exact ihi j hlt (by omega) (by simpa using hjf)
        obtain ⟨j, hj⟩ := hex n (Nat.le_refl _) hnl
        rw [hr] at hj
        cases hj
      · obtain ⟨hu, o, ho, hafter⟩ := mem_ready.1 hi
        have hin : i < n + 1 := by have := (Array.getElem?_eq_some_iff.1 ho).1; omega
        have haf : ∀ j ∈ afters ops i, listed.getD j false = true := afters_of ho hafter
        have hset : ∀ j, (listed.setIfInBounds i true).getD j false = true ↔ (listed.getD j false = true ∨ j = i) := by
          intro j
          by_cases hj : j = i
          · subst hj
            simp [Array.getD, show j < listed.size by omega]
          · have : i ≠ j := fun e => hj e.symm
            simp [hj, getD_set_ne false this]
        by_cases hil : i = n
        · -- the last one
          subst hil
          have hall : ∀ j, j < i → listed.getD j false = true := by
            have : ∀ (m j : Nat), i - j = m → j < i → listed.getD j false = true := by
              intro m
              induction m using Nat.strongRecOn with
              | _ m ihm =>
                intro j hm hj
                obtain ⟨k, hjk, hki, hmem⟩ := hwt.last j hj
                by_cases hk : k = i
                · subst hk; exact haf j hmem
                · exact hdown k (ihm (i - k) (by omega) k rfl (by omega)) j hmem
            exact fun j hj => this _ j rfl hj
          have h1 := hlast a' w' ⟨hst.inv, hst.size, hst.defers, St.all hst (js := List.range i) (fun j hj => hall j (List.mem_range.1 hj)), hb⟩
          refine wpOp_mono (fun a'' w'' hq => ?_) h1
          have hempty : Region.ready .any ops (listed.setIfInBounds i true) = [] := by
            refine List.eq_nil_iff_forall_not_mem.2 fun j hj => ?_
            obtain ⟨hju, oj, hoj, _⟩ := mem_ready.1 hj
            have hjn : j < i + 1 := by have := (Array.getElem?_eq_some_iff.1 hoj).1; omega
            have h2 : (listed.setIfInBounds i true).getD j false = true := (hset j).2 (by
              by_cases hji : j = i
              · exact .inr hji
              · exact .inl (hall j (by omega)))
            have h3 : j < (listed.setIfInBounds i true).size := by simp; omega
            simp only [Array.getD, h3, dif_pos] at h2 hju
            rw [h2] at hju
            cases hju
          cases fuel with
          | zero => exact ⟨hempty, hq⟩
          | succ f => exact ⟨fun _ => hq, fun j hj => by rw [hempty] at hj; cases hj⟩
        · obtain ⟨s, hs⟩ : ∃ s, shs[i]? = some s := ⟨_, List.getElem?_eq_getElem (by omega)⟩
          refine wpOp_of ho (hok i o s ho hs a' w' hst.inv (St.all hst (js := afters ops i) haf) _ Q ?_)
          intro v w'' hden hb' hinv
          refine ih _ _ _ (by simpa using hsz) ?_ ?_ ?_ (hb.trans (hb'.mono hb.size)) (hst.put hmono hap ho hs hden hb' hinv fun j hj hne => ((hset j).1 hj).resolve_right hne)
          · have : (List.range (n + 1)).countP (fun j => !(listed.setIfInBounds i true).getD j true) < (List.range (n + 1)).countP (fun j => !listed.getD j true) := by
              refine countP_lt (i := i) ?_ (by simpa using hu) ?_ (List.mem_range.2 hin)
              · intro x hx
                by_cases hxi : x = i
                · subst hxi; simp [hu]
                · rw [getD_set_ne true (Ne.symm hxi)] at hx; exact hx
              · simp [Array.getD, show i < listed.size by omega]
            omega
          · intro k hk j hj
            rcases (hset k).1 hk with hk | rfl
            · exact (hset j).2 (.inl (hdown k hk j hj))
            · exact (hset j).2 (.inl (haf j hj))
          · rw [getD_set_ne false (fun e => hil e)]
            exact hnl
  have hrep : ∀ i b, (Array.replicate ops.size false).getD i b = true → b = true := by
    intro i b h
    unfold Array.getD at h
    split at h
    · simp at h
    · exact h
  refine key _ _ _ _ (by simpa using hn) ?_ ?_ ?_ hbd ⟨hinvm _ _ h0.inv hbd, h0.size, h0.defers, fun p hp => ?_, fun i o s d _ _ hD _ => ?_⟩
  · rw [hn]
    exact Nat.le_trans List.countP_le_length (by simp)
  · intro i h
    have := hrep i false h
    cases this
  · refine Bool.eq_false_iff.2 fun h => ?_
    have := hrep n false h
    cases this
  · obtain ⟨v, hv, hd⟩ := h0.has p hp
    exact ⟨v, hv, hmono _ _ _ _ hd hbd⟩
  · have := hrep i false hD
    cases this
end
end ShapeR
namespace ShapeP
open Go Go.RowKit
open ShapeR (put_size put_defers put_same put_other countP_lt availOf afters afters_of ready_of Apart Has wpOp_of)
set_option linter.unusedVariables false
set_option linter.unusedSimpArgs false
section
variable {Sh : Type} (P : Program) (Den : Sh → Value → World → Prop) (Inv : World → Prop) (Pair : Sh → Value → Sh → Value → Prop)
/-- An operation comes to a value of a shape wherever its own slots hold theirs. -/
def OpOK (ops : Array Oper) (o : Oper) (env : List (Nat × Sh)) (s : Sh) : Prop :=
  ∀ (a : Act) (w : World), Inv w → Has Den env a w → ∀ (K : Act → World → Prop) (Q : Exit → Act → World → Prop),
    (∀ v w', Den s v w' → Below w.heap.size w w' → Inv w' → (∀ s' v', Den s' v' w → Pair s' v' s v) → K (a.put o.dst v) w') →
    if Region.wanted o (yielded ops a.tmps) then o.wp P a w K Q else K (a.put o.dst undef) w
/-- The slots that operations of D have written, with their shapes. -/
structure St (ops : Array Oper) (env : List (Nat × Sh)) (shs : List Sh) (n0 : Nat) (df : List Deferred) (D : Nat → Prop) (a : Act) (w : World) : Prop where
  inv : Inv w
  size : a.tmps.size = n0
  defers : a.defers = df
  out : Has Den env a w
  done : ∀ (i : Nat) (o : Oper) (s : Sh) (d : Nat), ops[i]? = some o → shs[i]? = some s → D i → o.dst = some d → ∃ v, a.tmps[d]? = some v ∧ Den s v w
  pair : ∀ (i j : Nat) (oi oj : Oper) (si sj : Sh) (di dj : Nat) (vi vj : Value), i ≠ j → ops[i]? = some oi → ops[j]? = some oj → shs[i]? = some si → shs[j]? = some sj → D i → D j → oi.dst = some di → oj.dst = some dj → a.tmps[di]? = some vi → a.tmps[dj]? = some vj → Pair si vi sj vj
/-- What a region comes to: all slots, and a later world. -/
structure Came (env : List (Nat × Sh)) (n0 : Nat) (df : List Deferred) (w : World) (a' : Act) (w' : World) : Prop where
  inv : Inv w'
  size : a'.tmps.size = n0
  defers : a'.defers = df
  has : Has Den env a' w'
  below : Below w.heap.size w w'
variable {P Den Inv Pair}
variable {ops : Array Oper} {env : List (Nat × Sh)} {shs : List Sh} {n0 : Nat} {df : List Deferred}
/-- All that was written, as slots. -/
theorem St.all {D : Nat → Prop} {a : Act} {w : World} (h : St Den Inv Pair ops env shs n0 df D a w) {js : List Nat} (hjs : ∀ j ∈ js, D j) : Has Den (env ++ availOf ops shs js) a w := by
  intro p hp
  rcases List.mem_append.1 hp with hp | hp
  · exact h.out p hp
  · obtain ⟨j, hj, he⟩ := List.mem_filterMap.1 hp
    cases hoj : ops[j]? with
    | none => simp [hoj] at he
    | some oj =>
      cases hsj : shs[j]? with
      | none => simp [hoj, hsj] at he
      | some sj =>
        simp only [hoj, hsj, Option.map_eq_some_iff] at he
        obtain ⟨d, hd, rfl⟩ := he
        exact h.done j oj sj d hoj hsj (hjs j hj) hd
theorem St.put (hmono : ∀ s v w w', Den s v w → Below w.heap.size w w' → Den s v w') (hsym : ∀ s v s' v', Pair s v s' v' → Pair s' v' s v) (hap : Apart ops env n0) {D D' : Nat → Prop} {a : Act} {w w' : World} (h : St Den Inv Pair ops env shs n0 df D a w)
    {i : Nat} {o : Oper} {s : Sh} (hi : ops[i]? = some o) (hs : shs[i]? = some s) {v : Value} (hden : Den s v w') (hb : Below w.heap.size w w') (hinv : Inv w') (hp : ∀ s' v', Den s' v' w → Pair s' v' s v) (hD : ∀ j, D' j → j ≠ i → D j) :
    St Den Inv Pair ops env shs n0 df D' (a.put o.dst v) w' := by
  have hsame : ∀ (d : Nat), o.dst = some d → (a.put o.dst v).tmps[d]? = some v := fun d hd => by
    rw [hd]
    exact put_same _ _ _ (by rw [h.size]; exact (hap.low i o d hi hd).1)
  have hoth : ∀ (j : Nat) (oj : Oper) (d : Nat), j ≠ i → ops[j]? = some oj → oj.dst = some d → (a.put o.dst v).tmps[d]? = a.tmps[d]? := fun j oj d hji hoj hdj =>
    put_other _ _ _ _ (hap.once j i oj o d hoj hi hji hdj)
  refine ⟨hinv, (put_size _ _ _).trans h.size, (put_defers _ _ _).trans h.defers, ?_, ?_, ?_⟩
  · intro p hp
    obtain ⟨u, hu, hd⟩ := h.out p hp
    refine ⟨u, ?_, hmono _ _ _ _ hd hb⟩
    rw [put_other _ _ _ _ (fun e => (hap.low i o _ hi e).2 p hp rfl)]
    exact hu
  · intro j oj sj d hoj hsj hDj hdj
    by_cases hji : j = i
    · subst hji
      obtain rfl : o = oj := Option.some.inj (hi.symm.trans hoj)
      obtain rfl : s = sj := Option.some.inj (hs.symm.trans hsj)
      exact ⟨v, hsame d hdj, hden⟩
    · obtain ⟨u, hu, hd⟩ := h.done j oj sj d hoj hsj (hD j hDj hji) hdj
      exact ⟨u, (hoth j oj d hji hoj hdj).trans hu, hmono _ _ _ _ hd hb⟩
  · intro j k oj ok sj sk dj dk vj vk hjk hoj hok hsj hsk hDj hDk hdj hdk hvj hvk
    by_cases hji : j = i
    · subst hji
      have hki : k ≠ j := fun e => hjk e.symm
      obtain rfl : o = oj := Option.some.inj (hi.symm.trans hoj)
      obtain rfl : s = sj := Option.some.inj (hs.symm.trans hsj)
      rw [hsame dj hdj] at hvj
      obtain rfl := Option.some.inj hvj
      obtain ⟨u, hu, hd⟩ := h.done k ok sk dk hok hsk (hD k hDk hki) hdk
      rw [hoth k ok dk hki hok hdk, hu] at hvk
      obtain rfl := Option.some.inj hvk
      exact hsym _ _ _ _ (hp _ _ hd)
    · by_cases hki : k = i
      · subst hki
        obtain rfl : o = ok := Option.some.inj (hi.symm.trans hok)
        obtain rfl : s = sk := Option.some.inj (hs.symm.trans hsk)
        rw [hsame dk hdk] at hvk
        obtain rfl := Option.some.inj hvk
        obtain ⟨u, hu, hd⟩ := h.done j oj sj dj hoj hsj (hD j hDj hji) hdj
        rw [hoth j oj dj hji hoj hdj, hu] at hvj
        obtain rfl := Option.some.inj hvj
        exact hp _ _ hd
      · rw [hoth j oj dj hji hoj hdj] at hvj
        rw [hoth k ok dk hki hok hdk] at hvk
        exact h.pair j k oj ok sj sk dj dk vj vk hjk hoj hok hsj hsk (hD j hDj hji) (hD k hDk hki) hdj hdk hvj hvk
/-- What is ready waits for all ahead of it. -/
theorem ready_all {i : Nat} (hwt : ShapeR.Waits ops i) {listed : Array Bool} (hdown : ∀ i, listed.getD i false = true → ∀ j ∈ afters ops i, listed.getD j false = true) (haf : ∀ j ∈ afters ops i, listed.getD j false = true) : ∀ j, j < i → listed.getD j false = true := by
  have : ∀ (m j : Nat), i - j = m → j < i → listed.getD j false = true := by
    intro m
    induction m using Nat.strongRecOn with
    | _ m ihm =>
      intro j hm hj
      obtain ⟨k, hjk, hki, hmem⟩ := hwt.last j hj
      by_cases hk : k = i
      · subst hk; exact haf j hmem
      · exact hdown k (ihm (i - k) (by omega) k rfl (by omega)) j hmem
  exact fun j hj => this _ j rfl hj
theorem set_getD {listed : Array Bool} {i : Nat} (h : i < listed.size) (j : Nat) : (listed.setIfInBounds i true).getD j false = true ↔ (listed.getD j false = true ∨ j = i) := by
  by_cases hj : j = i
  · subst hj
    simp [Array.getD, h]
  · have : i ≠ j := fun e => hj e.symm
    simp [hj, getD_set_ne false this]
/-- The tail: what is listed is just what lies ahead. -/
theorem wp_tail {Q : Exit → Act → World → Prop} {N : Nat} (hN : ops.size = N) : ∀ (m k : Nat), k + m = N → (∀ i, k ≤ i → i < N → ShapeR.Waits ops i) → ∀ (fuel : Nat) (listed : Array Bool), listed.size = N → m ≤ fuel → (∀ j, j < N → (listed.getD j false = true ↔ j < k)) →
    ∀ (a : Act) (w : World), wpOps P ops Q (List.range' k m) a w → wpAny P .any ops Q fuel listed a w := by
  intro m
  induction m with
  | zero =>
    intro k hk hwt fuel listed hsz hf hl a w h
    have hempty : Region.ready .any ops listed = [] := by
      refine List.eq_nil_iff_forall_not_mem.2 fun j hj => ?_
      obtain ⟨hju, oj, hoj, _⟩ := mem_ready.1 hj
      have hjn : j < N := by have := (Array.getElem?_eq_some_iff.1 hoj).1; omega
      have h2 := (hl j hjn).2 (by omega)
      simp only [Array.getD, show j < listed.size by omega, dif_pos] at h2 hju
      rw [h2] at hju
      cases hju
    have hq : Q .normal a w := h
    cases fuel with
    | zero => exact ⟨hempty, hq⟩
    | succ f => exact ⟨fun _ => hq, fun j hj => by rw [hempty] at hj; cases hj⟩
  | succ m ih =>
    intro k hk hwt fuel listed hsz hf hl a w h
    obtain ⟨f, rfl⟩ : ∃ f, fuel = f + 1 := ⟨fuel - 1, by omega⟩
    rw [List.range'_succ, wpOps_cons] at h
    have hsame : ∀ i, i < N → listed.getD i true = listed.getD i false := fun i hi => by simp [Array.getD, show i < listed.size by omega]
    have hdown : ∀ i, listed.getD i false = true → ∀ j ∈ afters ops i, listed.getD j false = true := by
      intro i hi j hj
      have hiN : i < N := by
        rcases Nat.lt_or_ge i N with h' | h'
        · exact h'
        · simp [Array.getD, show ¬ i < listed.size by omega] at hi
      have hik := (hl i hiN).1 hi
      have hji := (hwt k (Nat.le_refl _) (by omega)).down i j hj
      exact (hl j (by omega)).2 (by omega)
    obtain ⟨o, ho⟩ : ∃ o, ops[k]? = some o := ⟨_, Array.getElem?_eq_getElem (by omega)⟩
    have hkr : k ∈ Region.ready .any ops listed := by
      refine ready_of ho ?_ fun j hj => (hl j ?_).2 ((hwt k (Nat.le_refl _) (by omega)).down k j hj)
      · rw [hsame k (by omega)]
        exact Bool.eq_false_iff.2 fun h' => by have := (hl k (by omega)).1 h'; omega
      · have := (hwt k (Nat.le_refl _) (by omega)).down k j hj; omega
    refine ⟨fun hr => (by rw [hr] at hkr; cases hkr), fun i hi => ?_⟩
    obtain ⟨hu, oi, hoi, hafter⟩ := mem_ready.1 hi
    have hin : i < N := by have := (Array.getElem?_eq_some_iff.1 hoi).1; omega
    have haf : ∀ j ∈ afters ops i, listed.getD j false = true := afters_of hoi hafter
    have hki : k ≤ i := by
      rcases Nat.lt_or_ge i k with h' | h'
      · have h2 := (hl i hin).2 h'
        rw [hsame i hin] at hu
        rw [h2] at hu
        cases hu
      · exact h'
    have hik : i = k := by
      rcases Nat.lt_or_ge k i with h' | h'
      · have h3 := ready_all (hwt i hki hin) hdown haf k h'
        have := (hl k (by omega)).1 h3
        omega
      · omega
    subst hik
    refine wpOp_mono (fun a' w' h' => ?_) h
    refine ih (i + 1) (by omega) (fun j hj hjN => hwt j (by omega) hjN) f _ (by simpa using hsz) (by omega) (fun j hj => ?_) a' w' h'
    rw [set_getD (by omega), hl j hj]
    omega
/-- Whatever order is drawn: the first n operations come to their shapes; the others wait for all ahead of them. -/
theorem wp_drawn {id n N : Nat} {Q : Exit → Act → World → Prop} {a : Act} {w : World} (hm : P.follows .mixedOrders = true)
    (hmono : ∀ s v w w', Den s v w → Below w.heap.size w w' → Den s v w') (hsym : ∀ s v s' v', Pair s v s' v' → Pair s' v' s v) (hinvm : ∀ w w', Inv w → Below w.heap.size w w' → Inv w') (hap : Apart ops env n0) (hnN : n < N) (hwt : ∀ k, n ≤ k → k < N → ShapeR.Waits ops k) (hN : ops.size = N) (hlen : shs.length = n)
    (hok : ∀ (i : Nat) (o : Oper) (s : Sh), ops[i]? = some o → shs[i]? = some s → OpOK P Den Inv Pair ops o (env ++ availOf ops shs (afters ops i)) s)
    (h0 : Came Den Inv env n0 df w a w)
    (hlast : ∀ a' w', Below w.heap.size w w' → St Den Inv Pair ops env shs n0 df (fun j => j < n) a' w' → wpOps P ops Q (List.range' n (N - n)) a' w') :
    (Code.region id ops true).wp P Q a w := by
  refine wp_region_any hm ?_
  have hbd : Below w.heap.size w { w with drawn := w.drawn + 1 } := (Below.refl _ _).drew
  have key : ∀ (fuel : Nat) (listed : Array Bool) (a' : Act) (w' : World), listed.size = N → (List.range n).countP (fun i => !listed.getD i true) + (N - n) ≤ fuel →
      (∀ i, listed.getD i false = true → ∀ j ∈ afters ops i, listed.getD j false = true) → (∀ k, n ≤ k → listed.getD k false = false) →
      Below w.heap.size w w' → St Den Inv Pair ops env shs n0 df (fun j => listed.getD j false = true) a' w' → wpAny P .any ops Q fuel listed a' w' := by
    intro fuel
    induction fuel with
    | zero => intro listed a' w' hsz hcnt; omega
    | succ fuel ih =>
      intro listed a' w' hsz hcnt hdown hnl hb hst
      have hsame : ∀ i, i < N → listed.getD i true = listed.getD i false := fun i hi => by simp [Array.getD, show i < listed.size by omega]
      have hwn := hwt n (Nat.le_refl _) hnN
      refine ⟨fun hr => ?_, fun i hi => ?_⟩
      · exfalso
        have hex : ∀ i, i ≤ n → listed.getD i false = false → ∃ j, j ∈ Region.ready .any ops listed := by
          intro i
          induction i using Nat.strongRecOn with
          | _ i ihi =>
            intro hin hu
            by_cases hall : ∀ j ∈ afters ops i, listed.getD j false = true
            · obtain ⟨o, ho⟩ : ∃ o, ops[i]? = some o := ⟨_, Array.getElem?_eq_getElem (by omega)⟩
              exact ⟨i, ready_of ho (by rw [hsame i (by omega)]; exact hu) hall⟩
            · have : ∃ j ∈ afters ops i, listed.getD j false ≠ true := by
                refine Classical.byContradiction fun hne => hall fun j hj => Classical.byContradiction fun hj' => hne ⟨j, hj, hj'⟩
              obtain ⟨j, hj, hjf⟩ := this
              have hlt := hwn.down i j hj
              exact ihi j hlt (by omega) (by simpa using hjf)
        obtain ⟨j, hj⟩ := hex n (Nat.le_refl _) (hnl n (Nat.le_refl _))
        rw [hr] at hj
        cases hj
      · obtain ⟨hu, o, ho, hafter⟩ := mem_ready.1 hi
        have hin : i < N := by have := (Array.getElem?_eq_some_iff.1 ho).1; omega
        have haf : ∀ j ∈ afters ops i, listed.getD j false = true := afters_of ho hafter
        by_cases hil : n ≤ i
        · have hin' : i = n := by
            rcases Nat.lt_or_ge n i with h' | h'
            · have h2 := ready_all (hwt i hil hin) hdown haf n h'
              rw [hnl n (Nat.le_refl _)] at h2
              cases h2
            · omega
          subst hin'
          have hall := ready_all (hwt i hil hin) hdown haf
          have h1 := hlast a' w' hb ⟨hst.inv, hst.size, hst.defers, hst.out, fun j oj sj d hoj hsj hj hd => hst.done j oj sj d hoj hsj (hall j hj) hd,
            fun j k oj ok sj sk dj dk vj vk hjk hoj hok hsj hsk hj hk => hst.pair j k oj ok sj sk dj dk vj vk hjk hoj hok hsj hsk (hall j hj) (hall k hk)⟩
          obtain ⟨m, hm'⟩ : ∃ m, N - i = m + 1 := ⟨N - i - 1, by omega⟩
          rw [hm', List.range'_succ, wpOps_cons] at h1
          refine wpOp_mono (fun a'' w'' hq => ?_) h1
          refine wp_tail hN m (i + 1) (by omega) (fun j hj hjN => hwt j (by omega) hjN) fuel _ (by simpa using hsz) (by omega) (fun j hj => ?_) a'' w'' hq
          rw [set_getD (by omega)]
          constructor
          · rintro (h' | rfl)
            · rcases Nat.lt_or_ge j i with h'' | h''
              · omega
              · rw [hnl j h''] at h'; cases h'
            · omega
          · intro h'
            rcases Nat.lt_or_ge j i with h'' | h''
            · exact .inl (hall j h'')
            · exact .inr (by omega)
        · have hil' : i < n := by omega
          obtain ⟨s, hs⟩ : ∃ s, shs[i]? = some s := ⟨_, List.getElem?_eq_getElem (by omega)⟩
          have hhas : Has Den (env ++ availOf ops shs (afters ops i)) a' w' := hst.all haf
          refine wpOp_of ho (hok i o s ho hs a' w' hst.inv hhas _ Q ?_)
          intro v w'' hden hb' hinv hpair
          refine ih _ _ _ (by simpa using hsz) ?_ ?_ ?_ (hb.trans (hb'.mono hb.size)) (hst.put hmono hsym hap ho hs hden hb' hinv hpair fun j hj hne => ((set_getD (by omega) j).1 hj).resolve_right hne)
          · have : (List.range n).countP (fun j => !(listed.setIfInBounds i true).getD j true) < (List.range n).countP (fun j => !listed.getD j true) := by
              refine countP_lt (i := i) ?_ (by simpa using hu) ?_ (List.mem_range.2 hil')
              · intro x hx
                by_cases hxi : x = i
                · subst hxi; simp [hu]
                · rw [getD_set_ne true (Ne.symm hxi)] at hx; exact hx
              · simp [Array.getD, show i < listed.size by omega]
            omega
          · intro k hk j hj
            rcases (set_getD (by omega) k).1 hk with hk | rfl
            · exact (set_getD (by omega) j).2 (.inl (hdown k hk j hj))
            · exact (set_getD (by omega) j).2 (.inl (haf j hj))
          · intro k hk
            rw [getD_set_ne false (fun e => by omega)]
            exact hnl k hk
  have hrep : ∀ i b, (Array.replicate ops.size false).getD i b = true → b = true := by
    intro i b h
    unfold Array.getD at h
    split at h
    · simp at h
    · exact h
  refine key _ _ _ _ (by simpa using hN) ?_ ?_ ?_ hbd ⟨hinvm _ _ h0.inv hbd, h0.size, h0.defers, fun p hp => ?_, fun i o s d _ _ hD _ => ?_, fun i j oi oj si sj di dj vi vj _ _ _ _ _ hD _ => ?_⟩
  · have : (List.range n).countP (fun i => !(Array.replicate ops.size false).getD i true) ≤ n := Nat.le_trans List.countP_le_length (by simp)
    omega
  · intro i h
    have := hrep i false h
    cases this
  · intro k _
    refine Bool.eq_false_iff.2 fun h => ?_
    have := hrep k false h
    cases this
  · obtain ⟨v, hv, hd⟩ := h0.has p hp
    exact ⟨v, hv, hmono _ _ _ _ hd hbd⟩
  · have := hrep i false hD
    cases this
  · have := hrep i false hD
    cases this
end
end ShapeP
