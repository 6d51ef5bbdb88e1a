/- Slots that hold one of a few known trees: shapes, and what each operation makes of them. -/
/- What is the same as what, for trees that are alike; lent trees over a store; the trees that NodeSame knows. -/
import Derived.Test.YtldedhfbpongmaaDoorNodRb
import Derived.Test.YtldedhfbpongmaaDoorNodRa
import Derived.Laws.Small
import Derived.Test.YtldedhfbpongmaaDoorNodRi
import Derived.Test.YtldedhfbpongmaaDoorNodBd
import Derived.Test.YtldedhfbpongmaaDoorNodH
set_option maxRecDepth 100000
namespace NodT
open Go Go.RowKit
open ShapeR (Has availOf afters)
set_option linter.unusedVariables false
set_option linter.unusedSimpArgs false
inductive Sg where
  | lit (v : Value)
  | nd (i : Nat)
  | vr (i : Nat)
  | fresh
  | num (i : Nat)
section
variable (tn : TypeId) (base : Nat) (T : Nat → Nd → World → Prop)
def Dg : Sg → Value → World → Prop
  | .lit x, v, _ => v = x
  | .nd i, v, w => ∃ x : Nd, v = x.val ∧ T i x w
  | .vr i, v, w => ∃ (g : Nat) (x : Nd), v = .pointer (some ⟨g, 0, none⟩) ∧ (i < 2 → g < base) ∧ w.heap[g]? = some (.cells x.cs.toArray tn) ∧ T i x w
  | .fresh, v, w => ∃ g, v = .pointer (some ⟨g, 0, none⟩) ∧ base ≤ g ∧ w.heap[g]? = some (.cells zero5 tn)
  | .num i, v, _ => (∃ x w', T i x w') ∧ ∀ x w', T i x w' → v = .int .i64 (deep x : Nat)
def PairG (s : Sg) (v : Value) (s' : Sg) (v' : Value) : Prop := s = .fresh → s' = .fresh → v ≠ v'
def gLook (env : List (Nat × Sg)) (d : Nat) : Option Sg := (env.find? fun p => p.1 == d).map (·.2)
def gArg (env : List (Nat × Sg)) : Operand → Option Sg
  | .const v => some (.lit v)
  | .tmp d => gLook env d
  | _ => none
def gArgs (env : List (Nat × Sg)) : List Operand → Option (List Sg)
  | [] => some []
  | x :: xs => match gArg env x, gArgs env xs with | some s, some ss => some (s :: ss) | _, _ => none
def gPlain (s : Option Sg) : Option Sg := match s with | some .fresh => none | s => s
def gWant (ops : Array Oper) (env : List (Nat × Sg)) (o : Oper) : Option Bool :=
  match o.guard with
  | none => some true
  | some (j, b) => match (ops[j]?).bind (·.dst) with
    | some d => match gLook env d with | some (.lit (.bool c)) => some (c == b) | _ => none
    | none => none
def gDo (tn tb : TypeId) (ext : FuncId → List Sg → Option Sg) (env : List (Nat × Sg)) (op : Op) : Option Sg :=
  match op with
  | .move x => gPlain (gArg env x)
  | .assign x => gPlain (gArg env x)
  | .load t x => if t = tn then match gArg env x with | some (.vr i) => some (.nd i) | _ => none else none
  | .alloc t => if t = tn then some .fresh else none
  | .call c => match c.callee with | .value (.func f) => (gArgs env c.args.toList).bind fun ss => gPlain (ext f ss) | _ => none
  | .pick c x y => match gArg env c with | some (.lit (.bool b)) => if b then gPlain (gArg env x) else gPlain (gArg env y) | _ => none
  | .binOp .eql t x y _ => if t = tb then match gArg env x, gArg env y with | some (.lit (.bool a)), some (.lit (.bool b)) => some (.lit (.bool (a == b))) | _, _ => none else none
  | .binOp .neq _ x y _ => match gArg env x, gArg env y with | some (.num i), some (.num j) => if i = j then some (.lit (.bool false)) else none | _, _ => none
  | .unOp .not _ x => match gArg env x with | some (.lit (.bool b)) => some (.lit (.bool !b)) | _ => none
  | _ => none
def gOp (tn tb : TypeId) (ext : FuncId → List Sg → Option Sg) (ops : Array Oper) (env : List (Nat × Sg)) (o : Oper) : Option Sg :=
  match gWant ops env o with
  | some true => gDo tn tb ext env o.op
  | some false => some (.lit undef)
  | none => none
def gL (tn tb : TypeId) (ext : FuncId → List Sg → Option Sg) (ops : Array Oper) (env : List (Nat × Sg)) : Nat → Option (List Sg)
  | 0 => some []
  | k + 1 => match gL tn tb ext ops env k, ops[k]? with
    | some shs, some o => match gOp tn tb ext ops (env ++ availOf ops shs (afters ops k)) o with
      | some s => some (shs ++ [s])
      | none => none
    | _, _ => none
def gAll : List Sg → List Value → World → Prop
  | [], [], _ => True
  | s :: ss, v :: vs, w => Dg tn base T s v w ∧ gAll ss vs w
  | _, _, _ => False
def GExtOK (P : Program) (Inv : World → Prop) (ext : FuncId → List Sg → Option Sg) : Prop :=
  ∀ (f : FuncId) (shs : List Sg) (s : Sg), ext f shs = some s → (∀ args w, (callFunc f args).run P w = .ok (.enter f args) w) ∧
    ∀ (vs : List Value) (w : World), gAll tn base T shs vs w → Inv w → Calls P f vs.toArray w fun e w' => ∃ v, e = .returned v ∧ Dg tn base T s v w' ∧ Below w.heap.size w w'
variable {tn base T}
theorem Dg.mono (hT : ∀ i x w w', T i x w → Below w.heap.size w w' → T i x w') (s : Sg) (v : Value) (w w' : World) (h : Dg tn base T s v w) (hb : Below w.heap.size w w') : Dg tn base T s v w' := by
  cases s with
  | lit x => exact h
  | nd i => obtain ⟨x, h1, h2⟩ := h; exact ⟨x, h1, hT _ _ _ _ h2 hb⟩
  | vr i => obtain ⟨g, x, h1, h0, h2, h3⟩ := h; exact ⟨g, x, h1, h0, (hb.block g (lt_of_heap h2)).trans h2, hT _ _ _ _ h3 hb⟩
  | fresh => obtain ⟨g, h1, h2, h3⟩ := h; exact ⟨g, h1, h2, (hb.block g (lt_of_heap h3)).trans h3⟩
  | num i => exact h
theorem PairG.symm (s : Sg) (v : Value) (s' : Sg) (v' : Value) (h : PairG s v s' v') : PairG s' v' s v := fun h1 h2 => (h h2 h1).symm
theorem gLook_mem {env : List (Nat × Sg)} {d : Nat} {s : Sg} (h : gLook env d = some s) : (d, s) ∈ env := by
  unfold gLook at h
  obtain ⟨p, hp, rfl⟩ := Option.map_eq_some_iff.1 h
  have h1 := List.mem_of_find?_eq_some hp
  have h2 := List.find?_some hp
  have : p.1 = d := by simpa using h2
  rw [← this]
  exact h1
theorem eval_of {a : Act} {d : Nat} {v : Value} (hv : a.tmps[d]? = some v) : a.eval (.tmp d) = v := by
  show a.tmps.getD d undef = v
  obtain ⟨hlt, he⟩ := Array.getElem?_eq_some_iff.1 hv
  simp [Array.getD, hlt, he]
theorem gArg_den {env : List (Nat × Sg)} {a : Act} {w : World} (hh : Has (Dg tn base T) env a w) {x : Operand} {s : Sg} (h : gArg env x = some s) : Dg tn base T s (a.eval x) w := by
  cases x with
  | const v => simp only [gArg, Option.some.injEq] at h; subst h; rfl
  | tmp d =>
    obtain ⟨v, hv, hd⟩ := hh _ (gLook_mem h)
    rw [eval_of hv]
    exact hd
  | global g => simp [gArg] at h
  | func f => simp [gArg] at h
theorem gPlain_den {s : Option Sg} {r : Sg} (h : gPlain s = some r) : s = some r ∧ r ≠ .fresh := by
  unfold gPlain at h
  split at h
  · cases h
  · rename_i hn
    refine ⟨h, fun e => ?_⟩
    subst e
    exact hn h
theorem gArgs_den {env : List (Nat × Sg)} {a : Act} {w : World} (hh : Has (Dg tn base T) env a w) : ∀ {xs : List Operand} {ss : List Sg}, gArgs env xs = some ss → gAll tn base T ss (xs.map a.eval) w := by
  intro xs
  induction xs with
  | nil => intro ss h; simp only [gArgs, Option.some.injEq] at h; subst h; trivial
  | cons x xs ih =>
    intro ss h
    unfold gArgs at h
    cases h1 : gArg env x with
    | none => simp [h1] at h
    | some s =>
      cases h2 : gArgs env xs with
      | none => simp [h1, h2] at h
      | some ss' =>
        simp only [h1, h2, Option.some.injEq] at h
        subst h
        exact ⟨gArg_den hh h1, ih h2⟩
theorem gWant_ok {ops : Array Oper} {env : List (Nat × Sg)} {o : Oper} {b : Bool} {a : Act} {w : World} (hh : Has (Dg tn base T) env a w) (h : gWant ops env o = some b) : Region.wanted o (yielded ops a.tmps) = b := by
  unfold gWant at h
  unfold Region.wanted
  cases hg : o.guard with
  | none => simp only [hg, Option.some.injEq] at h ⊢; exact h
  | some g =>
    obtain ⟨j, want⟩ := g
    simp only [hg] at h ⊢
    cases hd : (ops[j]?).bind (·.dst) with
    | none => simp [hd] at h
    | some d =>
      simp only [hd] at h
      cases hl : gLook env d with
      | none => simp [hl] at h
      | some s =>
        cases s with
        | lit v =>
          cases v with
          | bool c =>
            simp only [hl, Option.some.injEq] at h
            obtain ⟨v, hv, hden⟩ := hh _ (gLook_mem hl)
            have hv' : v = .bool c := hden
            subst hv'
            simp only at hv
            have : yielded ops a.tmps j = some c := by unfold yielded; rw [hd]; simp [hv]
            rw [this, ← h]
            rfl
          | _ => simp [hl] at h
        | _ => simp [hl] at h
variable {P : Program} {tb : TypeId} {Inv : World → Prop} {ext : FuncId → List Sg → Option Sg}
theorem gDo_ok (hbase : ∀ w, Inv w → base ≤ w.heap.size) (hF : ∃ ts, NodeFacts P tn ts) (htb : P.underlying tb = some .bool) (hE : GExtOK tn base T P Inv ext) (hinvm : ∀ w w', Inv w → Below w.heap.size w w' → Inv w') {env : List (Nat × Sg)} {o : Oper} {s : Sg}
    (h : gDo tn tb ext env o.op = some s) {a : Act} {w : World} (hinv : Inv w) (hh : Has (Dg tn base T) env a w) {K : Act → World → Prop} {Q : Exit → Act → World → Prop}
    (hK : ∀ v w', Dg tn base T s v w' → Below w.heap.size w w' → Inv w' → (∀ s' v', Dg tn base T s' v' w → PairG s' v' s v) → K (a.put o.dst v) w') : o.wp P a w K Q := by
  obtain ⟨ts, hF⟩ := hF
  obtain ⟨i0, hi, hz⟩ := Option.map_eq_some_iff.1 hF.info
  have hz0 : i0.zero = some (.agg zero5) := (Prod.mk.inj hz).1
  have hz1 : i0.size = 5 := (Prod.mk.inj hz).2
  have hnf : ∀ {v : Value}, s ≠ .fresh → ∀ s' v', Dg tn base T s' v' w → PairG s' v' s v := fun h s' v' _ _ h2 => absurd h2 h
  unfold gDo at h
  cases hop : o.op with
  | move x =>
    rw [hop] at h
    obtain ⟨h1, h2⟩ := gPlain_den h
    unfold Oper.wp
    simp only [execOp, hop, Sem.run_pure, Oper.upon_value]
    exact hK _ _ (gArg_den hh h1) (Below.refl _ _) hinv (hnf h2)
  | assign x =>
    rw [hop] at h
    obtain ⟨h1, h2⟩ := gPlain_den h
    unfold Oper.wp
    simp only [execOp, hop, Sem.run_pure, Oper.upon_value]
    exact hK _ _ (gArg_den hh h1) (Below.refl _ _) hinv (hnf h2)
  | load t x =>
    rw [hop] at h
    simp only at h
    split at h
    · rename_i ht
      subst ht
      cases hx : gArg env x with
      | none => simp [hx] at h
      | some sx =>
        cases sx with
        | vr i =>
          simp only [hx, Option.some.injEq] at h
          subst h
          obtain ⟨g, t', he, _, hg, hin⟩ := gArg_den hh hx
          obtain ⟨d, hu, hd⟩ := hF.agg
          refine wp_load_mid t x hop g 0 he t'.cs d ?_ hu hd (by simp [hi, hz1, Nd.cs]) ?_
          · intro j v hv
            rw [Lib.cell_of_heap hg, Nat.zero_add, List.getElem?_toArray]
            exact hv
          · exact hK _ _ ⟨t', rfl, hin⟩ (Below.refl _ _) hinv (hnf (fun e => by cases e))
        | _ => simp [hx] at h
    · cases h
  | alloc t =>
    rw [hop] at h
    simp only at h
    split at h
    · rename_i ht
      subst ht
      injection h with h
      subst h
      have hrun : (Instr.alloc t true (.tuple #[])).run P w = .ok (.pointer (some ⟨w.heap.size, 0, none⟩)) (w.alloc (.cells zero5 t)) := by
        simp [Instr.alloc, zeroValue, typeInfo, hi, hz0, newVar, newRow, Value.cells]
      unfold Oper.wp
      simp only [execOp, hop, Sem.run_bind, hrun, Result.andThen_ok, Sem.run_pure, Oper.upon_value]
      have hb : Below w.heap.size w (w.alloc (.cells zero5 t)) := (Below.refl _ _).alloc (Nat.le_refl _) _
      refine hK _ _ ⟨w.heap.size, rfl, hbase w hinv, heap_alloc_new _ _⟩ hb (hinvm _ _ hinv hb) ?_
      intro s' v' hd hs' _ hv
      subst hs'
      obtain ⟨g, h1, _, h3⟩ := hd
      rw [h1] at hv
      have : g = w.heap.size := by simpa using hv
      have := lt_of_heap h3
      omega
    · cases h
  | call c =>
    rw [hop] at h
    simp only at h
    cases hc : c.callee with
    | value f =>
      cases f with
      | func f =>
        simp only [hc, Option.bind_eq_some_iff] at h
        obtain ⟨ss, hss, hext⟩ := h
        obtain ⟨hext, hnfr⟩ := gPlain_den hext
        obtain ⟨henter, hcall⟩ := hE f ss s hext
        have hd := gArgs_den hh hss
        have hrun : (execOp a.eval o).run P w = .ok (.enter f (c.args.map a.eval)) w := by
          simp [execOp, hop, resolve, hc, Act.eval, Deferred.ofValue, invoke, henter]
        unfold Oper.wp
        rw [hrun, Oper.upon_enter]
        have hargs : c.args.map a.eval = (c.args.toList.map a.eval).toArray := by rw [← Array.toList_map]
        rw [hargs]
        refine (hcall _ w hd hinv).mono ?_
        rintro e w' ⟨v, rfl, hv, hb⟩
        exact hK _ _ hv hb (hinvm _ _ hinv hb) (hnf hnfr)
      | _ => simp [hc] at h
    | _ => simp [hc] at h
  | pick c x y =>
    rw [hop] at h
    simp only at h
    cases hx : gArg env c with
    | none => simp [hx] at h
    | some sx =>
      cases sx with
      | lit v =>
        cases v with
        | bool b =>
          simp only [hx] at h
          have hc : a.eval c = .bool b := gArg_den hh hx
          unfold Oper.wp
          cases b with
          | true =>
            simp only [if_true] at h
            obtain ⟨h1, h2⟩ := gPlain_den h
            simp [execOp, hop, hc, asBool, Oper.upon_value]
            exact hK _ _ (gArg_den hh h1) (Below.refl _ _) hinv (hnf h2)
          | false =>
            simp only [Bool.false_eq_true, if_false] at h
            obtain ⟨h1, h2⟩ := gPlain_den h
            simp [execOp, hop, hc, asBool, Oper.upon_value]
            exact hK _ _ (gArg_den hh h1) (Below.refl _ _) hinv (hnf h2)
        | _ => simp [hx] at h
      | _ => simp [hx] at h
  | binOp b t x y u =>
    rw [hop] at h
    cases b with
    | eql =>
      simp only at h
      split at h
      · rename_i ht
        subst ht
        split at h
        · rename_i p q hx hy
          injection h with h
          subst h
          have h1 : a.eval x = .bool p := gArg_den hh hx
          have h2 : a.eval y = .bool q := gArg_den hh hy
          have h3 := run_eql_bool (P := P) w t p q htb
          unfold Oper.wp
          simp only [execOp, hop, h1, h2, eqGuard, Sem.run_bind, Oper.upon_value]
          simp [h3, Oper.upon_value]
          exact hK _ _ rfl (Below.refl _ _) hinv (hnf (fun e => by cases e))
        · cases h
      · cases h
    | neq =>
      simp only at h
      split at h
      · rename_i i j hx hy
        split at h
        · rename_i hij
          subst hij
          injection h with h
          subst h
          obtain ⟨⟨z, w0, hz⟩, h1⟩ := gArg_den hh hx
          obtain ⟨_, h2⟩ := gArg_den hh hy
          have e1 := h1 z w0 hz
          have e2 := h2 z w0 hz
          unfold Oper.wp
          simp [execOp, hop, e1, e2, eqGuard, binOp, Op.intCmp, Oper.upon_value]
          exact hK _ _ rfl (Below.refl _ _) hinv (hnf (fun e => by cases e))
        · cases h
      · cases h
    | _ => simp at h
  | unOp u t x =>
    rw [hop] at h
    cases u with
    | not =>
      simp only at h
      cases hx : gArg env x with
      | none => simp [hx] at h
      | some sx =>
        cases sx with
        | lit v =>
          cases v with
          | bool b =>
            simp only [hx, Option.some.injEq] at h
            subst h
            have hc : a.eval x = .bool b := gArg_den hh hx
            unfold Oper.wp
            simp [execOp, hop, hc, Op.unary, asBool, Oper.upon_value]
            exact hK _ _ rfl (Below.refl _ _) hinv (hnf (fun e => by cases e))
          | _ => simp [hx] at h
        | _ => simp [hx] at h
    | _ => simp at h
  | _ => rw [hop] at h; simp at h
theorem gOp_ok (hbase : ∀ w, Inv w → base ≤ w.heap.size) (hF : ∃ ts, NodeFacts P tn ts) (htb : P.underlying tb = some .bool) (hE : GExtOK tn base T P Inv ext) (hinvm : ∀ w w', Inv w → Below w.heap.size w w' → Inv w') {ops : Array Oper} {env : List (Nat × Sg)} {o : Oper} {s : Sg}
    (h : gOp tn tb ext ops env o = some s) : ShapeP.OpOK P (Dg tn base T) Inv PairG ops o env s := by
  intro a w hinv hh K Q hK
  unfold gOp at h
  cases hw : gWant ops env o with
  | none => simp [hw] at h
  | some b =>
    rw [gWant_ok hh hw]
    cases b with
    | true =>
      simp only [hw] at h
      simp only [if_true]
      exact gDo_ok hbase hF htb hE hinvm h hinv hh hK
    | false =>
      simp only [hw, Option.some.injEq] at h
      subst h
      simp only [Bool.false_eq_true, if_false]
      exact hK _ _ rfl (Below.refl _ _) hinv (fun s' v' _ _ h2 => by cases h2)
theorem gavail_mono {ops : Array Oper} {a b : List Sg} {js : List Nat} (h : ∀ (j : Nat) (s : Sg), a[j]? = some s → b[j]? = some s) : ∀ p ∈ availOf ops a js, p ∈ availOf ops b js := by
  intro p hp
  obtain ⟨j, hj, he⟩ := List.mem_filterMap.1 hp
  refine List.mem_filterMap.2 ⟨j, hj, ?_⟩
  cases ho : ops[j]? with
  | none => simp [ho] at he
  | some o =>
    cases hs : a[j]? with
    | none => simp [ho, hs] at he
    | some s => simp only [ho, hs, h j s hs] at he ⊢; exact he
theorem gL_ok {ops : Array Oper} {env : List (Nat × Sg)} : ∀ {k : Nat} {shs : List Sg}, gL tn tb ext ops env k = some shs →
    shs.length = k ∧ ∀ (i : Nat) (o : Oper) (s : Sg), ops[i]? = some o → shs[i]? = some s →
      ∃ env', (∀ p ∈ env', p ∈ env ++ availOf ops shs (afters ops i)) ∧ gOp tn tb ext ops env' o = some s := by
  intro k
  induction k with
  | zero => intro shs h; simp only [gL, Option.some.injEq] at h; subst h; exact ⟨rfl, fun i o s _ hs => by simp at hs⟩
  | succ k ih =>
    intro shs h
    unfold gL at h
    cases h1 : gL tn tb ext ops env k with
    | none => simp [h1] at h
    | some pre =>
      cases h2 : ops[k]? with
      | none => simp [h1, h2] at h
      | some ok =>
        simp only [h1, h2] at h
        cases h3 : gOp tn tb ext ops (env ++ availOf ops pre (afters ops k)) ok with
        | none => simp [h3] at h
        | some sk =>
          simp only [h3, Option.some.injEq] at h
          subst h
          obtain ⟨hl, hall⟩ := ih h1
          have hm : ∀ (j : Nat) (s : Sg), pre[j]? = some s → (pre ++ [sk])[j]? = some s := fun j s hj => by
            rw [List.getElem?_append_left (List.getElem?_eq_some_iff.1 hj).1]; exact hj
          refine ⟨by simp [hl], fun i o s ho hs => ?_⟩
          by_cases hik : i < k
          · rw [List.getElem?_append_left (by omega)] at hs
            obtain ⟨env', he, hso⟩ := hall i o s ho hs
            refine ⟨env', fun p hp => ?_, hso⟩
            rcases List.mem_append.1 (he p hp) with hp | hp
            · exact List.mem_append.2 (.inl hp)
            · exact List.mem_append.2 (.inr (gavail_mono hm p hp))
          · have hik' : i = k := by
              have := (List.getElem?_eq_some_iff.1 hs).1
              simp at this
              omega
            subst hik'
            obtain rfl : ok = o := Option.some.inj (h2.symm.trans ho)
            rw [List.getElem?_append_right (by omega), hl, Nat.sub_self] at hs
            obtain rfl : sk = s := by simpa using hs
            refine ⟨_, fun p hp => ?_, h3⟩
            rcases List.mem_append.1 hp with hp | hp
            · exact List.mem_append.2 (.inl hp)
            · exact List.mem_append.2 (.inr (gavail_mono hm p hp))
def gCheck (ops : Array Oper) (env : List (Nat × Sg)) (n0 n : Nat) : Bool :=
  apartB ops (env.map fun p => (p.1, Sh.fresh)) n0 && ((List.range ops.size).all fun k => decide (k < n) || waitsB ops k)
theorem gCheck_ok {ops : Array Oper} {env : List (Nat × Sg)} {n0 n : Nat} (h : gCheck ops env n0 n = true) : ShapeR.Apart ops env n0 ∧ ∀ k, n ≤ k → k < ops.size → ShapeR.Waits ops k := by
  simp only [gCheck, Bool.and_eq_true, List.all_eq_true, List.mem_range, Bool.or_eq_true, decide_eq_true_eq] at h
  refine ⟨?_, fun k hk hkN => waitsB_ok ((h.2 k hkN).resolve_left (by omega))⟩
  have ha := apartB_ok h.1
  exact ⟨fun i o d ho hd => ⟨(ha.low i o d ho hd).1, fun p hp => (ha.low i o d ho hd).2 (p.1, .fresh) (List.mem_map.2 ⟨p, hp, rfl⟩)⟩, ha.once⟩
/-- A region, whatever order is drawn. -/
theorem gRegion (hm : P.follows .mixedOrders = true) (hT : ∀ i x w w', T i x w → Below w.heap.size w w' → T i x w') (hbase : ∀ w, Inv w → base ≤ w.heap.size) (hF : ∃ ts, NodeFacts P tn ts) (htb : P.underlying tb = some .bool) (hE : GExtOK tn base T P Inv ext) (hinvm : ∀ w w', Inv w → Below w.heap.size w w' → Inv w')
    {id n N n0 : Nat} {ops : Array Oper} {env : List (Nat × Sg)} {shs : List Sg} {df : List Deferred} (hnN : n < N) (hN : ops.size = N) (hchk : gCheck ops env n0 n = true) (hL : gL tn tb ext ops env n = some shs) {a : Act} {w : World} {Q : Exit → Act → World → Prop}
    (h0 : ShapeP.Came (Dg tn base T) Inv env n0 df w a w)
    (hlast : ∀ a' w', Below w.heap.size w w' → ShapeP.St (Dg tn base T) Inv PairG ops env shs n0 df (fun j => j < n) a' w' → wpOps P ops Q (List.range' n (N - n)) a' w') :
    (Code.region id ops true).wp P Q a w := by
  obtain ⟨hap, hw⟩ := gCheck_ok hchk
  obtain ⟨hlen, hall⟩ := gL_ok hL
  refine ShapeP.wp_drawn hm (Dg.mono hT) PairG.symm hinvm hap hnN (fun k h1 h2 => hw k h1 (by omega)) hN hlen (fun i o s hoi hsi => ?_) h0 hlast
  obtain ⟨env', he, hs⟩ := hall i o s hoi hsi
  exact fun a w hi hh K Q hK => gOp_ok hbase hF htb hE hinvm hs a w hi (fun p hp => hh p (he p hp)) K Q hK
/-- What the last operation of a region comes to. -/
def gEnd (tn tb : TypeId) (ext : FuncId → List Sg → Option Sg) (ops : Array Oper) (env : List (Nat × Sg)) (n : Nat) : Option (Nat × Value) :=
  match gL tn tb ext ops env n, ops[n]? with
  | some shs, some o => match o.dst, gOp tn tb ext ops (env ++ availOf ops shs (List.range n)) o with
    | some d, some (.lit v) => some (d, v)
    | _, _ => none
  | _, _ => none
/-- The slots that a region writes lie between these two. -/
def boundB (ops : Array Oper) (m mx : Nat) : Bool := (List.range ops.size).all fun k => match ops[k]? with | some o => (match o.dst with | some d => decide (m ≤ d) && decide (d ≤ mx) | none => true) | none => true
theorem boundB_ok {ops : Array Oper} {m mx : Nat} (h : boundB ops m mx = true) : ∀ (i : Nat) (o : Oper) (d : Nat), ops[i]? = some o → o.dst = some d → m ≤ d ∧ d ≤ mx := by
  intro i o d ho hd
  have hi : i < ops.size := (Array.getElem?_eq_some_iff.1 ho).1
  have := List.all_eq_true.1 h i (List.mem_range.2 hi)
  simp only [ho, hd, Bool.and_eq_true, decide_eq_true_eq] at this
  exact this
def frameOf (a : Act) (n0 m mx : Nat) : List (Nat × Sg) := (List.range n0).filterMap fun d => if m ≤ d ∧ d ≤ mx then none else (a.tmps[d]?).map fun v => (d, Sg.lit v)
theorem frameOf_mem {a : Act} {n0 m mx : Nat} {p : Nat × Sg} (h : p ∈ frameOf a n0 m mx) : ¬ (m ≤ p.1 ∧ p.1 ≤ mx) ∧ ∃ v, a.tmps[p.1]? = some v ∧ p.2 = .lit v := by
  obtain ⟨d, _, he⟩ := List.mem_filterMap.1 h
  split at he
  · cases he
  · rename_i hn
    obtain ⟨v, hv, rfl⟩ := Option.map_eq_some_iff.1 he
    exact ⟨hn, v, hv, rfl⟩
theorem mem_frameOf {a : Act} {n0 m mx d : Nat} {v : Value} (hd : d < n0) (hn : ¬ (m ≤ d ∧ d ≤ mx)) (hv : a.tmps[d]? = some v) : (d, Sg.lit v) ∈ frameOf a n0 m mx :=
  List.mem_filterMap.2 ⟨d, List.mem_range.2 hd, by rw [if_neg hn, hv]; rfl⟩
theorem gRegion_end (hm : P.follows .mixedOrders = true) (hT : ∀ i x w w', T i x w → Below w.heap.size w w' → T i x w') (hbase : ∀ w, Inv w → base ≤ w.heap.size) (hF : ∃ ts, NodeFacts P tn ts) (htb : P.underlying tb = some .bool) (hE : GExtOK tn base T P Inv ext) (hinvm : ∀ w w', Inv w → Below w.heap.size w w' → Inv w')
    {id n n0 d m mx : Nat} {ops : Array Oper} {env : List (Nat × Sg)} {v : Value} {df : List Deferred} (hN : ops.size = n + 1) (hchk : gCheck ops env n0 n = true) (hbd : boundB ops m mx = true) (hend : gEnd tn tb ext ops env n = some (d, v)) {a : Act} {w : World} {Q : Exit → Act → World → Prop}
    (h0 : ShapeP.Came (Dg tn base T) Inv env n0 df w a w)
    (hQ : ∀ a' w', a'.tmps.size = n0 → (∀ d', d' < n0 → ¬ (m ≤ d' ∧ d' ≤ mx) → a'.tmps[d']? = a.tmps[d']?) → a'.tmps[d]? = some v → a'.defers = df → Inv w' → Below w.heap.size w w' → Q .normal a' w') :
    (Code.region id ops true).wp P Q a w := by
  unfold gEnd at hend
  split at hend
  · rename_i shs o hL ho
    split at hend
    · rename_i d' v' hd hop
      injection hend with hend
      obtain ⟨rfl, rfl⟩ := Prod.mk.inj hend
      obtain ⟨hap, hw⟩ := gCheck_ok hchk
      obtain ⟨hlen, hall⟩ := gL_ok hL
      have hap' : ShapeR.Apart ops (env ++ frameOf a n0 m mx) n0 := ⟨fun i o d ho hd => ⟨(hap.low i o d ho hd).1, fun p hp => by
        rcases List.mem_append.1 hp with hp | hp
        · exact (hap.low i o d ho hd).2 p hp
        · have h1 := boundB_ok hbd i o d ho hd
          have h2 := (frameOf_mem hp).1
          exact fun e => h2 (by rw [e]; exact h1)⟩, hap.once⟩
      have h0' : ShapeP.Came (Dg tn base T) Inv (env ++ frameOf a n0 m mx) n0 df w a w := ⟨h0.inv, h0.size, h0.defers, fun p hp => by
        rcases List.mem_append.1 hp with hp | hp
        · exact h0.has p hp
        · obtain ⟨_, v, hv, he⟩ := frameOf_mem hp
          exact ⟨v, hv, by rw [he]; rfl⟩, h0.below⟩
      refine ShapeP.wp_drawn hm (Dg.mono hT) PairG.symm hinvm hap' (Nat.lt_succ_self n) (fun k h1 h2 => hw k h1 (by omega)) hN hlen (fun i o s hoi hsi => ?_) h0' ?_
      · obtain ⟨env', he, hs⟩ := hall i o s hoi hsi
        refine fun a w hi hh K Q hK => gOp_ok hbase hF htb hE hinvm hs a w hi (fun p hp => hh p ?_) K Q hK
        rcases List.mem_append.1 (he p hp) with h | h
        · exact List.mem_append_left _ (List.mem_append_left _ h)
        · exact List.mem_append_right _ h
      intro a' w' hb hst
      have hh0 : Has (Dg tn base T) ((env ++ frameOf a n0 m mx) ++ availOf ops shs (List.range n)) a' w' := hst.all (js := List.range n) (fun j hj => List.mem_range.1 hj)
      have hh : Has (Dg tn base T) (env ++ availOf ops shs (List.range n)) a' w' := fun p hp => hh0 p (by
        rcases List.mem_append.1 hp with h | h
        · exact List.mem_append_left _ (List.mem_append_left _ h)
        · exact List.mem_append_right _ h)
      rw [show n + 1 - n = 1 from by omega, show List.range' n 1 = [n] from rfl, wpOps_cons]
      refine ShapeR.wpOp_of ho ?_
      refine gOp_ok hbase hF htb hE hinvm hop a' w' hst.inv hh _ _ fun v2 w2 hv2 hb2 hi2 _ => ?_
      obtain rfl : v2 = v' := hv2
      have hlow := hap.low n o d' ho hd
      have hbn := boundB_ok hbd n o d' ho hd
      rw [hd]
      have hfin : Q .normal (a'.put (some d') v2) w2 := by
        refine hQ _ _ ((ShapeR.put_size _ _ _).trans hst.size) ?_ (ShapeR.put_same _ _ _ (by rw [hst.size]; exact hlow.1)) ((ShapeR.put_defers _ _ _).trans hst.defers) hi2 (hb.trans (hb2.mono hb.size))
        intro d2 hd2 hn2
        rw [ShapeR.put_other _ _ _ _ (fun e => hn2 (by rw [← Option.some.inj e]; exact hbn))]
        have hds : d2 < a.tmps.size := by rw [h0.size]; exact hd2
        obtain ⟨x, hx, hdx⟩ := hst.out (d2, Sg.lit a.tmps[d2]) (List.mem_append_right _ (mem_frameOf hd2 hn2 (Array.getElem?_eq_getElem hds)))
        rw [hx, Array.getElem?_eq_getElem hds]
        exact congrArg some hdx
      exact hfin
    · cases hend
  · cases hend
end
end NodT
namespace NodT
open Go Go.RowKit
set_option linter.unusedVariables false
set_option linter.unusedSimpArgs false
theorem same_refl : ∀ t : Nd, same t t = true := by
  refine Nd.rose fun t ih => ?_
  rw [same_eq]
  have : sameL t.kids t.kids = true := (sameL_iff _ _).2 ⟨rfl, fun i a b ha hb => by obtain rfl := Option.some.inj (ha.symm.trans hb); exact ih a (List.mem_of_getElem? ha)⟩
  simp [this]
theorem like_parts {t x : Nd} (h : like t x = true) : t.kind = x.kind ∧ t.text.toList = x.text.toList ∧ t.num = x.num ∧ t.place = x.place ∧ likeL t.kids x.kids = true := by
  rw [like_eq] at h
  simp only [Bool.and_eq_true, beq_iff_eq] at h
  exact ⟨h.1.1.1.1, h.1.1.1.2, h.1.1.2, h.1.2, h.2⟩
theorem like_symm : ∀ (t x : Nd), like t x = true → like x t = true := by
  refine Nd.rose fun t ih x h => ?_
  obtain ⟨h1, h2, h3, h4, h5⟩ := like_parts h
  rw [like_eq]
  have : likeL x.kids t.kids = true := by
    obtain ⟨hl, ha⟩ := (likeL_iff _ _).1 h5
    exact (likeL_iff _ _).2 ⟨hl.symm, fun i a b hx ht => ih b (List.mem_of_getElem? ht) a (ha i b a ht hx)⟩
  simp [h1, h2, h3, h4, this]
theorem same_like : ∀ (t x u y : Nd), like t x = true → like u y = true → same x y = same t u := by
  refine Nd.rose fun t ih x u y h k => ?_
  obtain ⟨h1, h2, h3, h4, h5⟩ := like_parts h
  obtain ⟨k1, k2, k3, k4, k5⟩ := like_parts k
  rw [same_eq, same_eq, h1, h2, h3, k1, k2, k3]
  congr 1
  obtain ⟨hl, ha⟩ := (likeL_iff _ _).1 h5
  obtain ⟨kl, ka⟩ := (likeL_iff _ _).1 k5
  rw [Bool.eq_iff_iff, sameL_iff, sameL_iff]
  constructor
  · rintro ⟨e, hs⟩
    refine ⟨by omega, fun i a b hta hub => ?_⟩
    have hi1 : i < x.kids.length := by have := (List.getElem?_eq_some_iff.1 hta).1; omega
    have hi2 : i < y.kids.length := by have := (List.getElem?_eq_some_iff.1 hub).1; omega
    have e1 := List.getElem?_eq_getElem hi1
    have e2 := List.getElem?_eq_getElem hi2
    rw [← ih a (List.mem_of_getElem? hta) _ b _ (ha i a _ hta e1) (ka i b _ hub e2)]
    exact hs i _ _ e1 e2
  · rintro ⟨e, hs⟩
    refine ⟨by omega, fun i a b hxa hyb => ?_⟩
    have hi1 : i < t.kids.length := by have := (List.getElem?_eq_some_iff.1 hxa).1; omega
    have hi2 : i < u.kids.length := by have := (List.getElem?_eq_some_iff.1 hyb).1; omega
    have e1 := List.getElem?_eq_getElem hi1
    have e2 := List.getElem?_eq_getElem hi2
    rw [ih _ (List.getElem_mem hi1) a _ b (ha i _ a e1 hxa) (ka i _ b e2 hyb)]
    exact hs i _ _ e1 e2
theorem many_like : ∀ (t x : Nd), like t x = true → many x = many t := by
  refine Nd.rose fun t ih x h => ?_
  obtain ⟨_, _, _, _, h5⟩ := like_parts h
  rw [many_eq, many_eq]
  have key : ∀ (ts xs : List Nd), (∀ u ∈ ts, ∀ y, like u y = true → many y = many u) → likeL ts xs = true → manyL xs = manyL ts := by
    intro ts
    induction ts with
    | nil => intro xs _ hl; cases xs with | nil => rfl | cons y ys => simp [likeL] at hl
    | cons u us ih2 =>
      intro xs hu hl
      cases xs with
      | nil => simp [likeL] at hl
      | cons y ys =>
        simp only [likeL, Bool.and_eq_true] at hl
        simp only [manyL]
        rw [hu u (List.mem_cons_self) y hl.1, ih2 ys (fun v hv => hu v (List.mem_cons_of_mem _ hv)) hl.2]
  rw [key t.kids x.kids ih h5]
end NodT
