/- Trees that are built: the shapes of slots, and what each operation makes of them. -/
/- Trees that are built: a region's operations told by a program, and that the program is right. -/
/- Trees that are built: whole regions, told by a program. -/
import Derived.Test.YtldedhfbpongmaaDoorNodTree
import Derived.Lib.Builder
import Derived.Test.YtldedhfbpongmaaDoorNodRa
import Derived.Deep.MidRow
import Derived.Great.BuildSlice
import Derived.Shelf.Abstract
import Derived.Test.YtldedhfbpongmaaDoorNodP
set_option maxRecDepth 100000
namespace NodT
open Go Go.RowKit ShapeR
set_option linter.unusedVariables false
set_option linter.unusedSimpArgs false
mutual
/-- A tree without the places in memory where it lies. -/
def er : Nd → Nd | .mk k s n p _ _ ks => .mk k s n p none 0 (erL ks)
def erL : List Nd → List Nd | [] => [] | t :: ts => er t :: erL ts
end
mutual
/-- Below the root no node is of kind 0. -/
def nz : Nd → Bool | .mk _ _ _ _ _ _ ks => nzL ks
def nzL : List Nd → Bool | [] => true | t :: ts => t.kind != 0 && nz t && nzL ts
end
theorem erL_map (ts : List Nd) : erL ts = ts.map er := by induction ts with | nil => rfl | cons t ts ih => simp [erL, ih]
theorem er_kind (t : Nd) : (er t).kind = t.kind := by cases t; rfl
theorem er_kids (t : Nd) : (er t).kids = erL t.kids := by cases t; rfl
theorem nz_eq (t : Nd) : nz t = nzL t.kids := by cases t; rfl
theorem nzL_iff (ts : List Nd) : nzL ts = true ↔ ∀ t ∈ ts, t.kind ≠ 0 ∧ nz t = true := by
  induction ts with
  | nil => simp [nzL]
  | cons t ts ih => simp [nzL, ih, and_assoc]
theorem nz_er : ∀ t : Nd, nz (er t) = nz t := by
  refine Nd.rose fun t ih => ?_
  rw [nz_eq, nz_eq, er_kids, Bool.eq_iff_iff, nzL_iff, nzL_iff, erL_map]
  simp only [List.mem_map, forall_exists_index, and_imp, forall_apply_eq_imp_iff₂, er_kind]
  exact ⟨fun h u hu => by rw [← ih u hu]; exact h u hu, fun h u hu => by rw [ih u hu]; exact h u hu⟩
/-- The shape of a slot. -/
inductive Sh where
  | lit (v : Value)
  | tree (T : Nd)
  | row (Ts : List Nd)
  | fresh
  | res
  | var (T : Nd)
def zero5 : Array Value := #[.int .u8 0, .string ⟨#[]⟩, .int .i64 0, .int .i64 0, .slice none 0 0]
/-- A value of a shape. -/
def Den (tn : TypeId) (base : Nat) : Sh → Value → World → Prop
  | .lit x, v, _ => v = x
  | .tree T, v, w => ∃ t : Nd, v = t.val ∧ er t = T ∧ In w w.heap.size t
  | .row Ts, v, w => ∃ (A : Option Addr) (c : Nat) (ks : List Nd), v = .slice A ks.length c ∧ erL ks = Ts ∧ InL w w.heap.size A c ks
  | .fresh, v, w => ∃ g, v = .pointer (some ⟨g, 0, none⟩) ∧ base < g ∧ w.heap[g]? = some (.cells zero5 tn)
  | .res, v, w => v = .pointer (some ⟨base, 0, none⟩) ∧ w.heap[base]? = some (.cells zero5 tn)
  | .var T, v, w => ∃ (g : Nat) (t : Nd), v = .pointer (some ⟨g, 0, none⟩) ∧ base ≤ g ∧ w.heap[g]? = some (.cells t.cs.toArray tn) ∧ er t = T ∧ In w w.heap.size t
theorem lt_of_heap {w : World} {g : Nat} {o : Obj} (h : w.heap[g]? = some o) : g < w.heap.size := (Array.getElem?_eq_some_iff.1 h).1
theorem Den.mono (tn : TypeId) (base : Nat) (s : Sh) (v : Value) (w w' : World) (h : Den tn base s v w) (hb : Below w.heap.size w w') : Den tn base s v w' := by
  cases s with
  | lit x => exact h
  | tree T =>
    obtain ⟨t, h1, h2, h3⟩ := h
    exact ⟨t, h1, h2, (h3.under hb).more hb.size⟩
  | row Ts =>
    obtain ⟨A, c, ks, h1, h2, h3⟩ := h
    exact ⟨A, c, ks, h1, h2, (h3.under hb).more hb.size⟩
  | fresh =>
    obtain ⟨g, h1, h2, h3⟩ := h
    exact ⟨g, h1, h2, (hb.block g (lt_of_heap h3)).trans h3⟩
  | res =>
    obtain ⟨h1, h2⟩ := h
    exact ⟨h1, (hb.block base (lt_of_heap h2)).trans h2⟩
  | var T =>
    obtain ⟨g, t, h1, h2, h3, h4, h5⟩ := h
    exact ⟨g, t, h1, h2, (hb.block g (lt_of_heap h3)).trans h3, h4, (h5.under hb).more hb.size⟩
/-- What a store into a fresh variable leaves: the variable's block turned, all else as it was. -/
structure Stored (w w1 : World) (g : Nat) (o : Obj) : Prop where
  os : w1.os = w.os
  tape : w1.tape = w.tape
  output : w1.output = w.output
  size : w1.heap.size = w.heap.size
  here : w1.heap[g]? = some o
  else_ : ∀ k, k ≠ g → w1.heap[k]? = w.heap[k]?
theorem cell_of_heap {w w1 : World} {p : Addr} (h : w1.heap[p.block]? = w.heap[p.block]?) : w1.cell? p = w.cell? p := by
  unfold World.cell?
  rw [h]
theorem zero_cell {w : World} {g : Nat} {tn : TypeId} (h : w.heap[g]? = some (.cells zero5 tn)) (j : Nat) : w.cell? ⟨g, j, none⟩ = zero5[j]? := by
  rw [Lib.cell_of_heap h]
theorem Lies.off {w : World} {B : Nat} {A : Option Addr} {ks : List Nd} {g : Nat} {tn : TypeId} (h : Lies w B A ks) (hk : ∀ t ∈ ks, t.kind ≠ 0) (hz : w.heap[g]? = some (.cells zero5 tn)) (h0 : 0 < ks.length) :
    ∃ b o, A = some ⟨b, o, none⟩ ∧ b ≠ g := by
  obtain ⟨b, o, hA, hb, hc⟩ := h h0
  refine ⟨b, o, hA, ?_⟩
  rintro rfl
  obtain ⟨t, ht⟩ : ∃ t, ks[0]? = some t := ⟨_, List.getElem?_eq_getElem h0⟩
  have c0 := hc 0 t ht 0 _ rfl
  have c4 := hc 0 t ht 4 _ rfl
  rw [zero_cell hz] at c0 c4
  have h4 : o + 0 * 5 + 4 < zero5.size := (Array.getElem?_eq_some_iff.1 c4).1
  have h5 : zero5.size = 5 := rfl
  obtain rfl : o = 0 := by omega
  simp [zero5] at c0
  exact hk t (List.mem_of_getElem? ht) (by omega)
theorem Lies.stored {w w1 : World} {B : Nat} {A : Option Addr} {ks : List Nd} {g : Nat} {tn : TypeId} {o : Obj} (h : Lies w B A ks) (hk : ∀ t ∈ ks, t.kind ≠ 0) (hz : w.heap[g]? = some (.cells zero5 tn)) (hs : Stored w w1 g o) : Lies w1 B A ks := by
  intro h0
  obtain ⟨b, off, hA, hne⟩ := h.off hk hz h0
  obtain ⟨b', off', hA', hb, hc⟩ := h h0
  rw [hA] at hA'
  obtain ⟨rfl, rfl⟩ : b = b' ∧ off = off' := by simpa using hA'
  refine ⟨b, off, hA, hb, fun i t ht j v hv => ?_⟩
  rw [cell_of_heap (hs.else_ b hne)]
  exact hc i t ht j v hv
theorem In.stored {w w1 : World} {B : Nat} {t : Nd} {g : Nat} {tn : TypeId} {o : Obj} (h : In w B t) (hk : nz t = true) (hz : w.heap[g]? = some (.cells zero5 tn)) (hs : Stored w w1 g o) : In w1 B t := by
  induction h with
  | mk t hf hr hkid ih =>
    rw [nz_eq, nzL_iff] at hk
    exact .mk t hf (hr.stored (fun u hu => (hk u hu).1) hz hs) fun i u hi => ih i u hi (hk u (List.mem_of_getElem? hi)).2
/-- All shapes of which a store into a fresh variable takes nothing. -/
def Sh.nz : Sh → Bool
  | .tree T => NodT.nz T
  | .var T => NodT.nz T && T.kind != 0
  | .row Ts => nzL Ts
  | _ => true
theorem Den.stored {tn : TypeId} {base : Nat} {s : Sh} {v : Value} {w w1 : World} {g : Nat} {o : Obj} (h : Den tn base s v w) (hn : s.nz = true) (hf : s = .fresh → g = base) (hr : s = .res → g ≠ base) (hz : w.heap[g]? = some (.cells zero5 tn)) (hs : Stored w w1 g o) : Den tn base s v w1 := by
  cases s with
  | lit x => exact h
  | tree T =>
    obtain ⟨t, h1, rfl, h3⟩ := h
    refine ⟨t, h1, rfl, ?_⟩
    rw [hs.size]
    exact h3.stored (by rw [← nz_er]; exact hn) hz hs
  | row Ts =>
    obtain ⟨A, c, ks, h1, rfl, h3⟩ := h
    have hk : ∀ t ∈ ks, t.kind ≠ 0 ∧ NodT.nz t = true := by
      have : nzL (erL ks) = true := hn
      rw [nzL_iff, erL_map] at this
      intro t ht
      have := this (er t) (List.mem_map_of_mem ht)
      rwa [er_kind, nz_er] at this
    refine ⟨A, c, ks, h1, rfl, ?_⟩
    rw [hs.size]
    exact ⟨h3.rows.stored (fun t ht => (hk t ht).1) hz hs, h3.len, h3.nil, h3.cap, fun t ht => (h3.each t ht).stored (hk t ht).2 hz hs⟩
  | fresh =>
    obtain ⟨g', h1, h2, h3⟩ := h
    have := hf rfl
    exact ⟨g', h1, h2, (hs.else_ g' (by omega)).trans h3⟩
  | res =>
    obtain ⟨h1, h2⟩ := h
    exact ⟨h1, (hs.else_ base (Ne.symm (hr rfl))).trans h2⟩
  | var T =>
    obtain ⟨g', t, h1, h2, h3, rfl, h5⟩ := h
    have hn' : NodT.nz (er t) = true ∧ (er t).kind ≠ 0 := by simpa [Sh.nz] using hn
    have hne : g' ≠ g := by
      rintro rfl
      rw [hz] at h3
      have h6 := Option.some.inj h3
      injection h6 with h7
      have h8 := congrArg (fun c => c[0]?) h7
      simp [zero5, Nd.cs] at h8
      exact hn'.2 (by rw [er_kind]; omega)
    refine ⟨g', t, h1, h2, (hs.else_ g' hne).trans h3, rfl, ?_⟩
    rw [hs.size]
    exact h5.stored (by rw [← nz_er]; exact hn'.1) hz hs
end NodT
namespace NodT
open Go Go.RowKit ShapeR
set_option linter.unusedVariables false
set_option linter.unusedSimpArgs false
theorem row_new {w : World} {ks : List Nd} {e : TypeId} (h : ∀ t ∈ ks, In w w.heap.size t) (hm : ks.length ≤ maxLen) :
    InL (w.alloc (.cells (cells ks).toArray e)) (w.alloc (.cells (cells ks).toArray e)).heap.size (some ⟨w.heap.size, 0, none⟩) ks.length ks := by
  have ho := own_lit w w.heap.size e ks (Nat.le_refl _) hm
  have hl := lies_of_own ho
  have hb : Below w.heap.size w (w.alloc (.cells (cells ks).toArray e)) := (Below.refl _ _).alloc (Nat.le_refl _) _
  exact ⟨hl, Nat.le_refl _, (fun h => by cases h), hm, fun t ht => ((h t ht).under hb).more hb.size⟩
def look (env : List (Nat × Sh)) (d : Nat) : Option Sh := (env.find? fun p => p.1 == d).map (·.2)
def symArg (env : List (Nat × Sh)) : Operand → Option Sh
  | .const v => some (.lit v)
  | .tmp d => look env d
  | _ => none
def symArgs (env : List (Nat × Sh)) : List Operand → Option (List Sh)
  | [] => some []
  | x :: xs => match symArg env x, symArgs env xs with | some s, some ss => some (s :: ss) | _, _ => none
def trees : List Sh → Option (List Nd)
  | [] => some []
  | .tree T :: ss => match trees ss with | some Ts => some (T :: Ts) | none => none
  | _ => none
def wantS (ops : Array Oper) (env : List (Nat × Sh)) (o : Oper) : Option Bool :=
  match o.guard with
  | none => some true
  | some (j, b) => match (ops[j]?).bind (·.dst) with
    | some d => match look env d with | some (.lit (.bool c)) => some (c == b) | _ => none
    | none => none
def symDo (tn ts : TypeId) (ext : FuncId → List Sh → Option Sh) (env : List (Nat × Sh)) (op : Op) : Option Sh :=
  match op with
  | .move x => symArg env x
  | .assign x => symArg env x
  | .load t x => if t = tn then match symArg env x with | some (.var T) => some (.tree T) | _ => none else none
  | .alloc t => if t = tn then some .fresh else none
  | .buildSlice t n parts => if t = ts ∧ 0 < n ∧ n ≤ 1000 ∧ parts.toList.map (·.1) = List.range n then
      match symArgs env (parts.toList.map (·.2)) with | some ss => (trees ss).map .row | none => none else none
  | .call c => match c.callee with | .value (.func f) => (symArgs env c.args.toList).bind (ext f) | _ => none
  | .pick c x y => match symArg env c with | some (.lit (.bool b)) => if b then symArg env x else symArg env y | _ => none
  | .unOp .not _ x => match symArg env x with | some (.lit (.bool b)) => some (.lit (.bool !b)) | _ => none
  | .binOp .eql _ x y _ => match symArg env x, symArg env y with | some (.lit (.int .i64 a)), some (.lit (.int .i64 b)) => some (.lit (.bool (a == b))) | _, _ => none
  | _ => none
def symOp (tn ts : TypeId) (ext : FuncId → List Sh → Option Sh) (ops : Array Oper) (env : List (Nat × Sh)) (o : Oper) : Option Sh :=
  match wantS ops env o with
  | some true => symDo tn ts ext env o.op
  | some false => some (.lit undef)
  | none => none
section
variable {P : Program} {tn ts : TypeId} {base : Nat} {Inv : World → Prop} {ext : FuncId → List Sh → Option Sh}
def DenAll (tn : TypeId) (base : Nat) : List Sh → List Value → World → Prop
  | [], [], _ => True
  | s :: ss, v :: vs, w => Den tn base s v w ∧ DenAll tn base ss vs w
  | _, _, _ => False
/-- The callees do as the table says. -/
def ExtOK (P : Program) (tn : TypeId) (base : Nat) (Inv : World → Prop) (ext : FuncId → List Sh → Option Sh) : Prop :=
  ∀ (f : FuncId) (shs : List Sh) (s : Sh), ext f shs = some s → (∀ args w, (callFunc f args).run P w = .ok (.enter f args) w) ∧
    ∀ (vs : List Value) (w : World), DenAll tn base shs vs w → Inv w → Calls P f vs.toArray w fun e w' => ∃ v, e = .returned v ∧ Den tn base s v w' ∧ Below w.heap.size w w'
/-- The program's own facts on nodes. -/
structure NodeFacts (P : Program) (tn ts : TypeId) : Prop where
  row : P.underlying ts = some (.slice tn)
  agg : ∃ d, P.underlying tn = some d ∧ d.isRow = true
  info : (P.info? tn).map (fun i => (i.zero, i.size)) = some (some (.agg zero5), 5)
theorem look_mem {env : List (Nat × Sh)} {d : Nat} {s : Sh} (h : look env d = some s) : (d, s) ∈ env := by
  unfold look at h
  obtain ⟨p, hp, rfl⟩ := Option.map_eq_some_iff.1 h
  have h1 := List.mem_of_find?_eq_some hp
  have h2 := List.find?_some hp
  have : p.1 = d := by simpa using h2
  rw [← this]
  exact h1
theorem symArg_den {env : List (Nat × Sh)} {a : Act} {w : World} (hh : Has (Den tn base) env a w) {x : Operand} {s : Sh} (h : symArg env x = some s) : Den tn base s (a.eval x) w := by
  cases x with
  | const v => simp only [symArg, Option.some.injEq] at h; subst h; rfl
  | tmp d =>
    obtain ⟨v, hv, hd⟩ := hh _ (look_mem h)
    have : a.eval (.tmp d) = v := by
      show a.tmps.getD d undef = v
      simp only at hv
      unfold Array.getD
      obtain ⟨hlt, he⟩ := Array.getElem?_eq_some_iff.1 hv
      simp [hlt, he]
    rw [this]
    exact hd
  | global g => simp [symArg] at h
  | func f => simp [symArg] at h
theorem symArgs_den {env : List (Nat × Sh)} {a : Act} {w : World} (hh : Has (Den tn base) env a w) : ∀ {xs : List Operand} {ss : List Sh}, symArgs env xs = some ss → DenAll tn base ss (xs.map a.eval) w := by
  intro xs
  induction xs with
  | nil => intro ss h; simp only [symArgs, Option.some.injEq] at h; subst h; trivial
  | cons x xs ih =>
    intro ss h
    unfold symArgs at h
    cases h1 : symArg env x with
    | none => simp [h1] at h
    | some s =>
      cases h2 : symArgs env xs with
      | none => simp [h1, h2] at h
      | some ss' =>
        simp only [h1, h2, Option.some.injEq] at h
        subst h
        exact ⟨symArg_den hh h1, ih h2⟩
theorem trees_den {w : World} : ∀ {ss : List Sh} {Ts : List Nd} {vs : List Value}, trees ss = some Ts → DenAll tn base ss vs w →
    ∃ ks : List Nd, vs = ks.map Nd.val ∧ erL ks = Ts ∧ ∀ t ∈ ks, In w w.heap.size t := by
  intro ss
  induction ss with
  | nil =>
    intro Ts vs h hd
    simp only [trees, Option.some.injEq] at h
    subst h
    cases vs with
    | nil => exact ⟨[], rfl, rfl, fun t h => by cases h⟩
    | cons v vs => exact hd.elim
  | cons s ss ih =>
    intro Ts vs h hd
    cases s with
    | tree T =>
      unfold trees at h
      cases h2 : trees ss with
      | none => simp [h2] at h
      | some Ts' =>
        simp only [h2, Option.some.injEq] at h
        subst h
        cases vs with
        | nil => exact hd.elim
        | cons v vs =>
          obtain ⟨⟨t, rfl, rfl, hin⟩, hr⟩ := hd
          obtain ⟨ks, rfl, rfl, hall⟩ := ih h2 hr
          refine ⟨t :: ks, rfl, rfl, fun u hu => ?_⟩
          rcases List.mem_cons.1 hu with rfl | hu
          · exact hin
          · exact hall u hu
    | lit v => simp [trees] at h
    | row Ts => simp [trees] at h
    | fresh => simp [trees] at h
    | res => simp [trees] at h
    | var T => simp [trees] at h
theorem wantS_ok {ops : Array Oper} {env : List (Nat × Sh)} {o : Oper} {b : Bool} {a : Act} {w : World} (hh : Has (Den tn base) env a w) (h : wantS ops env o = some b) : Region.wanted o (yielded ops a.tmps) = b := by
  unfold wantS at h
  unfold Region.wanted
  cases hg : o.guard with
  | none => simp only [hg, Option.some.injEq] at h ⊢; exact h
  | some g =>
    obtain ⟨j, want⟩ := g
    simp only [hg] at h ⊢
    cases hd : (ops[j]?).bind (·.dst) with
    | none => simp [hd] at h
    | some d =>
      simp only [hd] at h
      cases hl : look env d with
      | none => simp [hl] at h
      | some s =>
        cases s with
        | lit v =>
          cases v with
          | bool c =>
            simp only [hl, Option.some.injEq] at h
            obtain ⟨v, hv, hden⟩ := hh _ (look_mem hl)
            have hv' : v = .bool c := hden
            subst hv'
            simp only at hv
            have : yielded ops a.tmps j = some c := by unfold yielded; rw [hd]; simp [hv]
            rw [this, ← h]
            rfl
          | _ => simp [hl] at h
        | _ => simp [hl] at h
theorem zip_of {α : Type} : ∀ (l : List (Nat × α)) (n : Nat), l.map (·.1) = List.range' n l.length → l = ((l.map (·.2)).zipIdx n).map fun x => (x.2, x.1) := by
  intro l
  induction l with
  | nil => intro n _; rfl
  | cons x l ih =>
    intro n h
    simp only [List.map_cons, List.length_cons, List.range'_succ, List.cons.injEq] at h
    simp only [List.map_cons, List.zipIdx_cons, List.cons.injEq]
    refine ⟨by rw [← h.1], ih (n + 1) h.2⟩
theorem symDo_ok (hbase : ∀ w, Inv w → base < w.heap.size) (hF : NodeFacts P tn ts) (hE : ExtOK P tn base Inv ext) (hinvm : ∀ w w', Inv w → Below w.heap.size w w' → Inv w') {env : List (Nat × Sh)} {o : Oper} {s : Sh}
    (h : symDo tn ts ext env o.op = some s) {a : Act} {w : World} (hinv : Inv w) (hh : Has (Den tn base) env a w) {K : Act → World → Prop} {Q : Exit → Act → World → Prop}
    (hK : ∀ v w', Den tn base s v w' → Below w.heap.size w w' → Inv w' → K (a.put o.dst v) w') : o.wp P a w K Q := by
  obtain ⟨i0, hi, hz⟩ := Option.map_eq_some_iff.1 hF.info
  have hz0 : i0.zero = some (.agg zero5) := (Prod.mk.inj hz).1
  have hz1 : i0.size = 5 := (Prod.mk.inj hz).2
  unfold symDo at h
  cases hop : o.op with
  | move x =>
    rw [hop] at h
    unfold Oper.wp
    simp only [execOp, hop, Sem.run_pure, Oper.upon_value]
    exact hK _ _ (symArg_den hh h) (Below.refl _ _) hinv
  | assign x =>
    rw [hop] at h
    unfold Oper.wp
    simp only [execOp, hop, Sem.run_pure, Oper.upon_value]
    exact hK _ _ (symArg_den hh h) (Below.refl _ _) hinv
  | load t x =>
    rw [hop] at h
    simp only at h
    split at h
    · rename_i ht
      subst ht
      cases hx : symArg env x with
      | none => simp [hx] at h
      | some sx =>
        cases sx with
        | var T =>
          simp only [hx, Option.some.injEq] at h
          subst h
          obtain ⟨g, t', he, hb, hg, rfl, hin⟩ := symArg_den hh hx
          obtain ⟨d, hu, hd⟩ := hF.agg
          refine wp_load_mid t x hop g 0 he t'.cs d ?_ hu hd (by simp [hi, hz1, Nd.cs]) ?_
          · intro j v hv
            rw [Lib.cell_of_heap hg, Nat.zero_add, List.getElem?_toArray]
            exact hv
          · exact hK _ _ ⟨t', rfl, rfl, hin⟩ (Below.refl _ _) hinv
        | _ => simp [hx] at h
    · cases h
  | alloc t =>
    rw [hop] at h
    simp only at h
    split at h
    · rename_i ht
      subst ht
      injection h with h
      subst h
      have hrun : (Instr.alloc t true (.tuple #[])).run P w = .ok (.pointer (some ⟨w.heap.size, 0, none⟩)) (w.alloc (.cells zero5 t)) := by
        simp [Instr.alloc, zeroValue, typeInfo, hi, hz0, newVar, newRow, Value.cells]
      unfold Oper.wp
      simp only [execOp, hop, Sem.run_bind, hrun, Result.andThen_ok, Sem.run_pure, Oper.upon_value]
      have hb : Below w.heap.size w (w.alloc (.cells zero5 t)) := (Below.refl _ _).alloc (Nat.le_refl _) _
      exact hK _ _ ⟨w.heap.size, rfl, hbase w hinv, heap_alloc_new _ _⟩ hb (hinvm _ _ hinv hb)
    · cases h
  | buildSlice t n parts =>
    rw [hop] at h
    simp only at h
    split at h
    · rename_i ht
      obtain ⟨rfl, hn0, hn1, hidx⟩ := ht
      cases hs : symArgs env (parts.toList.map (·.2)) with
      | none => simp [hs] at h
      | some ss =>
        simp only [hs, Option.map_eq_some_iff] at h
        obtain ⟨Ts, hTs, rfl⟩ := h
        obtain ⟨ks, hks, rfl, hall⟩ := trees_den hTs (symArgs_den hh hs)
        have hlen : parts.toList.length = n := by have := congrArg List.length hidx; simpa using this
        have hkl : ks.length = n := by have := congrArg List.length hks; simp at this; rw [← hlen]; simpa using this.symm
        have hzip := zip_of parts.toList 0 (by rw [hidx, hlen, List.range_eq_range'])
        have hparts : (parts.map fun (x : Nat × Operand) => (x.1, a.eval x.2)).toList = ((ks.map Nd.val).zipIdx 0).map fun x => (x.2, x.1) := by
          rw [← hks, Array.toList_map]
          conv => lhs; rw [hzip]
          simp only [List.map_map, List.zipIdx_map]
          rfl
        have hmul : n * i0.size = n * 5 := by rw [hz1]
        have hfill := Go.Great.fill_whole (s := i0.size) (by omega) (ks.map Nd.val) ((Array.range (n * i0.size)).map ((Value.agg zero5).cells[· % (Value.agg zero5).cells.size]!)) (by
          intro v hv
          obtain ⟨t, _, rfl⟩ := List.mem_map.1 hv
          rw [hz1]; rfl) (by simp [hkl])
        have hcells : ((ks.map Nd.val).flatMap fun v => v.cells.toList) = cells ks := by
          rw [List.flatMap_map]
          rfl
        rw [hcells] at hfill
        refine wp_buildSlice t tn n parts hop (cells ks).toArray i0 (.agg zero5) hF.row hi hz0 (by rw [hz1]; omega) (by rw [hz1]; omega) ?_ ?_
        · rw [hparts]
          exact hfill
        · have hm : ks.length ≤ maxLen := by rw [hkl]; unfold maxLen; omega
          refine hK _ _ ⟨some ⟨w.heap.size, 0, none⟩, n, ks, by rw [hkl], rfl, ?_⟩ ((Below.refl _ _).alloc (Nat.le_refl _) _) (hinvm _ _ hinv ((Below.refl _ _).alloc (Nat.le_refl _) _))
          have := row_new (e := tn) hall hm
          rw [hkl] at this
          exact this
    · cases h
  | call c =>
    rw [hop] at h
    simp only at h
    cases hc : c.callee with
    | value f =>
      cases f with
      | func f =>
        simp only [hc, Option.bind_eq_some_iff] at h
        obtain ⟨ss, hss, hext⟩ := h
        obtain ⟨henter, hcall⟩ := hE f ss s hext
        have hd := symArgs_den hh hss
        have hrun : (execOp a.eval o).run P w = .ok (.enter f (c.args.map a.eval)) w := by
          simp [execOp, hop, resolve, hc, Act.eval, Deferred.ofValue, invoke, henter]
        unfold Oper.wp
        rw [hrun, Oper.upon_enter]
        have hargs : c.args.map a.eval = (c.args.toList.map a.eval).toArray := by rw [← Array.toList_map]
        rw [hargs]
        refine (hcall _ w hd hinv).mono ?_
        rintro e w' ⟨v, rfl, hv, hb⟩
        exact hK _ _ hv hb (hinvm _ _ hinv hb)
      | _ => simp [hc] at h
    | _ => simp [hc] at h
  | pick c x y =>
    rw [hop] at h
    simp only at h
    cases hx : symArg env c with
    | none => simp [hx] at h
    | some sx =>
      cases sx with
      | lit v =>
        cases v with
        | bool b =>
          simp only [hx] at h
          have hc : a.eval c = .bool b := symArg_den hh hx
          unfold Oper.wp
          cases b with
          | true =>
            simp only [if_true] at h
            simp [execOp, hop, hc, asBool, Oper.upon_value]
            exact hK _ _ (symArg_den hh h) (Below.refl _ _) hinv
          | false =>
            simp only [Bool.false_eq_true, if_false] at h
            simp [execOp, hop, hc, asBool, Oper.upon_value]
            exact hK _ _ (symArg_den hh h) (Below.refl _ _) hinv
        | _ => simp [hx] at h
      | _ => simp [hx] at h
  | unOp u t x =>
    rw [hop] at h
    cases u with
    | not =>
      simp only at h
      cases hx : symArg env x with
      | none => simp [hx] at h
      | some sx =>
        cases sx with
        | lit v =>
          cases v with
          | bool b =>
            simp only [hx, Option.some.injEq] at h
            subst h
            have hc : a.eval x = .bool b := symArg_den hh hx
            unfold Oper.wp
            simp [execOp, hop, hc, Op.unary, asBool, Oper.upon_value]
            exact hK _ _ rfl (Below.refl _ _) hinv
          | _ => simp [hx] at h
        | _ => simp [hx] at h
    | _ => simp at h
  | binOp b t x y u =>
    rw [hop] at h
    cases b with
    | eql =>
      simp only at h
      split at h
      · rename_i p q hx hy
        injection h with h
        subst h
        have h1 : a.eval x = .int .i64 p := symArg_den hh hx
        have h2 : a.eval y = .int .i64 q := symArg_den hh hy
        unfold Oper.wp
        simp [execOp, hop, h1, h2, eqGuard, binOp, Op.intCmp, Oper.upon_value]
        exact hK _ _ rfl (Below.refl _ _) hinv
      · cases h
    | _ => simp at h
  | _ => rw [hop] at h; simp at h
theorem symOp_ok (hbase : ∀ w, Inv w → base < w.heap.size) (hF : NodeFacts P tn ts) (hE : ExtOK P tn base Inv ext) (hinvm : ∀ w w', Inv w → Below w.heap.size w w' → Inv w') {ops : Array Oper} {env : List (Nat × Sh)} {o : Oper} {s : Sh}
    (h : symOp tn ts ext ops env o = some s) : OpOK P (Den tn base) Inv ops o env s := by
  intro a w hinv hh K Q hK
  unfold symOp at h
  cases hw : wantS ops env o with
  | none => simp [hw] at h
  | some b =>
    rw [wantS_ok hh hw]
    cases b with
    | true =>
      simp only [hw] at h
      simp only [if_true]
      exact symDo_ok hbase hF hE hinvm h hinv hh hK
    | false =>
      simp only [hw, Option.some.injEq] at h
      subst h
      simp only [Bool.false_eq_true, if_false]
      exact hK _ _ rfl (Below.refl _ _) hinv
end
end NodT
namespace NodT
open Go Go.RowKit ShapeR
set_option linter.unusedVariables false
set_option linter.unusedSimpArgs false
def symL (draw : Bool) (tn ts : TypeId) (ext : FuncId → List Sh → Option Sh) (ops : Array Oper) (env : List (Nat × Sh)) : Nat → Option (List Sh)
  | 0 => some []
  | k + 1 => match symL draw tn ts ext ops env k, ops[k]? with
    | some shs, some o => match symOp tn ts ext ops (env ++ availOf ops shs (if draw then afters ops k else List.range k)) o with
      | some s => some (shs ++ [s])
      | none => none
    | _, _ => none
def apartB (ops : Array Oper) (env : List (Nat × Sh)) (n0 : Nat) : Bool := (List.range ops.size).all fun i => match ops[i]? with
  | some o => match o.dst with
    | some d => decide (d < n0) && env.all (fun p => p.1 != d) && (List.range i).all fun j => match ops[j]? with | some oj => oj.dst != some d | none => true
    | none => true
  | none => true
def waitsB (ops : Array Oper) (n : Nat) : Bool := ((List.range ops.size).all fun i => (afters ops i).all fun j => decide (j < i)) &&
  (List.range n).all fun i => (List.range (n + 1)).any fun j => decide (i < j) && (afters ops j).contains i
def Sh.isFresh : Sh → Bool | .fresh => true | _ => false
def Sh.isRes : Sh → Bool | .res => true | _ => false
def lastB (tn : TypeId) (res : Bool) (o : Oper) (env : List (Nat × Sh)) : Option (List (Nat × Sh)) :=
  match o.guard, o.dst, o.op with
  | none, none, .store t (.tmp d) (.tmp x) => if t = tn then match look env d, look env x with
    | some .fresh, some (.tree T) => if env.all (fun p => p.2.nz && (p.1 == d || !p.2.isFresh)) then some (env.map fun p => if p.1 == d then (p.1, .var T) else p) else none
    | some .res, some (.tree T) => if res && env.all (fun p => p.2.nz && (p.1 == d || !p.2.isRes)) then some (env.map fun p => if p.1 == d then (p.1, .var T) else p) else none
    | _, _ => none
    else none
  | _, _, _ => none
def regionB (draw res : Bool) (tn ts : TypeId) (ext : FuncId → List Sh → Option Sh) (ops : Array Oper) (env : List (Nat × Sh)) (n0 n : Nat) (keep : List Nat) : Option (List (Nat × Sh)) :=
  if apartB ops env n0 && (!draw || waitsB ops n) && ops.size == n + 1 then
    match symL draw tn ts ext ops env n, ops[n]? with
    | some shs, some st => (lastB tn res st (env ++ availOf ops shs (List.range n))).map fun e => e.filter fun p => keep.contains p.1
    | _, _ => none
  else none
theorem apartB_ok {ops : Array Oper} {env : List (Nat × Sh)} {n0 : Nat} (h : apartB ops env n0 = true) : Apart ops env n0 := by
  have key : ∀ (i : Nat) (o : Oper) (d : Nat), ops[i]? = some o → o.dst = some d → (d < n0 ∧ ∀ p ∈ env, p.1 ≠ d) ∧ ∀ (j : Nat) (oj : Oper), j < i → ops[j]? = some oj → oj.dst ≠ some d := by
    intro i o d ho hd
    have hi : i < ops.size := (Array.getElem?_eq_some_iff.1 ho).1
    have h1 := List.all_eq_true.1 h i (List.mem_range.2 hi)
    simp only [ho, hd, Bool.and_eq_true, decide_eq_true_eq, List.all_eq_true, bne_iff_ne] at h1
    refine ⟨⟨h1.1.1, h1.1.2⟩, fun j oj hj hoj => ?_⟩
    have h2 := h1.2 j (List.mem_range.2 hj)
    simp only [hoj, bne_iff_ne] at h2
    exact h2
  refine ⟨fun i o d ho hd => (key i o d ho hd).1, fun i j oi oj d hi hj hne hd hd' => ?_⟩
  rcases Nat.lt_or_gt_of_ne hne with hlt | hlt
  · exact (key j oj d hj hd').2 i oi hlt hi hd
  · exact (key i oi d hi hd).2 j oj hlt hj hd'
theorem waitsB_ok {ops : Array Oper} {n : Nat} (h : waitsB ops n = true) : Waits ops n := by
  simp only [waitsB, Bool.and_eq_true, List.all_eq_true, List.any_eq_true, decide_eq_true_eq, List.mem_range] at h
  refine ⟨fun i j hj => ?_, fun i hi => ?_⟩
  · by_cases hi : i < ops.size
    · exact h.1 i hi j hj
    · unfold afters at hj
      rw [Array.getElem?_eq_none (by omega)] at hj
      cases hj
  · obtain ⟨j, hj, hij, hc⟩ := h.2 i hi
    exact ⟨j, hij, by omega, by simpa using hc⟩
theorem avail_mono {ops : Array Oper} {a b : List Sh} {js : List Nat} (h : ∀ (j : Nat) (s : Sh), a[j]? = some s → b[j]? = some s) : ∀ p ∈ availOf ops a js, p ∈ availOf ops b js := by
  intro p hp
  obtain ⟨j, hj, he⟩ := List.mem_filterMap.1 hp
  refine List.mem_filterMap.2 ⟨j, hj, ?_⟩
  cases ho : ops[j]? with
  | none => simp [ho] at he
  | some o =>
    cases hs : a[j]? with
    | none => simp [ho, hs] at he
    | some s => simp only [ho, hs, h j s hs] at he ⊢; exact he
theorem symL_ok {draw : Bool} {tn ts : TypeId} {ext : FuncId → List Sh → Option Sh} {ops : Array Oper} {env : List (Nat × Sh)} : ∀ {k : Nat} {shs : List Sh}, symL draw tn ts ext ops env k = some shs →
    shs.length = k ∧ ∀ (i : Nat) (o : Oper) (s : Sh), ops[i]? = some o → shs[i]? = some s →
      ∃ env', (∀ p ∈ env', p ∈ env ++ availOf ops shs (if draw then afters ops i else List.range i)) ∧ symOp tn ts ext ops env' o = some s := by
  intro k
  induction k with
  | zero => intro shs h; simp only [symL, Option.some.injEq] at h; subst h; exact ⟨rfl, fun i o s _ hs => by simp at hs⟩
  | succ k ih =>
    intro shs h
    unfold symL at h
    cases h1 : symL draw tn ts ext ops env k with
    | none => simp [h1] at h
    | some pre =>
      cases h2 : ops[k]? with
      | none => simp [h1, h2] at h
      | some ok =>
        simp only [h1, h2] at h
        cases h3 : symOp tn ts ext ops (env ++ availOf ops pre (if draw then afters ops k else List.range k)) ok with
        | none => simp [h3] at h
        | some sk =>
          simp only [h3, Option.some.injEq] at h
          subst h
          obtain ⟨hl, hall⟩ := ih h1
          have hm : ∀ (j : Nat) (s : Sh), pre[j]? = some s → (pre ++ [sk])[j]? = some s := fun j s hj => by
            rw [List.getElem?_append_left (List.getElem?_eq_some_iff.1 hj).1]; exact hj
          refine ⟨by simp [hl], fun i o s ho hs => ?_⟩
          by_cases hik : i < k
          · rw [List.getElem?_append_left (by omega)] at hs
            obtain ⟨env', he, hso⟩ := hall i o s ho hs
            refine ⟨env', fun p hp => ?_, hso⟩
            rcases List.mem_append.1 (he p hp) with hp | hp
            · exact List.mem_append.2 (.inl hp)
            · exact List.mem_append.2 (.inr (avail_mono hm p hp))
          · have hik' : i = k := by
              have := (List.getElem?_eq_some_iff.1 hs).1
              simp at this
              omega
            subst hik'
            obtain rfl : ok = o := Option.some.inj (h2.symm.trans ho)
            rw [List.getElem?_append_right (by omega), hl, Nat.sub_self] at hs
            obtain rfl : sk = s := by simpa using hs
            refine ⟨_, fun p hp => ?_, h3⟩
            rcases List.mem_append.1 hp with hp | hp
            · exact List.mem_append.2 (.inl hp)
            · exact List.mem_append.2 (.inr (avail_mono hm p hp))
section
variable {P : Program} {tn ts : TypeId} {base : Nat} {Inv : World → Prop} {ext : FuncId → List Sh → Option Sh}
theorem OpOK.more' {ops : Array Oper} {o : Oper} {env env' : List (Nat × Sh)} {s : Sh} {Den : Sh → Value → World → Prop} (h : OpOK P Den Inv ops o env s) (hs : ∀ p ∈ env, p ∈ env') : OpOK P Den Inv ops o env' s :=
  fun a w hi hh K Q hK => h a w hi (fun p hp => hh p (hs p hp)) K Q hK
theorem set_heap (w : World) (g : Nat) (j : Nat) (v : Value) (c : Array Value) (tn : TypeId) (h : w.heap[g]? = some (.cells c tn)) : (w.setCell ⟨g, j, none⟩ v).heap[g]? = some (.cells (c.setIfInBounds j v) tn) := by
  simp [World.setCell, Array.getElem?_modify, h]
theorem set_else (w : World) (g : Nat) (j : Nat) (v : Value) (k : Nat) (h : k ≠ g) : (w.setCell ⟨g, j, none⟩ v).heap[k]? = w.heap[k]? := by
  have : g ≠ k := fun e => h e.symm
  simp [World.setCell, Array.getElem?_modify, this]
theorem setCells_stored (w : World) (g : Nat) (tn : TypeId) (t : Nd) (h : w.heap[g]? = some (.cells zero5 tn)) : Stored w (w.setCells g 0 t.cs) g (.cells t.cs.toArray tn) := by
  have hs : ∀ (w : World) (p : Addr) (v : Value), (w.setCell p v).heap.size = w.heap.size := fun w p v => by simp [World.setCell]
  have ho : ∀ (w : World) (p : Addr) (v : Value), (w.setCell p v).os = w.os ∧ (w.setCell p v).tape = w.tape ∧ (w.setCell p v).output = w.output := fun w p v => ⟨rfl, rfl, rfl⟩
  refine ⟨?_, ?_, ?_, ?_, ?_, fun k hk => ?_⟩
  · simp only [Nd.cs, World.setCells, (ho _ _ _).1]
  · simp only [Nd.cs, World.setCells, (ho _ _ _).2.1]
  · simp only [Nd.cs, World.setCells, (ho _ _ _).2.2]
  · simp only [Nd.cs, World.setCells, hs]
  · simp only [Nd.cs, World.setCells]
    rw [set_heap _ _ _ _ _ _ (set_heap _ _ _ _ _ _ (set_heap _ _ _ _ _ _ (set_heap _ _ _ _ _ _ (set_heap _ _ _ _ _ _ h))))]
    rfl
  · simp only [Nd.cs, World.setCells]
    rw [set_else _ _ _ _ _ hk, set_else _ _ _ _ _ hk, set_else _ _ _ _ _ hk, set_else _ _ _ _ _ hk, set_else _ _ _ _ _ hk]
theorem Stored.below {w w1 : World} {g B : Nat} {o : Obj} (h : Stored w w1 g o) (hB : B ≤ g) : Below B w w1 :=
  ⟨h.os, h.tape, h.output, by rw [h.size]; exact Nat.le_refl _, fun k hk => h.else_ k (by omega)⟩
def lowOf (res : Bool) (base : Nat) : Nat := if res then base else base + 1
theorem last_ok {res : Bool} (hF : NodeFacts P tn ts) (hst : ∀ w w1 g o, Inv w → lowOf res base ≤ g → Stored w w1 g o → Inv w1) {ops : Array Oper} {n : Nat} {o : Oper} (ho : ops[n]? = some o) {env env3 : List (Nat × Sh)} (h : lastB tn res o env = some env3)
    {a : Act} {w : World} (hh : Has (Den tn base) env a w) (hinv : Inv w) {Q : Exit → Act → World → Prop}
    (hQ : ∀ w1, Has (Den tn base) env3 a w1 → Inv w1 → Below (lowOf res base) w w1 → Q .normal a w1) : wpOp P ops Q n (Q .normal) a w := by
  obtain ⟨i0, hi, hz⟩ := Option.map_eq_some_iff.1 hF.info
  have hz1 : i0.size = 5 := (Prod.mk.inj hz).2
  unfold lastB at h
  split at h
  · rename_i t d x hg hd hop
    split at h
    · rename_i ht
      subst ht
      have key : ∀ (g : Nat) (T : Nd), base ≤ g → lowOf res base ≤ g → a.eval (.tmp d) = .pointer (some ⟨g, 0, none⟩) → w.heap[g]? = some (.cells zero5 t) → look env x = some (.tree T) →
          (∀ p ∈ env, p.2.nz = true ∧ (p.1 = d ∨ ((p.2 = .fresh → g = base) ∧ (p.2 = .res → g ≠ base)))) → (∃ v, a.tmps[d]? = some v ∧ v = .pointer (some ⟨g, 0, none⟩)) →
          env3 = (env.map fun p => if p.1 == d then (p.1, .var T) else p) → wpOp P ops Q n (Q .normal) a w := by
        intro g T hbg hlg hev hzero hx hall hslot hE
        obtain ⟨tt, hv, hT, hin⟩ := symArg_den hh (x := .tmp x) hx
        have hstd := setCells_stored w g t tt hzero
        refine wpOp_of ho ?_
        rw [show Region.wanted o (yielded ops a.tmps) = true by unfold Region.wanted; rw [hg], if_pos rfl]
        refine wp_store_mid t (.tmp d) (.tmp x) hop g 0 tt.cs.toArray hev hv (fun j hj => ?_) (by simp [hi, hz1, Nd.cs]) (all_oneCell_toArray (fun v hv => ?_)) ?_
        · have hj5 : j < 5 := by simpa [Nd.cs] using hj
          have h5 : zero5.size = 5 := rfl
          refine ⟨?_, Lib.frozen_of_heap hzero _⟩
          rw [zero_cell hzero, Nat.zero_add, Array.getElem?_eq_getElem (by omega)]
          rfl
        · simp only [Nd.cs, List.mem_cons, List.not_mem_nil, or_false] at hv
          rcases hv with rfl | rfl | rfl | rfl | rfl <;> rfl
        · rw [hd]
          refine hQ _ ?_ (hst _ _ g _ hinv hlg hstd) (hstd.below hlg)
          subst hE
          intro p hp
          obtain ⟨q, hq, rfl⟩ := List.mem_map.1 hp
          obtain ⟨hnz, hor⟩ := hall q hq
          have hTn : (Sh.tree T).nz = true := (hall (x, .tree T) (look_mem hx)).1
          by_cases hqd : q.1 = d
          · simp only [hqd, beq_self_eq_true, if_true]
            obtain ⟨v, hv1, rfl⟩ := hslot
            refine ⟨_, hv1, g, tt, rfl, hbg, hstd.here, hT, ?_⟩
            rw [hstd.size]
            exact hin.stored (by rw [← nz_er, hT]; exact hTn) hzero hstd
          · have : (q.1 == d) = false := by simpa using hqd
            simp only [this, Bool.false_eq_true, if_false]
            obtain ⟨v, hv1, hden⟩ := hh q hq
            have h2 := hor.resolve_left hqd
            exact ⟨v, hv1, hden.stored hnz h2.1 h2.2 hzero hstd⟩
      split at h
      · rename_i T hd1 hx1
        split at h
        · rename_i hall
          injection h with h
          obtain ⟨v, hv, g, rfl, hbg, hzero⟩ := hh _ (look_mem hd1)
          have hev : a.eval (.tmp d) = .pointer (some ⟨g, 0, none⟩) := by
            obtain ⟨g', he, _⟩ := symArg_den hh (x := .tmp d) hd1
            obtain ⟨hlt, hee⟩ := Array.getElem?_eq_some_iff.1 hv
            show a.tmps.getD d undef = _
            simp [Array.getD, hlt, hee]
          refine key g T (by omega) (by unfold lowOf; split <;> omega) hev hzero hx1 (fun p hp => ?_) ⟨_, hv, rfl⟩ h.symm
          have h1 := List.all_eq_true.1 hall p hp
          simp only [Bool.and_eq_true, Bool.or_eq_true, beq_iff_eq, Bool.not_eq_true'] at h1
          refine ⟨h1.1, h1.2.imp id fun hf => ⟨fun e => ?_, fun _ => by omega⟩⟩
          rw [e] at hf
          cases hf
        · cases h
      · rename_i T hd1 hx1
        split at h
        · rename_i hall
          injection h with h
          obtain ⟨v, hv, rfl, hzero⟩ := hh _ (look_mem hd1)
          have hev : a.eval (.tmp d) = .pointer (some ⟨base, 0, none⟩) := by
            obtain ⟨hlt, hee⟩ := Array.getElem?_eq_some_iff.1 hv
            show a.tmps.getD d undef = _
            simp [Array.getD, hlt, hee]
          refine key base T (Nat.le_refl _) (by rw [Bool.and_eq_true] at hall; unfold lowOf; rw [if_pos hall.1]; exact Nat.le_refl _) hev hzero hx1 (fun p hp => ?_) ⟨_, hv, rfl⟩ h.symm
          rw [Bool.and_eq_true] at hall
          have h1 := List.all_eq_true.1 hall.2 p hp
          simp only [Bool.and_eq_true, Bool.or_eq_true, beq_iff_eq, Bool.not_eq_true'] at h1
          refine ⟨h1.1, h1.2.imp id fun hf => ⟨fun _ => rfl, fun e => ?_⟩⟩
          rw [e] at hf
          cases hf
        · cases h
      · cases h
    · cases h
  · cases h
/-- How a call stands: its slots, and a world that came of the first one. -/
structure At (Den : Sh → Value → World → Prop) (Inv : World → Prop) (env : List (Nat × Sh)) (n0 : Nat) (df : List Deferred) (B : Nat) (w0 : World) (a : Act) (w : World) : Prop where
  inv : Inv w
  size : a.tmps.size = n0
  defers : a.defers = df
  has : Has Den env a w
  below : Below B w0 w
/-- A region whose last operation stores. -/
theorem region_ok {draw res : Bool} (hm : P.follows .mixedOrders = true) (hF : NodeFacts P tn ts) (hE : ExtOK P tn base Inv ext) (hbase : ∀ w, Inv w → base < w.heap.size) (hinvm : ∀ w w', Inv w → Below w.heap.size w w' → Inv w')
    (hst : ∀ w w1 g o, Inv w → lowOf res base ≤ g → Stored w w1 g o → Inv w1) {id n n0 B : Nat} {ops : Array Oper} {env env3 : List (Nat × Sh)} {keep : List Nat} {df : List Deferred}
    (hchk : regionB draw res tn ts ext ops env n0 n keep = some env3) {w0 : World} {a : Act} {w : World} (hB : B ≤ lowOf res base) {Q : Exit → Act → World → Prop} (h0 : At (Den tn base) Inv env n0 df B w0 a w)
    (hQ : ∀ a' w', At (Den tn base) Inv env3 n0 df B w0 a' w' → Q .normal a' w') : (Code.region id ops draw).wp P Q a w := by
  unfold regionB at hchk
  split at hchk
  · rename_i hb
    simp only [Bool.and_eq_true, Bool.or_eq_true, Bool.not_eq_true', beq_iff_eq] at hb
    obtain ⟨⟨hap, hwt⟩, hn⟩ := hb
    cases hL : symL draw tn ts ext ops env n with
    | none => simp [hL] at hchk
    | some shs =>
      cases ho : ops[n]? with
      | none => simp [hL, ho] at hchk
      | some st =>
        simp only [hL, ho, Option.map_eq_some_iff] at hchk
        obtain ⟨env2, hl, rfl⟩ := hchk
        obtain ⟨hlen, hall⟩ := symL_ok hL
        have hc0 : Came (Den tn base) Inv env n0 df w a w := ⟨h0.inv, h0.size, h0.defers, h0.has, Below.refl _ _⟩
        have hBw : B ≤ w.heap.size := by have := hbase w h0.inv; unfold lowOf at hB; split at hB <;> omega
        have hlast : ∀ a' w', Came (Den tn base) Inv (env ++ availOf ops shs (List.range n)) n0 df w a' w' → wpOp P ops Q n (Q .normal) a' w' := by
          intro a' w' hc
          refine last_ok hF hst ho hl hc.has hc.inv fun w1 hh1 hi1 hb1 => hQ _ _ ⟨hi1, hc.size, hc.defers, fun p hp => hh1 p (List.mem_filter.1 hp).1, ?_⟩
          exact (h0.below.trans (hc.below.mono hBw)).trans (hb1.mono hB)
        cases draw with
        | true =>
          refine wp_drawn hm (Den.mono tn base) hinvm (apartB_ok hap) (waitsB_ok (by simpa using hwt)) hn hlen (fun i o s hoi hsi => ?_) hc0 hlast
          obtain ⟨env', he, hs⟩ := hall i o s hoi hsi
          exact OpOK.more' (symOp_ok hbase hF hE hinvm hs) (by simpa using he)
        | false =>
          refine wp_lex (Den.mono tn base) (apartB_ok hap) hn hlen (fun i o s hoi hsi => ?_) hc0 hlast
          obtain ⟨env', he, hs⟩ := hall i o s hoi hsi
          exact OpOK.more' (symOp_ok hbase hF hE hinvm hs) (by simpa using he)
  · cases hchk
end
end NodT
