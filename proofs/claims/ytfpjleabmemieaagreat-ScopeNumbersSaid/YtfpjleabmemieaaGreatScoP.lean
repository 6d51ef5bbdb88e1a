/- A map whose keys are rows: a pointer and a number. -/
import Derived.Test.YtfpjleabmemieaaGreatScoF
import Derived.Laws.StructEq
set_option maxRecDepth 100000
namespace ScoT
open Go Go.RowKit Go.Instr
set_option linter.unusedVariables false
def keyV (q : Nat × Nat × Nat) : Value := .agg #[.pointer (some ⟨q.1, q.2.1, none⟩), .int .i64 (q.2.2 : Int)]
section
variable {P : Program}
theorem eqIn_ptr (w : World) {tp te : TypeId} {j : TypeInfo} (hp : P.underlying tp = some (.pointer te)) (hte : P.info? te = some j) (hsz : j.size ≠ 0) (a b : Addr) (ha : Plain w a.block) (hb : Plain w b.block) (d : Nat) :
    (Op.equalIn (d + 1) tp (.pointer (some a)) (.pointer (some b))).run P w = .ok (decide (a = b)) w := by
  obtain ⟨ca, ta, ha⟩ := ha
  obtain ⟨cb, tb, hb⟩ := hb
  by_cases h : a = b
  · subst h
    simp [Op.equalIn, run_underlying hp, Go.sizeOf, typeInfo, hte, run_sameAddr_same]
  · simp [Op.equalIn, run_underlying hp, Go.sizeOf, typeInfo, hte, hsz, run_sameAddr_other w h ha hb, h]
/-- What the keys' type is. -/
structure RowTy (P : Program) (R TP TI : TypeId) : Prop where
  under : P.underlying R = some (.struct (P.fieldsOf R))
  held : P.stoodInHeld R = false
  fields : ∃ f1 f2, (P.fieldsOf R).toList = [f1, f2] ∧ f1.name ≠ "_" ∧ f1.type = TP ∧ f1.offset = 0 ∧ f2.name ≠ "_" ∧ f2.type = TI ∧ f2.offset = 1
  ptr : ∃ te j, P.underlying TP = some (.pointer te) ∧ P.info? te = some j ∧ j.size ≠ 0
  int : P.underlying TI = some (.int .i64)
  aggP : ∀ w, (isAgg TP).run P w = .ok false w
  aggI : ∀ w, (isAgg TI).run P w = .ok false w
theorem eqKey {R TP TI : TypeId} (h : RowTy P R TP TI) (w : World) (q k : Nat × Nat × Nat) (hq : Plain w q.1) (hk : Plain w k.1) : (Op.equal R (keyV q) (keyV k)).run P w = .ok (decide (q = k)) w := by
  obtain ⟨f1, f2, hf, n1, t1, o1, n2, t2, o2⟩ := h.fields
  obtain ⟨te, j, hp, hte, hsz⟩ := h.ptr
  have e1 := eqIn_ptr w hp hte hsz ⟨q.1, q.2.1, none⟩ ⟨k.1, k.2.1, none⟩ hq hk 9998
  have e2 : ∀ (x y : Int) (w : World), (Op.equalIn 9999 TI (.int .i64 x) (.int .i64 y)).run P w = .ok (x == y) w := fun x y w => run_equalIn_int w 9998 TI .i64 .i64 x y h.int
  show (Op.equalIn (9999 + 1) R (keyV q) (keyV k)).run P w = _
  unfold keyV
  rw [run_equalIn_struct w 9999 R _ _ h.under h.held, hf]
  have p1 : ∀ (v u : Value) (w : World), (part TP #[v, u] 0).run P w = .ok v w := fun v u w => by simp [part, h.aggP]
  have p2 : ∀ (v u : Value) (w : World), (part TI #[v, u] 1).run P w = .ok u w := fun v u w => by simp [part, h.aggI]
  simp only [Op.eqFields, n1, n2, t1, t2, o1, o2, ne_eq, not_false_eq_true, if_true, Sem.run_bind, p1, Result.andThen_ok, e1]
  obtain ⟨a, b, c⟩ := q
  obtain ⟨a', b', c'⟩ := k
  by_cases h1 : (⟨a, b, none⟩ : Addr) = ⟨a', b', none⟩
  · injection h1 with h1 h2
    subst h1 h2
    by_cases h3 : c = c'
    · simp [h3, p2, e2]
    · have : ¬ ((c : Int) = (c' : Int)) := by omega
      simp [h3, p2, e2, this]
  · have : ¬ ((a, b, c) = (a', b', c')) := fun e => h1 (by injection e with e1 e2; injection e2 with e2 _; rw [e1, e2])
    simp [h1, this]
/-- These entries have these keys. -/
def KeysAre (es : List MapEntry) (ks : List (Nat × Nat × Nat)) : Prop := es.map MapEntry.key = ks.map keyV
theorem ask_miss {R TP TI : TypeId} (h : RowTy P R TP TI) (w : World) (q : Nat × Nat × Nat) (hq : Plain w q.1) : ∀ (es : List MapEntry) (ks : List (Nat × Nat × Nat)) (i : Nat), KeysAre es ks → (∀ k ∈ ks, Plain w k.1) → q ∉ ks → (findAsking R (keyV q) es i).run P w = .ok none w
  | [], _, _, _, _, _ => by simp [findAsking]
  | e :: es, [], _, hk, _, _ => by simp [KeysAre] at hk
  | e :: es, k :: ks, i, hk, hp, hn => by
    simp only [KeysAre, List.map_cons, List.cons.injEq] at hk
    have he := eqKey h w q k hq (hp k (by simp))
    rw [← hk.1] at he
    have hne : q ≠ k := fun e' => hn (by simp [e'])
    have ih := ask_miss h w q hq es ks (i + 1) hk.2 (fun k hk => hp k (by simp [hk])) (fun hh => hn (by simp [hh]))
    simp [findAsking, he, hne, ih]
theorem ask_last {R TP TI : TypeId} (h : RowTy P R TP TI) (w : World) (q : Nat × Nat × Nat) (hq : Plain w q.1) : ∀ (es : List MapEntry) (ks : List (Nat × Nat × Nat)) (i : Nat), KeysAre es (ks ++ [q]) → (∀ k ∈ ks, Plain w k.1) → q ∉ ks → ∃ v, (findAsking R (keyV q) es i).run P w = .ok (some (i + ks.length, v)) w
  | [], ks, _, hk, _, _ => by simp [KeysAre] at hk
  | e :: es, [], i, hk, _, _ => by
    simp only [KeysAre, List.nil_append, List.map_cons, List.map_nil, List.cons.injEq] at hk
    have he : (Op.equal R (keyV q) e.key).run P w = .ok (decide (q = q)) w := by rw [hk.1]; exact eqKey h w q q hq hq
    exact ⟨e.val, by simp [findAsking, he]⟩
  | e :: es, k :: ks, i, hk, hp, hn => by
    simp only [KeysAre, List.cons_append, List.map_cons, List.cons.injEq] at hk
    have he := eqKey h w q k hq (hp k (by simp))
    rw [← hk.1] at he
    have hne : q ≠ k := fun e' => hn (by simp [e'])
    obtain ⟨v, ih⟩ := ask_last h w q hq es ks (i + 1) hk.2 (fun k hk => hp k (by simp [hk])) (fun hh => hn (by simp [hh]))
    refine ⟨v, ?_⟩
    have e3 : i + 1 + ks.length = i + (ks.length + 1) := by omega
    rw [e3] at ih
    simp only [findAsking, Sem.run_bind, he, hne, decide_false, Result.andThen_ok, Bool.false_eq_true, if_false, ih, List.length_cons]
theorem find_miss {R TP TI : TypeId} (h : RowTy P R TP TI) (w : World) (q : Nat × Nat × Nat) (hq : Plain w q.1) (es : List MapEntry) (ks : List (Nat × Nat × Nat)) (hk : KeysAre es ks) (hp : ∀ k ∈ ks, Plain w k.1) (hn : q ∉ ks) : (findKey R (keyV q) es).run P w = .ok none w := by
  have ha := ask_miss h w q hq es ks 0 hk hp hn
  unfold findKey
  simp only [Sem.run_bind, run_underlying h.under, Result.andThen_ok]
  cases es with
  | nil => simp [findNow]
  | cons e es =>
    have : findNow (.struct (P.fieldsOf R)) (keyV q) (e :: es) 0 = none := by simp [findNow, sameNow]
    rw [this]; exact ha
theorem find_last {R TP TI : TypeId} (h : RowTy P R TP TI) (w : World) (q : Nat × Nat × Nat) (hq : Plain w q.1) (es : List MapEntry) (ks : List (Nat × Nat × Nat)) (hk : KeysAre es (ks ++ [q])) (hp : ∀ k ∈ ks, Plain w k.1) (hn : q ∉ ks) : ∃ v, (findKey R (keyV q) es).run P w = .ok (some (ks.length, v)) w := by
  obtain ⟨v, ha⟩ := ask_last h w q hq es ks 0 hk hp hn
  refine ⟨v, ?_⟩
  unfold findKey
  simp only [Sem.run_bind, run_underlying h.under, Result.andThen_ok]
  cases es with
  | nil => simp [KeysAre] at hk
  | cons e es =>
    have : findNow (.struct (P.fieldsOf R)) (keyV q) (e :: es) 0 = none := by simp [findNow, sameNow]
    rw [this]; simpa using ha
theorem check_key {R TP TI : TypeId} (h : RowTy P R TP TI) (w : World) (b : Bool) (q : Nat × Nat × Nat) : (checkKey b 10000 R (keyV q)).run P w = .ok () w := by
  obtain ⟨f1, f2, hf, n1, t1, o1, n2, t2, o2⟩ := h.fields
  obtain ⟨te, j, hp, hte, hsz⟩ := h.ptr
  have p1 : ∀ (v u : Value), (part TP #[v, u] 0).run P w = .ok v w := fun v u => by simp [part, h.aggP]
  have p2 : ∀ (v u : Value), (part TI #[v, u] 1).run P w = .ok u w := fun v u => by simp [part, h.aggI]
  have main : ∀ n : Nat, (checkKey b (n + 2) R (keyV q)).run P w = .ok () w := fun n => by
    unfold keyV
    simp only [checkKey, Sem.run_bind, run_underlying h.under, Result.andThen_ok]
    rw [← Array.forIn_toList, hf]
    simp [n1, n2, t1, t2, o1, o2, p1, p2, run_underlying hp, run_underlying h.int]
  exact main 9998
theorem run_lookup_row {R TP TI : TypeId} (h : RowTy P R TP TI) (T E : TypeId) (hT : P.underlying T = some (.map R E)) (w : World) (b : Nat) (es : Array MapEntry) (c : Nat) (q : Nat × Nat × Nat) (z : Value) (ks : List (Nat × Nat × Nat))
    (hb : w.heap[b]? = some (.map es c)) (hz : (zeroValue E).run P w = .ok z w) (hq : Plain w q.1) (hk : KeysAre es.toList ks) (hp : ∀ k ∈ ks, Plain w k.1) (hn : q ∉ ks) :
    (lookup T (.map (some b)) (keyV q) true).run P w = .ok (.tuple #[z, .bool false]) w := by
  have h1 := fun bb => check_key h w bb q
  have h2 := find_miss h w q hq es.toList ks hk hp hn
  have h3 : (getObj b).run P w = .ok (.map es c) w := by simp [getObj, Sem.run, hb]
  unfold lookup
  simp only [Sem.run_bind, run_underlying hT, h1, h2, h3, hz, Result.andThen, Sem.run_pure]
  rfl
theorem run_update_row {R TP TI : TypeId} (h : RowTy P R TP TI) (T E : TypeId) (hT : P.underlying T = some (.map R E)) (w : World) (b : Nat) (es : Array MapEntry) (c : Nat) (q : Nat × Nat × Nat) (v : Value) (ks : List (Nat × Nat × Nat))
    (hb : w.heap[b]? = some (.map es c)) (hq : Plain w q.1) (hk : KeysAre es.toList ks) (hp : ∀ k ∈ ks, Plain w k.1) (hn : q ∉ ks) :
    (mapUpdate T (.map (some b)) (keyV q) v).run P w = .ok () (w.putObj b (.map (es.push { key := keyV q, val := v, born := c }) (c + 1))) := by
  have h1 := check_key h w false q
  have h2 := find_miss h w q hq es.toList ks hk hp hn
  have h3 : (getObj b).run P w = .ok (.map es c) w := by simp [getObj, Sem.run, hb]
  have h4 : (setObj b (.map (es.push { key := keyV q, val := v, born := c }) (c + 1))).run P w = .ok () (w.putObj b (.map (es.push { key := keyV q, val := v, born := c }) (c + 1))) := by
    simp [setObj, Sem.run, hb, World.putObj]
  unfold mapUpdate
  simp only [Sem.run_bind, run_underlying hT, h1, h2, h3, h4, Result.andThen]
theorem run_delete_row {R TP TI : TypeId} (h : RowTy P R TP TI) (T E ty : TypeId) (hT : P.underlying T = some (.map R E)) (w : World) (b : Nat) (es : Array MapEntry) (c : Nat) (q : Nat × Nat × Nat) (ks : List (Nat × Nat × Nat))
    (hb : w.heap[b]? = some (.map es c)) (hq : Plain w q.1) (hk : KeysAre es.toList (ks ++ [q])) (hp : ∀ k ∈ ks, Plain w k.1) (hn : q ∉ ks) :
    (Builtin.delete_ #[T, R] ty #[.map (some b), keyV q]).run P w = .ok (.tuple #[]) (w.putObj b (.map (es.eraseIdxIfInBounds ks.length) c)) := by
  have h1 := fun bb => check_key h w bb q
  obtain ⟨v, h2⟩ := find_last h w q hq es.toList ks hk hp hn
  have h3 : (getObj b).run P w = .ok (.map es c) w := by simp [getObj, Sem.run, hb]
  have h4 : (setObj b (.map (es.eraseIdxIfInBounds ks.length) c)).run P w = .ok () (w.putObj b (.map (es.eraseIdxIfInBounds ks.length) c)) := by
    simp [setObj, Sem.run, hb, World.putObj]
  unfold Builtin.delete_
  simp only [List.getElem?_toArray, List.getElem?_cons_zero, List.getElem?_cons_succ, Sem.run_bind, run_underlying hT, h1, h2, h3, h4, Result.andThen, Sem.run_pure]
theorem keys_push {es : Array MapEntry} {ks : List (Nat × Nat × Nat)} {q : Nat × Nat × Nat} {v : Value} {c : Nat} (h : KeysAre es.toList ks) : KeysAre (es.push { key := keyV q, val := v, born := c }).toList (ks ++ [q]) := by
  unfold KeysAre at h ⊢
  simp [h]
theorem keys_pop {es : Array MapEntry} {ks : List (Nat × Nat × Nat)} {q : Nat × Nat × Nat} (h : KeysAre es.toList (ks ++ [q])) : KeysAre (es.eraseIdxIfInBounds ks.length).toList ks := by
  unfold KeysAre at h ⊢
  have hl : es.size = ks.length + 1 := by
    have := congrArg List.length h
    simpa using this
  have e : (es.eraseIdxIfInBounds ks.length).toList = es.toList.eraseIdx ks.length := by simp [Array.eraseIdxIfInBounds, hl]
  rw [List.map_append] at h
  obtain ⟨a, b, hab, ha, hb⟩ := List.map_eq_append_iff.1 h
  have hal : a.length = ks.length := by have := congrArg List.length ha; simpa using this
  have hbl : b.length = 1 := by have := congrArg List.length hb; simpa using this
  match b, hbl with
  | [x], _ =>
    rw [e, hab, List.eraseIdx_append_of_length_le (by omega), hal, Nat.sub_self]
    simpa using ha
end
end ScoT
namespace Go.Proofs.YtfpjleabmemieaaGreat
open Go.Instr Go.RowKit ScoT
set_option linter.unusedVariables false
theorem Tryz.fieldsRow : (Tryz.prog.fieldsOf 153).toList.map (fun f => (f.name, f.type, f.offset)) = [("first", 151, 0), ("many", 3, 1)] := by kernel_rfl
theorem Tryz.infoType : (Tryz.prog.info? 26).map (fun i => (i.zero, i.size, i.bytes)) = some (some (.agg #[.int .u8 0, .string ⟨#[]⟩, .slice none 0 0]), 3, 48) := by kernel_rfl
theorem Tryz.rowTy : RowTy Tryz.prog 153 151 3 where
  under := by kernel_rfl
  held := by kernel_rfl
  fields := by
    have hf := Tryz.fieldsRow
    generalize (Tryz.prog.fieldsOf 153).toList = fs at hf
    match fs, hf with
    | [f1, f2], hf =>
      simp only [List.map_cons, List.map_nil, List.cons.injEq, Prod.mk.injEq, and_true] at hf
      obtain ⟨⟨n1, t1, o1⟩, n2, t2, o2⟩ := hf
      exact ⟨f1, f2, rfl, by rw [n1]; decide, t1, o1, by rw [n2]; decide, t2, o2⟩
    | [], hf => simp at hf
    | [_], hf => simp at hf
    | _ :: _ :: _ :: _, hf => simp at hf
  ptr := by
    obtain ⟨i0, hi, hz0, hz1, hz2⟩ := info_parts Tryz.infoType
    exact ⟨26, i0, Tryz.underlying151, hi, by omega⟩
  int := Tryz.underlying3
  aggP := fun w => Tryz.isAgg151 w
  aggI := fun w => Tryz.isAgg3 w
end Go.Proofs.YtfpjleabmemieaaGreat
