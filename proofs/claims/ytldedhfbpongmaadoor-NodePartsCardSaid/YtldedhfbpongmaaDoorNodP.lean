/- Stacks of nodes that the call itself made: appended to, cut at their ends; an append as one step of a region that draws its order. -/
import Derived.Test.YtldedhfbpongmaaDoorNodL
import Derived.Deep.RegionLaw
import Derived.Deep.RegionHeld3
import Derived.Deep.DeepCutAuto
import Derived.WalkSmall
set_option maxRecDepth 100000
namespace Go
open Go.RowKit
theorem run_append_own_any {P : Program} (w : World) (base : Nat) (t ty e : TypeId) (i : TypeInfo) (z : Value) (size bytes : Nat) (ht : P.underlying t = some (.slice e)) (hi : P.info? e = some i) (hz : i.zero = some z)
    (hsize : i.size = size) (hby : i.bytes = bytes) (hzs : z.cells.size = size) (hsz : 0 < size)
    (v : Value) (n : Nat) (xs : List Value) (hown : w.ownsRow base e size v n xs)
    (ao : Option Addr) (m c : Nat) (hnone : ao = none → m = 0 ∧ c = 0) (news : List Value) (hl : news.length = m * size) (hnews : ∀ ad, ao = some ad → ∀ j u, news[j]? = some u → w.cell? (ad.add j) = some u) (h1 : ∀ u ∈ news, u.oneCell' = true)
    (h63 : n + m ≤ maxLen) (hbytes : (n + m) * bytes ≤ 140737488355328) (hbase : base ≤ w.heap.size) :
    ∃ v' w', (Builtin.append_ #[t, t] ty #[v, .slice ao m c]).run P w = .ok v' w' ∧ w'.ownsRow base e size v' (n + m) (xs ++ news) ∧ w.grownBy w' v.ownBlock ∧ (v' = .slice none 0 0 ↔ v = .slice none 0 0 ∧ m = 0) := by
  cases ao with
  | some ad => exact run_append_own w base t ty e i z size bytes ht hi hz hsize hby hzs hsz v n xs hown ad m c news hl (hnews ad rfl) h1 h63 hbytes hbase
  | none =>
    obtain ⟨rfl, rfl⟩ := hnone rfl
    have hn : news = [] := List.eq_nil_of_length_eq_zero (by simpa using hl)
    subst hn
    refine ⟨v, w, run_append_owned_none (P := P) (w := w) base t ty e i size ht hi v n xs hown, by simpa using hown, ⟨rfl, rfl, rfl, Nat.le_refl _, fun _ _ _ => rfl⟩, by simp⟩
/-- append onto a row of the call's own that is not nil: where it lies behind the call. -/
theorem run_append_stack {P : Program} (w : World) (base : Nat) (t ty e : TypeId) (i : TypeInfo) (z : Value) (size bytes : Nat) (ht : P.underlying t = some (.slice e)) (hi : P.info? e = some i) (hz : i.zero = some z)
    (hsize : i.size = size) (hby : i.bytes = bytes) (hzs : z.cells.size = size) (hsz : 0 < size)
    (g n cap : Nat) (xs : List Value) (hown : w.ownsRow base e size (.slice (some ⟨g, 0, none⟩) n cap) n xs)
    (ao : Option Addr) (m c : Nat) (hnone : ao = none → m = 0 ∧ c = 0) (news : List Value) (hl : news.length = m * size) (hnews : ∀ ad, ao = some ad → ∀ j u, news[j]? = some u → w.cell? (ad.add j) = some u) (h1 : ∀ u ∈ news, u.oneCell' = true)
    (h63 : n + m ≤ maxLen) (hbytes : (n + m) * bytes ≤ 140737488355328) (hbase : base ≤ w.heap.size) :
    ∃ g' c' w', (Builtin.append_ #[t, t] ty #[.slice (some ⟨g, 0, none⟩) n cap, .slice ao m c]).run P w = .ok (.slice (some ⟨g', 0, none⟩) (n + m) c') w' ∧ w'.ownsRow base e size (.slice (some ⟨g', 0, none⟩) (n + m) c') (n + m) (xs ++ news) ∧ w.grownBy w' (some g) ∧ (g' = g ∨ w.heap.size ≤ g') := by
  cases ao with
  | some ad =>
    by_cases hroom : n + m ≤ cap
    · obtain ⟨w', h2, h3, h4⟩ := run_append_fits (P := P) (w := w) base t ty e i size ht hi hsize g n cap xs hown ad m c news hl (hnews ad rfl) h1 hroom
      exact ⟨g, cap, w', h2, h3, h4, .inl rfl⟩
    · obtain ⟨v', w', h2, h3, h4⟩ := run_append_arg_grows (P := P) w t ty e i z size bytes ht hi hz hsize hby hzs hsz ⟨g, 0, none⟩ n cap xs hown.1 (hown.cells (g := g) rfl) ad m c news hl (hnews ad rfl) (by omega) h63 hbytes
      rcases h3.2 with ⟨_, h0⟩ | ⟨g', cap', cur, rfl, hb, hg, hrest⟩
      · omega
      · exact ⟨g', cap', w', h2, ⟨h3.1, .inr ⟨g', cap', cur, rfl, by omega, hg, hrest⟩⟩, ⟨h4.os, h4.tape, h4.output, h4.size, fun k hk _ => h4.block k hk (by simp)⟩, .inr hb⟩
  | none =>
    obtain ⟨rfl, rfl⟩ := hnone rfl
    have hn : news = [] := List.eq_nil_of_length_eq_zero (by simpa using hl)
    subst hn
    exact ⟨g, cap, w, run_append_owned_none (P := P) (w := w) base t ty e i size ht hi _ n xs hown, by simpa using hown, ⟨rfl, rfl, rfl, Nat.le_refl _, fun _ _ _ => rfl⟩, .inl rfl⟩
/-- append onto a row of the call's own, as one step of a region that draws. -/
theorem step_append_own {P : Program} {ops : Array Oper} {o : Oper} {a : Act} {w : World} {K : Act → World → Prop} {Q : Exit → Act → World → Prop} {E : Prop}
    (hg : o.guard = none) (s x : Operand) (t : TypeId) (hop : o.op = Op.call { callee := Callee.builtin Builtin.append, args := #[s, x], argTypes := #[t, t] })
    (base : Nat) (e : TypeId) (i : TypeInfo) (z : Value) (size bytes : Nat) (ht : P.underlying t = some (.slice e)) (hi : P.info? e = some i) (hz : i.zero = some z)
    (hsize : i.size = size) (hby : i.bytes = bytes) (hzs : z.cells.size = size) (hsz : 0 < size)
    (g n cap : Nat) (xs : List Value) (hs : a.eval s = .slice (some ⟨g, 0, none⟩) n cap) (hown : w.ownsRow base e size (.slice (some ⟨g, 0, none⟩) n cap) n xs)
    (ao : Option Addr) (m c : Nat) (hx : a.eval x = .slice ao m c) (hnone : ao = none → m = 0 ∧ c = 0) (news : List Value) (hl : news.length = m * size) (hnews : ∀ ad, ao = some ad → ∀ j u, news[j]? = some u → w.cell? (ad.add j) = some u) (h1 : ∀ u ∈ news, u.oneCell' = true)
    (h63 : n + m ≤ maxLen) (hbytes : (n + m) * bytes ≤ 140737488355328) (hbase : base ≤ w.heap.size)
    (hK : ∀ g' c' w', w'.ownsRow base e size (.slice (some ⟨g', 0, none⟩) (n + m) c') (n + m) (xs ++ news) → w.grownBy w' (some g) → (g' = g ∨ w.heap.size ≤ g') → K (a.put o.dst (.slice (some ⟨g', 0, none⟩) (n + m) c')) w') :
    if Region.wanted o (yielded ops a.tmps) = true then Oper.wp P o a w K Q else E := by
  have hw : Region.wanted o (yielded ops a.tmps) = true := by simp [Region.wanted, hg]
  rw [if_pos hw]
  obtain ⟨g', c', w', hrun, h2, h3, h4⟩ := run_append_stack (P := P) w base t o.type e i z size bytes ht hi hz hsize hby hzs hsz g n cap xs hown ao m c hnone news hl hnews h1 h63 hbytes hbase
  unfold Oper.wp
  simp [execOp, hop, resolve, invoke, builtin, hs, hx, hrun, Result.andThen]
  exact hK _ _ _ h2 h3 h4
/-- .. and in a plain row of operations. -/
theorem wpList_append_stack {P : Program} {ops : Array Oper} {rest : List Oper} {o : Oper} {a : Act} {w : World} {Q : Exit → Act → World → Prop}
    (hg : o.guard = none) (s x : Operand) (t : TypeId) (hop : o.op = Op.call { callee := Callee.builtin Builtin.append, args := #[s, x], argTypes := #[t, t] })
    (base : Nat) (e : TypeId) (i : TypeInfo) (z : Value) (size bytes : Nat) (ht : P.underlying t = some (.slice e)) (hi : P.info? e = some i) (hz : i.zero = some z)
    (hsize : i.size = size) (hby : i.bytes = bytes) (hzs : z.cells.size = size) (hsz : 0 < size)
    (g n cap : Nat) (xs : List Value) (hs : a.eval s = .slice (some ⟨g, 0, none⟩) n cap) (hown : w.ownsRow base e size (.slice (some ⟨g, 0, none⟩) n cap) n xs)
    (ao : Option Addr) (m c : Nat) (hx : a.eval x = .slice ao m c) (hnone : ao = none → m = 0 ∧ c = 0) (news : List Value) (hl : news.length = m * size) (hnews : ∀ ad, ao = some ad → ∀ j u, news[j]? = some u → w.cell? (ad.add j) = some u) (h1 : ∀ u ∈ news, u.oneCell' = true)
    (h63 : n + m ≤ maxLen) (hbytes : (n + m) * bytes ≤ 140737488355328) (hbase : base ≤ w.heap.size)
    (hK : ∀ g' c' w', w'.ownsRow base e size (.slice (some ⟨g', 0, none⟩) (n + m) c') (n + m) (xs ++ news) → w.grownBy w' (some g) → (g' = g ∨ w.heap.size ≤ g') → wpList P ops Q rest (a.put o.dst (.slice (some ⟨g', 0, none⟩) (n + m) c')) w') :
    wpList P ops Q (o :: rest) a w := by
  refine wpList_plain hg fun K hK' => ?_
  obtain ⟨g', c', w', hrun, h2, h3, h4⟩ := run_append_stack (P := P) w base t o.type e i z size bytes ht hi hz hsize hby hzs hsz g n cap xs hown ao m c hnone news hl hnews h1 h63 hbytes hbase
  unfold Oper.wp
  simp [execOp, hop, resolve, invoke, builtin, hs, hx, hrun, Result.andThen]
  exact hK' _ _ (hK _ _ _ h2 h3 h4)
end Go
namespace NodT
open Go Go.RowKit
set_option linter.unusedVariables false
/-- A stack of nodes at the head of block g. -/
def Stack (w : World) (base : Nat) (e : TypeId) (g n c : Nat) (ts : List Nd) : Prop := base ≤ g ∧ w.ownsRow base e 5 (.slice (some ⟨g, 0, none⟩) n c) n (cells ts) ∧ n = ts.length
theorem own_some {w : World} {base : Nat} {e : TypeId} {size : Nat} {v : Value} {n : Nat} {xs : List Value} (h : w.ownsRow base e size v n xs) (hv : ¬ v = .slice none 0 0) : ∃ g c, v = .slice (some ⟨g, 0, none⟩) n c ∧ base ≤ g ∧ g < w.heap.size := by
  rcases h.2 with ⟨rfl, _⟩ | ⟨g, cap, cur, rfl, hb, hg, _⟩
  · exact absurd rfl hv
  · exact ⟨g, cap, rfl, hb, (Array.getElem?_eq_some_iff.1 hg).1⟩
theorem sameL_append {a b c d : List Nd} (h : a.length = c.length) : sameL (a ++ b) (c ++ d) = (sameL a c && sameL b d) := by
  induction a generalizing c with
  | nil => cases c with
    | nil => simp [sameL]
    | cons _ _ => simp at h
  | cons t ts ih => cases c with
    | nil => simp at h
    | cons u us => simp only [List.cons_append, sameL]; rw [ih (by simpa using h), Bool.and_assoc]
theorem lies_news {w : World} {B : Nat} {A : Option Addr} {ts : List Nd} (h : Lies w B A ts) : ∀ ad, A = some ad → ∀ j u, (cells ts)[j]? = some u → w.cell? (ad.add j) = some u := by
  intro ad hA j u hu
  have hl := cells_length ts
  have hj : j < (cells ts).length := (List.getElem?_eq_some_iff.1 hu).1
  obtain ⟨b, o, hA', hb, hc⟩ := h (by omega)
  rw [hA] at hA'
  injection hA' with hA'
  subst hA'
  obtain ⟨t, ht⟩ : ∃ t, ts[j / 5]? = some t := ⟨_, List.getElem?_eq_getElem (by omega)⟩
  have hc5 : t.cs.length = 5 := rfl
  obtain ⟨v, hv⟩ : ∃ v, t.cs[j % 5]? = some v := ⟨_, List.getElem?_eq_getElem (by rw [hc5]; omega)⟩
  have h1 := hc (j / 5) t ht (j % 5) v hv
  have h2 := cells_at ts (j / 5) (j % 5) t v ht hv
  have e : j / 5 * 5 + j % 5 = j := by omega
  rw [e] at h2
  obtain rfl : v = u := by rw [hu] at h2; exact (Option.some.inj h2).symm
  have hadd : (⟨b, o, none⟩ : Addr).add j = ⟨b, o + j / 5 * 5 + j % 5, none⟩ := by unfold Addr.add; split <;> simp <;> omega
  rw [hadd]
  exact h1
theorem own_lit (w : World) (base : Nat) (e : TypeId) (ts : List Nd) (hb : base ≤ w.heap.size) (hm : ts.length ≤ maxLen) :
    (w.alloc (.cells (cells ts).toArray e)).ownsRow base e 5 (.slice (some ⟨w.heap.size, 0, none⟩) ts.length ts.length) ts.length (cells ts) :=
  ⟨cells_length ts, .inr ⟨w.heap.size, ts.length, (cells ts).toArray, rfl, hb, heap_alloc_new _ _, Nat.le_refl _, hm, by simp [cells_length], by simp [← cells_length]⟩⟩
theorem stack_lit (w : World) (base : Nat) (e : TypeId) (t : Nd) (hb : base ≤ w.heap.size) : Stack (w.alloc (.cells t.cs.toArray e)) base e w.heap.size 1 1 [t] := by
  have := own_lit w base e [t] hb (by simp [maxLen])
  rw [cells_one] at this
  exact ⟨hb, by rw [cells_one]; exact this, rfl⟩
theorem Stack.keep {w w' : World} {base : Nat} {e : TypeId} {g n c : Nat} {ts : List Nd} (h : Stack w base e g n c ts) (hg : w.grownBy w' none) : Stack w' base e g n c ts := ⟨h.1, h.2.1.kept hg (.inr (by simp [Value.ownBlock])), h.2.2⟩
theorem Stack.far {w w' : World} {base : Nat} {e : TypeId} {g n c : Nat} {ts : List Nd} {row : Option Nat} (h : Stack w base e g n c ts) (hg : w.grownBy w' row) (hr : row ≠ some g) : Stack w' base e g n c ts := ⟨h.1, h.2.1.kept hg (.inr (by simp only [Value.ownBlock]; exact hr.symm)), h.2.2⟩
theorem Stack.lt {w : World} {base : Nat} {e : TypeId} {g n c : Nat} {ts : List Nd} (h : Stack w base e g n c ts) : g < w.heap.size := (h.2.1.lt _ rfl).2
theorem two_lit (w : World) (o1 o2 : Obj) (e : TypeId) (t u : Nd) :
    Below w.heap.size w ((((w.alloc o1).alloc o2).alloc (.cells t.cs.toArray e)).alloc (.cells u.cs.toArray e)).drew ∧
    Stack ((((w.alloc o1).alloc o2).alloc (.cells t.cs.toArray e)).alloc (.cells u.cs.toArray e)).drew w.heap.size e (w.heap.size + 1 + 1) 1 1 [t] ∧
    Stack ((((w.alloc o1).alloc o2).alloc (.cells t.cs.toArray e)).alloc (.cells u.cs.toArray e)).drew w.heap.size e (w.heap.size + 1 + 1 + 1) 1 1 [u] := by
  have h0 : ((w.alloc o1).alloc o2).heap.size = w.heap.size + 1 + 1 := by simp
  refine ⟨((((Below.refl _ _).alloc (Nat.le_refl _) _).alloc (by simp) _).alloc (by simp; omega) _).alloc (by simp; omega) _ |>.drew, ?_, ?_⟩
  · have := stack_lit ((w.alloc o1).alloc o2) w.heap.size e t (by simp; omega)
    rw [h0] at this
    exact this.keep ⟨rfl, rfl, rfl, by simp, fun k hk _ => heap_alloc_old _ _ hk⟩
  · have := stack_lit (((w.alloc o1).alloc o2).alloc (.cells t.cs.toArray e)) w.heap.size e u (by simp; omega)
    have h1 : (((w.alloc o1).alloc o2).alloc (.cells t.cs.toArray e)).heap.size = w.heap.size + 1 + 1 + 1 := by simp
    rw [h1] at this
    exact this.keep ⟨rfl, rfl, rfl, by simp, fun k hk _ => rfl⟩
/-- The top of a stack: its five cells, and what is below it. -/
theorem Stack.top {w : World} {base : Nat} {e : TypeId} {g n c : Nat} {ts : List Nd} (h : Stack w base e g (n + 1) c ts) : ∃ (r : List Nd) (x : Nd), ts = r ++ [x] ∧ Stack w base e g n c r ∧ n + 1 ≤ c ∧ c ≤ maxLen ∧
    w.cell? ⟨g, n * 5, none⟩ = some (.int .u8 x.kind) ∧ w.cell? ⟨g, n * 5 + 1, none⟩ = some (.string x.text) ∧ w.cell? ⟨g, n * 5 + 2, none⟩ = some (.int .i64 x.num) ∧
    w.cell? ⟨g, n * 5 + 3, none⟩ = some (.int .i64 x.place) ∧ w.cell? ⟨g, n * 5 + 4, none⟩ = some (.slice x.addr x.kids.length x.cap) := by
  obtain ⟨hb, ho, hn⟩ := h
  rcases List.eq_nil_or_concat ts with rfl | ⟨r, x, rfl⟩
  · simp at hn
  · have hr : n = r.length := by simp at hn; exact hn
    have hl := lies_of_own ho
    obtain ⟨b, o, hA, _, hc⟩ := hl (by simp)
    obtain ⟨rfl, rfl⟩ : g = b ∧ 0 = o := by simpa using hA
    have hc' := hc n x (by rw [hr]; simp)
    have hcap : n + 1 ≤ c ∧ c ≤ maxLen := by
      rcases ho.2 with ⟨h0, _⟩ | ⟨g', cap, cur, hv, _, _, hnc, hcm, _⟩
      · cases h0
      · injection hv with _ _ hcc
        subst hcc
        exact ⟨hnc, hcm⟩
    refine ⟨r, x, by simp, ⟨hb, ?_, hr⟩, hcap.1, hcap.2, ?_, ?_, ?_, ?_, ?_⟩
    · refine ownsRow_pop (xs := cells r) (last := x.cs) (by rw [cells_length, hr]) ?_
      have := ho
      rw [List.concat_eq_append, cells_append, cells_one] at this
      exact this
    · simpa using hc' 0 _ rfl
    · simpa using hc' 1 _ rfl
    · simpa using hc' 2 _ rfl
    · simpa using hc' 3 _ rfl
    · have : w.cell? ⟨g, 0 + n * 5 + 4, none⟩ = some (.slice x.addr x.kids.length x.cap) := hc' 4 _ rfl
      simpa using this
theorem Stack.base_ {w : World} {base : Nat} {e : TypeId} {g n c : Nat} {ts : List Nd} (h : Stack w base e g n c ts) : base ≤ g := h.1
/-- Two appends, one behind the other, to two stacks. -/
theorem push_two {W0 W5 W6 : World} {base : Nat} {e : TypeId} {ga na ca gb nb cb ga' ma ca' gb' : Nat} {Ta Tb : List Nd} {xa : List Value} (sa : Stack W0 base e ga na ca Ta) (sb : Stack W0 base e gb nb cb Tb) (hne : ga ≠ gb)
    (oa : W5.ownsRow base e 5 (.slice (some ⟨ga', 0, none⟩) ma ca') ma xa) (hga : W0.grownBy W5 (some ga)) (pa : ga' = ga ∨ W0.heap.size ≤ ga') (hgb : W5.grownBy W6 (some gb)) (pb : gb' = gb ∨ W5.heap.size ≤ gb') :
    W6.ownsRow base e 5 (.slice (some ⟨ga', 0, none⟩) ma ca') ma xa ∧ ga' ≠ gb' ∧ Below base W0 W6 := by
  have la := sa.lt
  have lb := sb.lt
  have ba := sa.1
  have bb := sb.1
  have l5 : ga' < W5.heap.size := (oa.lt _ rfl).2
  have h05 := hga.size
  have hab : ga' ≠ gb := by rcases pa with rfl | h <;> omega
  refine ⟨oa.kept hgb (.inr (by simp only [Value.ownBlock]; intro h; injection h; omega)), by rcases pb with rfl | h <;> omega, ?_⟩
  exact (below_of_grown hga (by omega) (fun k hk => by injection hk; omega)).trans (below_of_grown hgb (by omega) (fun k hk => by injection hk; omega))
end NodT
