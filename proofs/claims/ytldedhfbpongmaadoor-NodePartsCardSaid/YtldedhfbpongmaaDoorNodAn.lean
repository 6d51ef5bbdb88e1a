/- Stacks of looks: nodes with how deep they lie. -/
import Derived.Test.YtldedhfbpongmaaDoorNodP
set_option maxRecDepth 100000
namespace NodT
open Go Go.RowKit
set_option linter.unusedVariables false
abbrev Lk := Nd × Nat
def cs6 (x : Lk) : List Value := [.int .u8 x.1.kind, .string x.1.text, .int .i64 x.1.num, .int .i64 x.1.place, .slice x.1.addr x.1.kids.length x.1.cap, .int .i64 (x.2 : Int)]
def cells6 (ts : List Lk) : List Value := ts.flatMap cs6
theorem cells6_length (ts : List Lk) : (cells6 ts).length = ts.length * 6 := by
  induction ts with
  | nil => rfl
  | cons t ts ih => simp only [cells6, List.flatMap_cons, List.length_append, List.length_cons] at ih ⊢; rw [ih]; simp [cs6]; omega
theorem cells6_append (a b : List Lk) : cells6 (a ++ b) = cells6 a ++ cells6 b := by simp [cells6]
theorem cells6_one (t : Lk) : cells6 [t] = cs6 t := by simp [cells6]
theorem cs6_oneCell (t : Lk) : ∀ v ∈ cs6 t, v.oneCell' = true := by
  intro v hv
  simp only [cs6, List.mem_cons, List.not_mem_nil, or_false] at hv
  rcases hv with rfl | rfl | rfl | rfl | rfl | rfl <;> rfl
def Stack6 (w : World) (base : Nat) (e : TypeId) (g n c : Nat) (ts : List Lk) : Prop := base ≤ g ∧ w.ownsRow base e 6 (.slice (some ⟨g, 0, none⟩) n c) n (cells6 ts) ∧ n = ts.length
theorem Stack6.keep {w w' : World} {base : Nat} {e : TypeId} {g n c : Nat} {ts : List Lk} (h : Stack6 w base e g n c ts) (hb : w'.heap[g]? = w.heap[g]?) : Stack6 w' base e g n c ts := by
  obtain ⟨h1, h2, h3⟩ := h
  refine ⟨h1, ⟨h2.1, ?_⟩, h3⟩
  rcases h2.2 with h0 | ⟨g', cap, cur, hv, hb', hg, hrest⟩
  · exact .inl h0
  · refine .inr ⟨g', cap, cur, hv, hb', ?_, hrest⟩
    obtain rfl : g = g' := by
      injection hv with hA _ _
      injection hA with hA
      injection hA
    rw [hb]
    exact hg
theorem Stack6.lt {w : World} {base : Nat} {e : TypeId} {g n c : Nat} {ts : List Lk} (h : Stack6 w base e g n c ts) : g < w.heap.size := (h.2.1.lt _ rfl).2
theorem stack6_lit (w : World) (base : Nat) (e : TypeId) (t : Lk) (hb : base ≤ w.heap.size) : Stack6 (w.alloc (.cells (cs6 t).toArray e)) base e w.heap.size 1 1 [t] := by
  refine ⟨hb, ⟨by rw [cells6_length]; rfl, .inr ⟨w.heap.size, 1, (cs6 t).toArray, rfl, hb, heap_alloc_new _ _, Nat.le_refl _, by simp [maxLen], by simp [cs6], by rw [cells6_one]; simp [cs6]⟩⟩, rfl⟩
theorem Stack6.top {w : World} {base : Nat} {e : TypeId} {g n c : Nat} {ts : List Lk} (h : Stack6 w base e g (n + 1) c ts) : ∃ (r : List Lk) (x : Lk), ts = r ++ [x] ∧ Stack6 w base e g n c r ∧ n + 1 ≤ c ∧ c ≤ maxLen ∧
    w.cell? ⟨g, n * 6, none⟩ = some (.int .u8 x.1.kind) ∧ w.cell? ⟨g, n * 6 + 1, none⟩ = some (.string x.1.text) ∧ w.cell? ⟨g, n * 6 + 2, none⟩ = some (.int .i64 x.1.num) ∧
    w.cell? ⟨g, n * 6 + 3, none⟩ = some (.int .i64 x.1.place) ∧ w.cell? ⟨g, n * 6 + 4, none⟩ = some (.slice x.1.addr x.1.kids.length x.1.cap) ∧ w.cell? ⟨g, n * 6 + 5, none⟩ = some (.int .i64 (x.2 : Int)) := by
  obtain ⟨hb, ho, hn⟩ := h
  rcases List.eq_nil_or_concat ts with rfl | ⟨r, x, rfl⟩
  · simp at hn
  · have hr : n = r.length := by simp at hn; exact hn
    have hl := cells6_length r
    have hcl : (cs6 x).length = 6 := rfl
    have hc' : ∀ (j : Nat) (v : Value), (cs6 x)[j]? = some v → w.cell? ⟨g, n * 6 + j, none⟩ = some v := fun j v hj => by
      have hjl : j < 6 := (List.getElem?_eq_some_iff.1 hj).1
      have := ho.cells (g := g) rfl (n * 6 + j) v (by
        rw [List.concat_eq_append, cells6_append, cells6_one, List.getElem?_append_right (by omega)]
        have : n * 6 + j - (cells6 r).length = j := by omega
        rw [this]
        exact hj)
      have hadd : (⟨g, 0, none⟩ : Addr).add (n * 6 + j) = ⟨g, n * 6 + j, none⟩ := by unfold Addr.add; split <;> simp_all
      rw [hadd] at this
      exact this
    have hcap : n + 1 ≤ c ∧ c ≤ maxLen := by
      rcases ho.2 with ⟨h0, _⟩ | ⟨g', cap, cur, hv, _, _, hnc, hcm, _⟩
      · cases h0
      · injection hv with _ _ hcc
        subst hcc
        exact ⟨hnc, hcm⟩
    refine ⟨r, x, by simp, ⟨hb, ?_, hr⟩, hcap.1, hcap.2, by simpa using hc' 0 _ rfl, hc' 1 _ rfl, hc' 2 _ rfl, hc' 3 _ rfl, hc' 4 _ rfl, hc' 5 _ rfl⟩
    refine ownsRow_pop (xs := cells6 r) (last := cs6 x) (by rw [cells6_length, hr]) ?_
    have := ho
    rw [List.concat_eq_append, cells6_append, cells6_one] at this
    exact this
end NodT
