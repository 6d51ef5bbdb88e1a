/- The document's own scope as it lies in memory; mathematics alone. -/
/- The document's own scope: what its calls do to it; mathematics alone. -/
import Derived.Test.YtfpjleabmemieaaGreatScoRa
import Derived.Test.YtfpjleabmemieaaGreatScoRb
set_option maxRecDepth 100000
namespace ScoT
open Go Go.RowKit
set_option linter.unusedVariables false
/-- A name's cells: its text, its type, how deep, whether it was used. -/
def rcs (r : Rn) : List Value := [.string r.name, .int .u8 r.ty.kind, .string r.ty.name, r.ty.row, .int .i64 (r.deep : Int), .bool r.used]
def rcells (l : List Rn) : List Value := l.flatMap rcs
theorem rcells_length (l : List Rn) : (rcells l).length = l.length * 6 := by
  induction l with
  | nil => rfl
  | cons t ts ih => simp only [rcells, List.flatMap_cons, List.length_append, List.length_cons] at ih ⊢; rw [ih]; simp [rcs]; omega
theorem rcells_append (a b : List Rn) : rcells (a ++ b) = rcells a ++ rcells b := by simp [rcells]
theorem rcells_one (r : Rn) : rcells [r] = rcs r := by simp [rcells]
theorem rcs_oneCell (r : Rn) : ∀ v ∈ rcs r, v.oneCell' = true := by
  intro v hv
  simp only [rcs, Ty.row, List.mem_cons, List.not_mem_nil, or_false] at hv
  rcases hv with rfl | rfl | rfl | rfl | rfl | rfl <;> rfl
theorem rcells_at (l : List Rn) (i j : Nat) (r : Rn) (v : Value) (hi : l[i]? = some r) (hj : (rcs r)[j]? = some v) : (rcells l)[i * 6 + j]? = some v := by
  induction l generalizing i with
  | nil => simp at hi
  | cons u us ih =>
    have hl : (rcs u).length = 6 := rfl
    have hjl : j < 6 := (List.getElem?_eq_some_iff.1 hj).1
    show (rcs u ++ rcells us)[i * 6 + j]? = _
    cases i with
    | zero =>
      simp only [List.getElem?_cons_zero, Option.some.injEq] at hi
      subst hi
      rw [List.getElem?_append_left (by omega)]
      simpa using hj
    | succ i =>
      rw [List.getElem?_append_right (by omega), hl]
      have : (i + 1) * 6 + j - 6 = i * 6 + j := by omega
      rw [this]
      exact ih i (by simpa using hi)
/-- A name that is used: one cell is set. -/
theorem rcells_use (l : List Rn) (p : Nat) (hp : p < l.length) : (rcells l).set (p * 6 + 5) (.bool true) = rcells (l.modify p fun r => { r with used := true }) := by
  induction l generalizing p with
  | nil => simp at hp
  | cons u us ih =>
    have hl : (rcs u).length = 6 := rfl
    cases p with
    | zero =>
      show (rcs u ++ rcells us).set 5 _ = rcs { u with used := true } ++ rcells us
      rw [List.set_append_left _ _ (by omega)]
      rfl
    | succ p =>
      show (rcs u ++ rcells us).set ((p + 1) * 6 + 5) _ = rcs u ++ rcells (us.modify p fun r => { r with used := true })
      rw [List.set_append_right _ _ (by omega), hl, show (p + 1) * 6 + 5 - 6 = p * 6 + 5 by omega, ih p (by simpa using hp)]
/-- The document's scope lies at d; its row of names is v; the types' elements lie in blocks of Y. -/
structure RefAt (w : World) (TS TN : TypeId) (lo : Nat) (Y : Nat → Prop) (d : Nat) (v : Value) (l : List Rn) (deep : Nat) : Prop where
  box : w.heap[d]? = some (.cells #[v, .int .i64 (deep : Int)] TS)
  low : lo ≤ d
  own : w.ownsRow (d + 1) TN 6 v l.length (rcells l)
  tys : ∀ r ∈ l, In w Y r.ty
  far : ∀ b, Y b → d < b ∧ b < w.heap.size ∧ v.ownBlock ≠ some b
section
variable {w w' : World} {TS TN : TypeId} {lo d deep : Nat} {Y : Nat → Prop} {v : Value} {l : List Rn}
theorem RefAt.lt (h : RefAt w TS TN lo Y d v l deep) : d < w.heap.size := (Array.getElem?_eq_some_iff.1 h.box).1
/-- What it is made of. -/
def RefOf (d : Nat) (v : Value) (Y : Nat → Prop) (b : Nat) : Prop := b = d ∨ v.ownBlock = some b ∨ Y b
theorem RefAt.old (h : RefAt w TS TN lo Y d v l deep) : ∀ b, RefOf d v Y b → lo ≤ b ∧ b < w.heap.size := by
  have hl := h.low
  rintro b (rfl | hb | hb)
  · exact ⟨hl, h.lt⟩
  · have := h.own.lt b hb
    exact ⟨by omega, this.2⟩
  · have := h.far b hb
    exact ⟨by omega, this.2.1⟩
theorem RefAt.keep (h : RefAt w TS TN lo Y d v l deep) (hs : w.heap.size ≤ w'.heap.size) (hk : ∀ b, RefOf d v Y b → w'.heap[b]? = w.heap[b]?) : RefAt w' TS TN lo Y d v l deep := by
  refine ⟨(hk d (.inl rfl)).trans h.box, h.low, ?_, fun r hr => (h.tys r hr).keep (fun _ h => h) fun p hp => World.cell?_of_block (hk p.block (.inr (.inr hp))), fun b hb => ?_⟩
  · refine ⟨h.own.1, ?_⟩
    rcases h.own.2 with h1 | ⟨g, cap, cur, rfl, hb, hg, hr⟩
    · exact .inl h1
    · exact .inr ⟨g, cap, cur, rfl, hb, (hk g (.inr (.inl rfl))).trans hg, hr⟩
  · have := h.far b hb
    exact ⟨this.1, by omega, this.2.2⟩
theorem RefAt.under (h : RefAt w TS TN lo Y d v l deep) (hb : Below w.heap.size w w') : RefAt w' TS TN lo Y d v l deep := h.keep hb.size fun b hx => hb.block b (h.old b hx).2
theorem RefAt.cells (h : RefAt w TS TN lo Y d v l deep) : w.cell? ⟨d, 0, none⟩ = some v ∧ w.cell? ⟨d, 1, none⟩ = some (.int .i64 (deep : Int)) ∧ w.frozen? ⟨d, 0, none⟩ = false ∧ w.frozen? ⟨d, 1, none⟩ = false :=
  ⟨by rw [cell_of_row w d 0 _ TS (0, 0) h.box]; rfl, by rw [cell_of_row w d 1 _ TS (0, 0) h.box]; rfl, frozen_of_row w d 0 _ _ h.box, frozen_of_row w d 1 _ _ h.box⟩
theorem RefAt.deeper (h : RefAt w TS TN lo Y d v l deep) (deep' : Nat) : RefAt (w.setCell ⟨d, 1, none⟩ (.int .i64 (deep' : Int))) TS TN lo Y d v l deep' := by
  have hs : ∀ b, b ≠ d → (w.setCell ⟨d, 1, none⟩ (.int .i64 (deep' : Int))).heap[b]? = w.heap[b]? := fun b hb => Below.heap_setCell _ _ _ _ (by show b ≠ d; exact hb)
  have hz : (w.setCell ⟨d, 1, none⟩ (.int .i64 (deep' : Int))).heap.size = w.heap.size := by simp [World.setCell]
  refine ⟨?_, h.low, ?_, fun r hr => (h.tys r hr).keep (fun _ h => h) fun p hp => World.cell?_of_block (hs p.block (by have := (h.far _ hp).1; omega)), fun b hb => ?_⟩
  · rw [heap_setCell_same w d 1 _ TS _ h.box]
    rfl
  · refine ⟨h.own.1, ?_⟩
    rcases h.own.2 with h1 | ⟨g, cap, cur, rfl, hb, hg, hr⟩
    · exact .inl h1
    · exact .inr ⟨g, cap, cur, rfl, hb, (hs g (by omega)).trans hg, hr⟩
  · have := h.far b hb
    exact ⟨this.1, by omega, this.2.2⟩
end
end ScoT
namespace ScoT
open Go Go.RowKit
set_option linter.unusedVariables false
section
variable {w w' : World} {TS TN : TypeId} {lo d deep : Nat} {Y : Nat → Prop} {v : Value} {l : List Rn}
def placeI (x : ByteArray) (l : List Rn) : Int := match placeR x l with | some p => (p : Int) | none => -1
theorem RefAt.new (w : World) (TS TN : TypeId) : RefAt (w.alloc (.cells #[.slice none 0 0, .int .i64 0] TS)) TS TN w.heap.size (fun _ => False) w.heap.size (.slice none 0 0) [] 0 :=
  ⟨World.alloc_heap_new _ _, Nat.le_refl _, World.ownsRow_nil _ _ _ _, fun r h => by simp at h, fun b h => h.elim⟩
theorem RefAt.head (h : RefAt w TS TN lo Y d v l deep) : ∃ A c, v = .slice A l.length c ∧ l.length ≤ c ∧ c ≤ maxLen ∧ (0 < l.length → ∃ g, A = some ⟨g, 0, none⟩) := by
  rcases h.own.2 with ⟨rfl, hx⟩ | ⟨g, c, cur, rfl, _, _, hn, hc, _⟩
  · exact ⟨none, 0, by rw [hx], by omega, by unfold maxLen; omega, fun h => by omega⟩
  · exact ⟨_, c, rfl, hn, hc, fun _ => ⟨g, rfl⟩⟩
theorem RefAt.at_ (h : RefAt w TS TN lo Y d v l deep) {p : Nat} {r : Rn} (hp : l[p]? = some r) : ∃ g c, v = .slice (some ⟨g, 0, none⟩) l.length c ∧ l.length ≤ c ∧ c ≤ maxLen ∧ d < g ∧ (∀ j u, (rcs r)[j]? = some u → w.cell? ⟨g, p * 6 + j, none⟩ = some u) ∧ ∀ i, w.frozen? ⟨g, i, none⟩ = false := by
  have hl := (List.getElem?_eq_some_iff.1 hp).1
  rcases h.own.2 with ⟨rfl, hx⟩ | ⟨g, c, cur, rfl, hg, hh, hn, hc, hs, hcs⟩
  · omega
  · refine ⟨g, c, rfl, hn, hc, by omega, fun j u hj => ?_, fun i => frozen_of_row w g i _ _ hh⟩
    have hj6 : j < 6 := (List.getElem?_eq_some_iff.1 hj).1
    have := h.own.cellAt (p * 6 + j) (by omega)
    rw [this]
    exact rcells_at l p j r u hp hj
theorem RefAt.use (h : RefAt w TS TN lo Y d v l deep) {p g c : Nat} (hp : p < l.length) (hv : v = .slice (some ⟨g, 0, none⟩) l.length c) : RefAt (w.setCell ⟨g, p * 6 + 5, none⟩ (.bool true)) TS TN lo Y d v (l.modify p fun r => { r with used := true }) deep ∧ (∀ b, b ≠ g → (w.setCell ⟨g, p * 6 + 5, none⟩ (.bool true)).heap[b]? = w.heap[b]?) := by
  have hs : ∀ b, b ≠ g → (w.setCell ⟨g, p * 6 + 5, none⟩ (.bool true)).heap[b]? = w.heap[b]? := fun b hb => Below.heap_setCell _ _ _ _ (by show b ≠ g; exact hb)
  have hz : (w.setCell ⟨g, p * 6 + 5, none⟩ (.bool true)).heap.size = w.heap.size := by simp [World.setCell]
  have hd : d ≠ g := by
    have := (h.own.lt g (by rw [hv]; rfl)).1
    omega
  refine ⟨⟨(hs d hd).trans h.box, h.low, ?_, fun r hr => ?_, fun b hb => ?_⟩, hs⟩
  · have h1 := h.own
    rw [hv] at h1 ⊢
    have h2 := (h1.stored (p * 6 + 5) (.bool true)).1
    rw [rcells_use l p hp] at h2
    simpa using h2
  · have : ∃ r0 ∈ l, r0.ty = r.ty := by
      obtain ⟨i, hi⟩ := List.getElem?_of_mem hr
      rw [List.getElem?_modify] at hi
      cases hl : l[i]? with
      | none => rw [hl] at hi; cases hi
      | some r0 =>
        rw [hl] at hi
        refine ⟨r0, List.mem_of_getElem? hl, ?_⟩
        by_cases e : p = i
        · simp [e] at hi; rw [← hi]
        · simp [e] at hi; rw [← hi]
    obtain ⟨r0, h0, he⟩ := this
    rw [← he]
    exact (h.tys r0 h0).keep (fun _ h => h) fun q hq => World.cell?_of_block (hs q.block fun e => (h.far _ hq).2.2 (by rw [hv, e]; rfl))
  · have := h.far b hb
    exact ⟨this.1, by omega, this.2.2⟩
/-- A name more. -/
theorem RefAt.push {w1 w2 w3 : World} {v' : Value} {x : ByteArray} {t : Ty} (h : RefAt w TS TN lo Y d v l deep) (h1 : Below w.heap.size w w1) (ht : In w1 (fun b => w.heap.size ≤ b ∧ b < w1.heap.size) t) (h2 : Below w1.heap.size w1 w2)
    (ho : w3.ownsRow (d + 1) TN 6 v' (l.length + 1) (rcells l ++ rcs ⟨x, t, deep, false⟩)) (hg : w2.grownBy w3 v.ownBlock) (hf : ∀ k, v'.ownBlock = some k → v.ownBlock = some k ∨ w2.heap.size ≤ k) (hv0 : w3.cell? ⟨d, 0, none⟩ = some v) :
    RefAt (w3.setCell ⟨d, 0, none⟩ v') TS TN lo (fun b => Y b ∨ (w.heap.size ≤ b ∧ b < w1.heap.size)) d v' (l ++ [⟨x, t, deep, false⟩]) deep ∧ (∀ b, b < w.heap.size → ¬ RefOf d v Y b → (w3.setCell ⟨d, 0, none⟩ v').heap[b]? = w.heap[b]?) := by
  have s1 := h1.size
  have s2 := h2.size
  have s3 := hg.size
  have hl := h.lt
  have hvd : v.ownBlock ≠ some d := fun e => by have := (h.own.lt d e).1; omega
  have hs : ∀ b, b ≠ d → (w3.setCell ⟨d, 0, none⟩ v').heap[b]? = w3.heap[b]? := fun b hb => Below.heap_setCell _ _ _ _ (by show b ≠ d; exact hb)
  have hz : (w3.setCell ⟨d, 0, none⟩ v').heap.size = w3.heap.size := by simp [World.setCell]
  have k1 : ∀ b, b < w1.heap.size → v.ownBlock ≠ some b → w3.heap[b]? = w1.heap[b]? := fun b hb hn => (hg.block b (by omega) (fun e => hn e.symm)).trans (h2.block b hb)
  have k0 : ∀ b, b < w.heap.size → v.ownBlock ≠ some b → w3.heap[b]? = w.heap[b]? := fun b hb hn => (k1 b (by omega) hn).trans (h1.block b hb)
  have hdn : v'.ownBlock ≠ some d := fun e => by have := (ho.lt d e).1; omega
  refine ⟨⟨?_, h.low, ?_, fun r hr => ?_, fun b hb => ?_⟩, fun b hb hn => ?_⟩
  · rw [heap_setCell_same w3 d 0 _ TS v' ((k0 d hl hvd).trans h.box)]
    rfl
  · rw [List.length_append, List.length_singleton, rcells_append, rcells_one]
    exact row_keep ho fun b hb => hs b (by rintro rfl; exact hdn hb)
  · rcases List.mem_append.1 hr with hr | hr
    · refine (h.tys r hr).keep (fun _ h => .inl h) fun q hq => World.cell?_of_block ?_
      have hf := h.far _ hq
      rw [hs _ (by omega), k0 _ hf.2.1 hf.2.2]
    · obtain rfl := List.mem_singleton.1 hr
      refine ht.keep (fun _ h => .inr h) fun q hq => World.cell?_of_block ?_
      rw [hs _ (by have := hq.1; omega), k1 _ hq.2 (fun e => by have := (h.own.lt _ e).2; have := hq.1; omega)]
  · rw [hz]
    rcases hb with hb | hb
    · have h3 := h.far b hb
      refine ⟨h3.1, by omega, fun e => ?_⟩
      rcases hf b e with h4 | h4
      · exact h3.2.2 h4
      · omega
    · refine ⟨by omega, by omega, fun e => ?_⟩
      rcases hf b e with h4 | h4
      · have := (h.own.lt b h4).2; omega
      · omega
  · have hbd : b ≠ d := fun e => hn (.inl e)
    rw [hs b hbd]
    exact k0 b hb fun e => hn (.inr (.inl e))
/-- A block less. -/
theorem RefAt.less {v' : Value} {l' : List Rn} (h : RefAt w TS TN lo Y d v l deep) (hb : Below w.heap.size w w') (ho : w'.ownsRow w.heap.size TN 6 v' l'.length (rcells l')) (hsub : ∀ r ∈ l', r ∈ l) (deep' : Nat) :
    RefAt ((w'.setCell ⟨d, 0, none⟩ v').setCell ⟨d, 1, none⟩ (.int .i64 (deep' : Int))) TS TN lo Y d v' l' deep' ∧ (∀ b, b ≠ d → ((w'.setCell ⟨d, 0, none⟩ v').setCell ⟨d, 1, none⟩ (.int .i64 (deep' : Int))).heap[b]? = w'.heap[b]?) := by
  have hl := h.lt
  have hsz := hb.size
  have hs : ∀ b, b ≠ d → ((w'.setCell ⟨d, 0, none⟩ v').setCell ⟨d, 1, none⟩ (.int .i64 (deep' : Int))).heap[b]? = w'.heap[b]? := fun b hb => (Below.heap_setCell _ _ _ _ (by show b ≠ d; exact hb)).trans (Below.heap_setCell _ _ _ _ (by show b ≠ d; exact hb))
  have hz : ((w'.setCell ⟨d, 0, none⟩ v').setCell ⟨d, 1, none⟩ (.int .i64 (deep' : Int))).heap.size = w'.heap.size := by simp [World.setCell]
  refine ⟨⟨?_, h.low, ?_, fun r hr => ?_, fun b hb' => ?_⟩, hs⟩
  · rw [heap_setCell_same _ d 1 _ TS _ (heap_setCell_same w' d 0 _ TS v' ((hb.block d hl).trans h.box))]
    rfl
  · refine row_keep (own_lower ho (by omega)) fun b hb' => hs b ?_
    have := (ho.lt b hb').1
    omega
  · refine (h.tys r (hsub r hr)).keep (fun _ h => h) fun q hq => World.cell?_of_block ?_
    have := h.far _ hq
    rw [hs _ (by omega)]
    exact hb.block _ this.2.1
  · rw [hz]
    have := h.far b hb'
    exact ⟨this.1, by omega, fun e => by have := (ho.lt b e).1; omega⟩
end
end ScoT
