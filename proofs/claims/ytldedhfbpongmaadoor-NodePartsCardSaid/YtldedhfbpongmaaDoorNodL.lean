/- Trees that the call itself made: copies with marks behind each list. -/
import Derived.Test.YtldedhfbpongmaaDoorNodTree
import Derived.OwnWalk
set_option maxRecDepth 100000
namespace NodT
open Go Go.RowKit
set_option linter.unusedVariables false

theorem grown_of_below {a w : World} (h : Below a.heap.size a w) (row : Option Nat) : a.grownBy w row := ⟨h.os, h.tape, h.output, h.size, fun i hi _ => h.block i hi⟩
theorem below_of_grown {a w : World} {row : Option Nat} {B : Nat} (h : a.grownBy w row) (hB : B ≤ a.heap.size) (hr : ∀ g, row = some g → B ≤ g) : Below B a w := (Below.refl _ _).grown h hB hr

/-- A mark. -/
def markNd (k i : Nat) : Nd := .mk 0 ⟨#[]⟩ 0 (1000003 * (k + 7) + i) none 0 []
def marks (k n : Nat) : List Nd := (List.range n).map (markNd k)
def cells (ts : List Nd) : List Value := ts.flatMap Nd.cs
theorem cells_length (ts : List Nd) : (cells ts).length = ts.length * 5 := by
  induction ts with
  | nil => rfl
  | cons t ts ih => simp only [cells, List.flatMap_cons, List.length_append, List.length_cons] at ih ⊢; rw [ih]; simp [Nd.cs]; omega
theorem cells_append (a b : List Nd) : cells (a ++ b) = cells a ++ cells b := by simp [cells]
theorem cells_one (t : Nd) : cells [t] = t.cs := by simp [cells]
theorem cells_at (ts : List Nd) (i j : Nat) (t : Nd) (v : Value) (hi : ts[i]? = some t) (hj : t.cs[j]? = some v) : (cells ts)[i * 5 + j]? = some v := by
  induction ts generalizing i with
  | nil => simp at hi
  | cons u us ih =>
    have hl : u.cs.length = 5 := rfl
    have hjl : j < 5 := (List.getElem?_eq_some_iff.1 hj).1
    show (u.cs ++ cells us)[i * 5 + j]? = _
    cases i with
    | zero =>
      simp only [List.getElem?_cons_zero, Option.some.injEq] at hi
      subst hi
      rw [List.getElem?_append_left (by omega)]
      simpa using hj
    | succ i =>
      rw [List.getElem?_append_right (by omega), hl]
      have : (i + 1) * 5 + j - 5 = i * 5 + j := by omega
      rw [this]
      exact ih i (by simpa using hi)
theorem cells_mem {ts : List Nd} {v : Value} (h : v ∈ cells ts) : ∃ t ∈ ts, v ∈ t.cs := by simpa [cells] using h
theorem cs_oneCell (t : Nd) : ∀ v ∈ t.cs, v.oneCell' = true := by
  intro v hv
  simp only [Nd.cs, Nd.row, List.mem_cons, List.not_mem_nil, or_false] at hv
  rcases hv with rfl | rfl | rfl | rfl | rfl <;> rfl

/-- A row that the call made and that holds these nodes lies there. -/
theorem lies_of_own {w : World} {base : Nat} {e : TypeId} {A : Option Addr} {n c : Nat} {ts : List Nd} (h : w.ownsRow base e 5 (.slice A n c) n (cells ts)) : Lies w w.heap.size A ts := by
  intro h0
  have hn : n = ts.length := by have := h.1; rw [cells_length] at this; omega
  rcases h.2 with ⟨h1, h2⟩ | ⟨g, cap, cur, hv, hb, hg, hnc, hcm, hcs, htake⟩
  · omega
  · injection hv with hA _ _
    subst hA
    refine ⟨g, 0, rfl, (Array.getElem?_eq_some_iff.1 hg).1, fun i t hi j v hv => ?_⟩
    have := h.cells (g := g) rfl (i * 5 + j) v (cells_at ts i j t v hi hv)
    have hadd : (⟨g, 0, none⟩ : Addr).add (i * 5 + j) = ⟨g, 0 + i * 5 + j, none⟩ := by unfold Addr.add; split <;> simp_all
    rw [hadd] at this
    exact this

/-- A copy that lies in blocks from lo to below hi, twelve marks behind each of its lists. -/
inductive Lent (w : World) (lo hi : Nat) : Nd → Prop
  | mk (x : Nd) (hf : Fits x) (g : Nat) (ha : x.addr = some ⟨g, 0, none⟩) (hc : x.cap = x.kids.length + 12) (hg : lo ≤ g ∧ g < hi) (hr : Lies w hi x.addr (x.kids ++ marks 1 12)) (hk : ∀ (i : Nat) (u : Nd), x.kids[i]? = some u → Lent w lo hi u) : Lent w lo hi x

theorem Lent.keep {w w' : World} {lo hi : Nat} {x : Nd} (h : Lent w lo hi x) (hw : ∀ p : Addr, lo ≤ p.block → p.block < hi → w'.cell? p = w.cell? p) : Lent w' lo hi x := by
  induction h with
  | mk x hf g ha hc hg hr hk ih =>
    refine .mk x hf g ha hc hg (fun h0 => ?_) ih
    obtain ⟨b, o, hA, hb, hcell⟩ := hr h0
    have : b = g := by rw [ha] at hA; injection hA with hA; injection hA with hA; exact hA.symm
    subst this
    exact ⟨b, o, hA, hb, fun i t hi j v hv => (hw _ hg.1 hg.2).trans (hcell i t hi j v hv)⟩
theorem Lent.more {w : World} {lo hi lo' hi' : Nat} {x : Nd} (h : Lent w lo hi x) (h1 : lo' ≤ lo) (h2 : hi ≤ hi') : Lent w lo' hi' x := by
  induction h with
  | mk x hf g ha hc hg hr hk ih => exact .mk x hf g ha hc ⟨by omega, by omega⟩ (hr.more h2) ih
theorem Lent.isIn {w : World} {lo hi : Nat} {x : Nd} (h : Lent w lo hi x) : In w hi x := by
  induction h with
  | mk x hf g ha hc hg hr hk ih =>
    refine .mk x hf (fun h0 => ?_) ih
    obtain ⟨b, o, hA, hb, hcell⟩ := hr (by simp; omega)
    refine ⟨b, o, hA, hb, fun i t hi j v hv => hcell i t ?_ j v hv⟩
    have hl : i < x.kids.length := (List.getElem?_eq_some_iff.1 hi).1
    rw [List.getElem?_append_left hl]
    exact hi
theorem Lent.fits {w : World} {lo hi : Nat} {x : Nd} (h : Lent w lo hi x) : Fits x := by cases h; assumption
theorem Lent.kid {w : World} {lo hi : Nat} {x : Nd} (h : Lent w lo hi x) {i : Nat} {u : Nd} (hi' : x.kids[i]? = some u) : Lent w lo hi u := by
  cases h with | mk _ _ _ _ _ _ _ hk => exact hk i u hi'
theorem Lent.under {w w' : World} {lo hi B : Nat} {x : Nd} (h : Lent w lo hi x) (hb : Below B w w') (hB : hi ≤ B) : Lent w' lo hi x := h.keep fun p _ h2 => hb.cell (by omega)

/-- A block of five cells that the call itself made. -/
structure Blk5 (w : World) (b : Nat) (v0 v1 v2 v3 v4 : Value) : Prop where
  c0 : w.cell? ⟨b, 0, none⟩ = some v0
  c1 : w.cell? ⟨b, 1, none⟩ = some v1
  c2 : w.cell? ⟨b, 2, none⟩ = some v2
  c3 : w.cell? ⟨b, 3, none⟩ = some v3
  c4 : w.cell? ⟨b, 4, none⟩ = some v4
  f0 : w.frozen? ⟨b, 0, none⟩ = false
  f1 : w.frozen? ⟨b, 1, none⟩ = false
  f2 : w.frozen? ⟨b, 2, none⟩ = false
  f3 : w.frozen? ⟨b, 3, none⟩ = false
  f4 : w.frozen? ⟨b, 4, none⟩ = false
theorem Blk5.new (w : World) (T : TypeId) (v0 v1 v2 v3 v4 : Value) : Blk5 (w.alloc (.cells #[v0, v1, v2, v3, v4] T)) w.heap.size v0 v1 v2 v3 v4 := by
  constructor <;> simp [go_sem]
theorem Blk5.under {w w' : World} {b B : Nat} {v0 v1 v2 v3 v4 : Value} (h : Blk5 w b v0 v1 v2 v3 v4) (hb : Below B w w') (hl : b < B) : Blk5 w' b v0 v1 v2 v3 v4 := by
  cases h
  constructor <;> first | (rw [hb.cell (by exact hl)]; assumption) | (rw [hb.frozen (by exact hl)]; assumption)

/-- The end of a function that stores the kids into a box and hands a copy of the box back: six stores into the blocks b and b + 1. -/
def fin6 (w : World) (b : Nat) (v1 v2 v3 v4 v5 v6 : Value) : World := (((((w.setCell ⟨b, 4, none⟩ v1).setCell ⟨b + 1, 0, none⟩ v2).setCell ⟨b + 1, 1, none⟩ v3).setCell ⟨b + 1, 2, none⟩ v4).setCell ⟨b + 1, 3, none⟩ v5).setCell ⟨b + 1, 4, none⟩ v6
theorem fin6_cell (w : World) (b : Nat) (v1 v2 v3 v4 v5 v6 : Value) (p : Addr) (hp : b + 2 ≤ p.block) : (fin6 w b v1 v2 v3 v4 v5 v6).cell? p = w.cell? p := by
  unfold fin6
  rw [World.cell?_setCell_other _ _ _ _ (by rintro rfl; simp at hp), World.cell?_setCell_other _ _ _ _ (by rintro rfl; simp at hp), World.cell?_setCell_other _ _ _ _ (by rintro rfl; simp at hp), World.cell?_setCell_other _ _ _ _ (by rintro rfl; simp at hp), World.cell?_setCell_other _ _ _ _ (by rintro rfl; simp at hp), World.cell?_setCell_other _ _ _ _ (by rintro rfl; simp at hp; omega)]
theorem fin6_size (w : World) (b : Nat) (v1 v2 v3 v4 v5 v6 : Value) : (fin6 w b v1 v2 v3 v4 v5 v6).heap.size = w.heap.size := by simp [fin6, World.setCell]
theorem fin6_below {a w : World} {b : Nat} (h : Below b a w) (v1 v2 v3 v4 v5 v6 : Value) : Below b a (fin6 w b v1 v2 v3 v4 v5 v6) := by
  unfold fin6
  exact (((((h.setCell (by simp) _).setCell (by simp) _).setCell (by simp) _).setCell (by simp) _).setCell (by simp) _).setCell (by simp) _
theorem Lies.fin6 {w : World} {b hi g : Nat} {ts : List Nd} {v1 v2 v3 v4 v5 v6 : Value} (h : Lies w hi (some ⟨g, 0, none⟩) ts) (hg : b + 2 ≤ g) : Lies (NodT.fin6 w b v1 v2 v3 v4 v5 v6) hi (some ⟨g, 0, none⟩) ts := fun h0 => by
  obtain ⟨b', o, hA, hb, hcell⟩ := h h0
  obtain ⟨rfl, rfl⟩ : g = b' ∧ 0 = o := by simpa using hA
  exact ⟨g, 0, rfl, hb, fun i t hi j v hv => (fin6_cell _ _ _ _ _ _ _ _ _ hg).trans (hcell i t hi j v hv)⟩

/-- Two boxes, one behind the other, in a later world. -/
theorem two_boxes {w w1 : World} {T T' : TypeId} {a0 a1 a2 a3 a4 b0 b1 b2 b3 b4 : Value} (h : Below ((w.alloc (.cells #[a0, a1, a2, a3, a4] T)).alloc (.cells #[b0, b1, b2, b3, b4] T')).heap.size ((w.alloc (.cells #[a0, a1, a2, a3, a4] T)).alloc (.cells #[b0, b1, b2, b3, b4] T')) w1) :
    Blk5 w1 w.heap.size a0 a1 a2 a3 a4 ∧ Blk5 w1 (w.heap.size + 1) b0 b1 b2 b3 b4 ∧ Below w.heap.size w w1 ∧ w.heap.size + 2 ≤ w1.heap.size := by
  have hb : Below w.heap.size w w1 := (((Below.refl _ _).alloc (Nat.le_refl _) _).alloc (by simp) _).trans (h.mono (by simp; omega))
  have h1 := (Blk5.new w T a0 a1 a2 a3 a4).under ((Below.refl (w.heap.size + 1) _).alloc (by simp) (.cells #[b0, b1, b2, b3, b4] T')) (by omega)
  have h2 := Blk5.new (w.alloc (.cells #[a0, a1, a2, a3, a4] T)) T' b0 b1 b2 b3 b4
  have h3 := h2.under h (by simp)
  refine ⟨h1.under h (by simp; omega), by simpa using h3, hb, by have := h.size; simp at this; omega⟩

/-- Five stores over a block of five cells. -/
def put5 (w : World) (b : Nat) (x0 x1 x2 x3 x4 : Value) : World := ((((w.setCell ⟨b, 0, none⟩ x0).setCell ⟨b, 1, none⟩ x1).setCell ⟨b, 2, none⟩ x2).setCell ⟨b, 3, none⟩ x3).setCell ⟨b, 4, none⟩ x4
theorem Blk5.put5 {w : World} {b : Nat} {v0 v1 v2 v3 v4 : Value} (h : Blk5 w b v0 v1 v2 v3 v4) (x0 x1 x2 x3 x4 : Value) : Blk5 (NodT.put5 w b x0 x1 x2 x3 x4) b x0 x1 x2 x3 x4 := by
  obtain ⟨c0, c1, c2, c3, c4, f0, f1, f2, f3, f4⟩ := h
  unfold NodT.put5
  constructor <;> simp [go_sem, c0, c1, c2, c3, c4, f0, f1, f2, f3, f4]
theorem put5_below {a w : World} {b B : Nat} (h : Below B a w) (hb : B ≤ b) (x0 x1 x2 x3 x4 : Value) : Below B a (put5 w b x0 x1 x2 x3 x4) := by
  unfold put5
  exact ((((h.setCell hb _).setCell hb _).setCell hb _).setCell hb _).setCell hb _
theorem put5_size (w : World) (b : Nat) (x0 x1 x2 x3 x4 : Value) : (put5 w b x0 x1 x2 x3 x4).heap.size = w.heap.size := by simp [put5, World.setCell]
theorem put5_cell (w : World) (b : Nat) (x0 x1 x2 x3 x4 : Value) (p : Addr) (hp : p.block ≠ b) : (put5 w b x0 x1 x2 x3 x4).cell? p = w.cell? p := by
  unfold put5
  rw [World.cell?_setCell_other _ _ _ _ (by rintro rfl; simp at hp), World.cell?_setCell_other _ _ _ _ (by rintro rfl; simp at hp), World.cell?_setCell_other _ _ _ _ (by rintro rfl; simp at hp), World.cell?_setCell_other _ _ _ _ (by rintro rfl; simp at hp), World.cell?_setCell_other _ _ _ _ (by rintro rfl; simp at hp)]

mutual
theorem like_refl : (t : Nd) → like t t = true
  | .mk k s n p A c ks => by have := likeL_refl ks; simp [like, this]
theorem likeL_refl : (ts : List Nd) → likeL ts ts = true
  | [] => rfl
  | t :: ts => by simp [likeL, like_refl t, likeL_refl ts]
end
end NodT
