/- A type's rows, each in a block of its own. -/
import Derived.Test.YtfpjleabmemieaaGreatScoA
set_option maxRecDepth 100000
namespace ScoT
open Go Go.RowKit
set_option linter.unusedVariables false
theorem own_lower {w : World} {lo lo' : Nat} {T : TypeId} {size n : Nat} {v : Value} {xs : List Value} (h : w.ownsRow lo T size v n xs) (hl : lo' ≤ lo) : w.ownsRow lo' T size v n xs := by
  refine ⟨h.1, ?_⟩
  rcases h.2 with h1 | ⟨g, cap, cur, rfl, hb, hr⟩
  · exact .inl h1
  · exact .inr ⟨g, cap, cur, rfl, by omega, hr⟩
/-- The cells of a row of types. -/
def tcells : List Ty → List Value
  | [] => []
  | t :: ts => t.cs ++ tcells ts
theorem tcells_length (ts : List Ty) : (tcells ts).length = ts.length * 3 := by
  induction ts with
  | nil => rfl
  | cons t ts ih => simp only [tcells, List.length_append, ih, List.length_cons, Ty.cs, List.length_nil]; omega
theorem tcells_at (ts : List Ty) : ∀ (i j : Nat) (t : Ty) (v : Value), ts[i]? = some t → t.cs[j]? = some v → (tcells ts)[i * 3 + j]? = some v := by
  induction ts with
  | nil => intro i j t v h; simp at h
  | cons u us ih =>
    intro i j t v hi hj
    have hj3 : j < 3 := (List.getElem?_eq_some_iff.1 hj).1
    cases i with
    | zero =>
      obtain rfl : u = t := by simpa using hi
      simp only [tcells]
      rw [List.getElem?_append_left (by show _ < 3; omega)]
      simpa using hj
    | succ i =>
      simp only [tcells]
      have hl : u.cs.length = 3 := rfl
      rw [List.getElem?_append_right (by omega), hl, show (i + 1) * 3 + j - 3 = i * 3 + j by omega]
      exact ih i j t v (by simpa using hi) hj
theorem tcells_one (ts : List Ty) : ∀ v ∈ tcells ts, v.oneCell' = true := by
  induction ts with
  | nil => intro v h; simp [tcells] at h
  | cons t ts ih =>
    intro v hv
    simp only [tcells, List.mem_append, Ty.cs, List.mem_cons, List.not_mem_nil, or_false] at hv
    rcases hv with (rfl | rfl | rfl) | hv
    · rfl
    · rfl
    · rfl
    · exact ih v hv
mutual
/-- A type and all within it, as they are gone through. -/
def subs : Ty → List Ty | .mk k s A c es => .mk k s A c es :: subsL es
def subsL : List Ty → List Ty | [] => [] | t :: ts => subs t ++ subsL ts
end
theorem subs_eq (t : Ty) : subs t = t :: subsL t.els := by cases t; rfl
theorem mem_subsL {u : Ty} {ts : List Ty} : u ∈ subsL ts ↔ ∃ (i : Nat) (t : Ty), ts[i]? = some t ∧ u ∈ subs t := by
  induction ts with
  | nil => simp [subsL]
  | cons a ts ih =>
    simp only [subsL, List.mem_append, ih]
    constructor
    · rintro (h | ⟨i, t, h1, h2⟩)
      · exact ⟨0, a, rfl, h⟩
      · exact ⟨i + 1, t, by simpa using h1, h2⟩
    · rintro ⟨i, t, h1, h2⟩
      cases i with
      | zero => simp at h1; subst h1; exact .inl h2
      | succ i => exact .inr ⟨i, t, by simpa using h1, h2⟩
/-- The blocks of rows. -/
def rowBs (l : List Ty) : List Nat := l.filterMap fun u => u.row.ownBlock
theorem rowBs_append (a b : List Ty) : rowBs (a ++ b) = rowBs a ++ rowBs b := by simp [rowBs]
theorem mem_rowBs {l : List Ty} {b : Nat} : b ∈ rowBs l ↔ ∃ u ∈ l, u.row.ownBlock = some b := by simp [rowBs]
/-- All its rows are rows that lie apart. -/
structure Apt (TY : TypeId) (w : World) (lo : Nat) (t : Ty) : Prop where
  own : ∀ u ∈ subs t, w.ownsRow lo TY 3 u.row u.els.length (tcells u.els)
  nd : (rowBs (subs t)).Nodup
theorem Apt.keep {TY : TypeId} {w w' : World} {lo lo' : Nat} {t : Ty} (h : Apt TY w lo t) (hl : lo' ≤ lo) (hk : ∀ b, lo ≤ b → b < w.heap.size → w'.heap[b]? = w.heap[b]?) : Apt TY w' lo' t :=
  ⟨fun u hu => own_lower (row_keep (h.own u hu) fun b hb => hk b ((h.own u hu).lt b hb).1 ((h.own u hu).lt b hb).2) hl, h.nd⟩
theorem Apt.leaf {TY : TypeId} {w : World} {lo : Nat} {k : Nat} {s : ByteArray} : Apt TY w lo (.mk k s none 0 []) :=
  ⟨fun u hu => by rw [subs_eq] at hu; simp [Ty.els, subsL] at hu; subst hu; exact World.ownsRow_nil _ _ _ _, by rw [subs_eq]; simp [Ty.els, subsL, rowBs, Ty.row, Ty.addr, Ty.cap, Value.ownBlock]⟩
/-- A type in blocks from lo on, its rows apart. -/
def InO (TY : TypeId) (w : World) (lo : Nat) (t : Ty) : Prop := In w (fun b => lo ≤ b ∧ b < w.heap.size ∧ Plain w b) t ∧ Apt TY w lo t
theorem InO.keep {TY : TypeId} {w w' : World} {lo lo' : Nat} {t : Ty} (h : InO TY w lo t) (hl : lo' ≤ lo) (hs : w.heap.size ≤ w'.heap.size) (hk : ∀ b, lo ≤ b → b < w.heap.size → w'.heap[b]? = w.heap[b]?) : InO TY w' lo' t :=
  ⟨h.1.keep (fun b hb => ⟨Nat.le_trans hl hb.1, Nat.lt_of_lt_of_le hb.2.1 hs, hb.2.2.keep (hk b hb.1 hb.2.1)⟩) (fun p hp => World.cell?_of_block (hk p.block hp.1 hp.2.1)), h.2.keep hl hk⟩
end ScoT
