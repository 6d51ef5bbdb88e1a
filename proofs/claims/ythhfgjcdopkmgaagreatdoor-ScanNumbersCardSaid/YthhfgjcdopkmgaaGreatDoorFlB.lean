/- The state of rows that lie apart, through the five loops that ask it. -/
import Derived.Test.YthhfgjcdopkmgaaGreatDoorFlA
import Derived.Laws.MakeOwn
set_option maxRecDepth 100000
namespace FlT
open Go Go.RowKit
set_option linter.unusedVariables false
set_option linter.unusedSimpArgs false
def gnK (n : Nat → Nat) (k j : Nat) : Nat := if j < k then n j + 64 else 0
theorem upd_upd {α : Type} (f : Nat → α) (k : Nat) (x y : α) : upd (upd f k x) k y = upd f k y := by funext j; unfold upd; split <;> rfl
theorem mks_upd (M : Nat → Nat → List Value) (f : Nat → Nat) (k m : Nat) : (fun j => mks M j (upd f k m j)) = upd (fun j => mks M j (f j)) k (mks M k m) := by
  funext j
  unfold upd
  by_cases e : j = k
  · subst e; simp
  · simp [e]
theorem gnK_succ (n : Nat → Nat) (k : Nat) : upd (gnK n k) k (n k + 64) = gnK n (k + 1) := by
  funext j
  unfold upd gnK
  rcases Nat.lt_trichotomy j k with e | e | e
  · simp [show j ≠ k by omega, e, show j < k + 1 by omega]
  · subst e; simp
  · simp [show j ≠ k by omega, show ¬ j < k by omega, show ¬ j < k + 1 by omega]
section
variable (M : Nat → Nat → List Value) (To T : TypeId) (base s g cg N h : Nat) (LV : Nat → Value) (n : Nat → Nat) (w0 : World)
/-- Rows below k have grown one by one, and are kept. -/
def L3 (k : Nat) (w : World) : Prop := ∃ GV GC, (∀ j, j < k → GC j = GV j) ∧ FG To T base s g cg N h LV GV GC n (gnK n k) (fun j => mks M j (n j)) (fun j => mks M j (gnK n k j)) w0 w
/-- Row k has grown by i. -/
def L4 (k i : Nat) (v : Value) (w : World) : Prop := ∃ GV GC, GV k = v ∧ (∀ j, j < k → GC j = GV j) ∧ FG To T base s g cg N h LV GV GC n (upd (gnK n k) k (n k + i)) (fun j => mks M j (n j)) (upd (fun j => mks M j (gnK n k j)) k (mks M k (n k + i))) w0 w
/-- Rows below k have grown by many at once, and are kept. -/
def L7 (k : Nat) (w : World) : Prop := ∃ GV GC gn ys, (∀ j, j < k → GC j = GV j ∧ gn j = n j + 64 ∧ ys j = mks M j (n j) ++ mks M (j + N) 64) ∧ FG To T base s g cg N h LV GV GC n gn (fun j => mks M j (n j)) ys w0 w
/-- Row k has, too: it is not kept yet. -/
def L8 (k : Nat) (v : Value) (w : World) : Prop := ∃ GV GC gn ys, GV k = v ∧ (gn k = n k + 64 ∧ ys k = mks M k (n k) ++ mks M (k + N) 64) ∧ (∀ j, j < k → GC j = GV j ∧ gn j = n j + 64 ∧ ys j = mks M j (n j) ++ mks M (j + N) 64) ∧ FG To T base s g cg N h LV GV GC n gn (fun j => mks M j (n j)) ys w0 w
end
section
variable {M : Nat → Nat → List Value} {To T : TypeId} {base s g cg N h : Nat} {LV : Nat → Value} {n : Nat → Nat} {w0 w : World}
theorem map_nil (N : Nat) (z : Value) : (List.range N).map (fun _ => z) = List.replicate N z := by
  induction N with
  | zero => rfl
  | succ N ih => rw [List.range_succ, List.map_append, ih, List.replicate_succ']; rfl
theorem L3.start (H : FL To T base s g cg N LV n (fun j => mks M j (n j)) w) {w' : World} (hm : Moves (fun b => ∃ k, k < N ∧ (LV k).ownBlock = some b) w0 w) (hB : base ≤ w0.heap.size)
    (hown : w'.ownsRow w.heap.size To 1 (.slice (some ⟨w.heap.size, 0, none⟩) N N) N (madeCells (Value.slice none 0 0).cells (N * 1)).toList) (hg : w.grownBy w' none) : L3 M To T base s g cg N w.heap.size LV n w0 0 w' := by
  have e1 : gnK n 0 = fun _ => 0 := by funext j; simp [gnK]
  have e2 : (fun j => mks M j (gnK n 0 j)) = fun _ => [] := by funext j; simp [gnK, mks]
  refine ⟨fun _ => .slice none 0 0, fun _ => .slice none 0 0, fun j hj => by omega, ?_⟩
  rw [e2, e1]
  refine H.start hm hB ?_ hg
  rw [map_nil]
  simp only [Value.cells, Nat.mul_one] at hown
  rw [toList_madeCells_one] at hown
  exact hown
theorem L3.keep {k : Nat} {w' : World} (H : L3 M To T base s g cg N h LV n w0 k w) (hb : Below w.heap.size w w') : L3 M To T base s g cg N h LV n w0 k w' := by
  obtain ⟨GV, GC, h1, h2⟩ := H
  exact ⟨GV, GC, h1, h2.keep hb⟩
theorem L4.keep {k i : Nat} {v : Value} {w' : World} (H : L4 M To T base s g cg N h LV n w0 k i v w) (hb : Below w.heap.size w w') : L4 M To T base s g cg N h LV n w0 k i v w' := by
  obtain ⟨GV, GC, h0, h1, h2⟩ := H
  exact ⟨GV, GC, h0, h1, h2.keep hb⟩
theorem L7.keep {k : Nat} {w' : World} (H : L7 M To T base s g cg N h LV n w0 k w) (hb : Below w.heap.size w w') : L7 M To T base s g cg N h LV n w0 k w' := by
  obtain ⟨GV, GC, gn, ys, h1, h2⟩ := H
  exact ⟨GV, GC, gn, ys, h1, h2.keep hb⟩
theorem L8.keep {k : Nat} {v : Value} {w' : World} (H : L8 M To T base s g cg N h LV n w0 k v w) (hb : Below w.heap.size w w') : L8 M To T base s g cg N h LV n w0 k v w' := by
  obtain ⟨GV, GC, gn, ys, h0, h3, h1, h2⟩ := H
  exact ⟨GV, GC, gn, ys, h0, h3, h1, h2.keep hb⟩
theorem L3.outCell {k j : Nat} (H : L3 M To T base s g cg N h LV n w0 k w) (hj : j < N) : w.cell? ⟨g, j, none⟩ = some (LV j) := by
  obtain ⟨GV, GC, h1, h2⟩ := H
  exact h2.outCell hj
theorem L3.ins {k j : Nat} (H : L3 M To T base s g cg N h LV n w0 k w) (hj : j < N) : w.ownsRow base T s (LV j) (n j) (mks M j (n j)) := by
  obtain ⟨GV, GC, h1, h2⟩ := H
  exact h2.ins j hj
theorem L3.sizes {k : Nat} (H : L3 M To T base s g cg N h LV n w0 k w) : base ≤ w.heap.size := by
  obtain ⟨GV, GC, h1, h2⟩ := H
  exact h2.sizes
theorem L3.mv {k : Nat} (H : L3 M To T base s g cg N h LV n w0 k w) : Moves (fun b => ∃ k, k < N ∧ (LV k).ownBlock = some b) w0 w := by
  obtain ⟨GV, GC, h1, h2⟩ := H
  exact h2.mv
/-- What a row has grown into, as it is kept. -/
theorem L3.gs {k j : Nat} (H : L3 M To T base s g cg N h LV n w0 k w) (hj : j < k) (hk : k ≤ N) : ∃ v, w.cell? ⟨h, j, none⟩ = some v ∧ w.ownsRow base T s v (n j + 64) (mks M j (n j + 64)) := by
  obtain ⟨GV, GC, h1, h2⟩ := H
  have := h2.gins j (by omega)
  simp only [gnK, hj, if_true] at this
  exact ⟨GV j, (h2.gsCell (by omega)).trans (congrArg some (h1 j hj)), this⟩
theorem L3.into {k : Nat} (H : L3 M To T base s g cg N h LV n w0 k w) (hk : k < N) : L4 M To T base s g cg N h LV n w0 k 0 (LV k) w := by
  obtain ⟨GV, GC, h1, h2⟩ := H
  exact ⟨upd GV k (LV k), GC, upd_same _ _ _, fun j hj => by rw [upd_other _ _ _ (by omega)]; exact h1 j hj, h2.back hk⟩
theorem L4.own {k i : Nat} {v : Value} (H : L4 M To T base s g cg N h LV n w0 k i v w) (hk : k < N) : w.ownsRow base T s v (n k + i) (mks M k (n k + i)) := by
  obtain ⟨GV, GC, h0, h1, h2⟩ := H
  have := h2.gins k hk
  rw [upd_same, upd_same, h0] at this
  exact this
theorem L4.outCell {k i j : Nat} {v : Value} (H : L4 M To T base s g cg N h LV n w0 k i v w) (hj : j < N) : w.cell? ⟨g, j, none⟩ = some (LV j) := by
  obtain ⟨GV, GC, h0, h1, h2⟩ := H
  exact h2.outCell hj
theorem L4.gsCell {k i j : Nat} {v : Value} (H : L4 M To T base s g cg N h LV n w0 k i v w) (hj : j < N) : ∃ u, w.cell? ⟨h, j, none⟩ = some u ∧ w.frozen? ⟨h, j, none⟩ = false := by
  obtain ⟨GV, GC, h0, h1, h2⟩ := H
  exact ⟨_, h2.gsCell hj, h2.gsFree j⟩
theorem L4.ins {k i j : Nat} {v : Value} (H : L4 M To T base s g cg N h LV n w0 k i v w) (hj : j < N) : w.ownsRow base T s (LV j) (n j) (mks M j (n j)) := by
  obtain ⟨GV, GC, h0, h1, h2⟩ := H
  exact h2.ins j hj
theorem L4.sizes {k i : Nat} {v : Value} (H : L4 M To T base s g cg N h LV n w0 k i v w) : base ≤ w.heap.size := by
  obtain ⟨GV, GC, h0, h1, h2⟩ := H
  exact h2.sizes
theorem L4.grow {k i : Nat} {v v' : Value} {w' : World} (H : L4 M To T base s g cg N h LV n w0 k i v w) (hk : k < N) (hs : 0 < s) (hG : Grown T base s v (n k + i) (mks M k (n k + i)) 1 (M k (n k + i)) v' w w') : L4 M To T base s g cg N h LV n w0 k (i + 1) v' w' := by
  obtain ⟨GV, GC, h0, h1, h2⟩ := H
  have h3 := h2.grow (k := k) (v' := v') (m := 1) (news := M k (n k + i)) (w' := w') hk hs (fun b _ _ => by rw [upd_same]; omega) (by rw [upd_same, upd_same, h0]; exact hG)
  rw [upd_same, upd_same, upd_upd, upd_upd] at h3
  refine ⟨upd GV k v', GC, upd_same _ _ _, fun j hj => by rw [upd_other _ _ _ (by omega)]; exact h1 j hj, ?_⟩
  rw [show mks M k (n k + (i + 1)) = mks M k (n k + i) ++ M k (n k + i) from mks_succ M k (n k + i)]
  exact h3
theorem L4.put {k : Nat} {v : Value} (H : L4 M To T base s g cg N h LV n w0 k 64 v w) (hk : k < N) : L3 M To T base s g cg N h LV n w0 (k + 1) (w.setCell ⟨h, k, none⟩ v) := by
  obtain ⟨GV, GC, h0, h1, h2⟩ := H
  have h3 := h2.put hk v
  rw [← mks_upd, gnK_succ] at h3
  refine ⟨GV, upd GC k v, fun j hj => ?_, h3⟩
  by_cases e : j = k
  · subst e
    rw [upd_same, h0]
  · rw [upd_other _ _ _ e]
    exact h1 j (by omega)
theorem L3.turn (H : L3 M To T base s g cg N h LV n w0 N w) : L7 M To T base s g cg N h LV n w0 0 w := by
  obtain ⟨GV, GC, h1, h2⟩ := H
  exact ⟨GV, GC, _, _, fun j hj => by omega, h2⟩
theorem L7.outCell {k j : Nat} (H : L7 M To T base s g cg N h LV n w0 k w) (hj : j < N) : w.cell? ⟨g, j, none⟩ = some (LV j) := by
  obtain ⟨GV, GC, gn, ys, h1, h2⟩ := H
  exact h2.outCell hj
theorem L7.ins {k j : Nat} (H : L7 M To T base s g cg N h LV n w0 k w) (hj : j < N) : w.ownsRow base T s (LV j) (n j) (mks M j (n j)) := by
  obtain ⟨GV, GC, gn, ys, h1, h2⟩ := H
  exact h2.ins j hj
theorem L7.sizes {k : Nat} (H : L7 M To T base s g cg N h LV n w0 k w) : base ≤ w.heap.size := by
  obtain ⟨GV, GC, gn, ys, h1, h2⟩ := H
  exact h2.sizes
theorem L7.mv {k : Nat} (H : L7 M To T base s g cg N h LV n w0 k w) : Moves (fun b => ∃ k, k < N ∧ (LV k).ownBlock = some b) w0 w := by
  obtain ⟨GV, GC, gn, ys, h1, h2⟩ := H
  exact h2.mv
theorem L7.gs {k j : Nat} (H : L7 M To T base s g cg N h LV n w0 k w) (hj : j < k) (hk : k ≤ N) : ∃ v, w.cell? ⟨h, j, none⟩ = some v ∧ w.ownsRow base T s v (n j + 64) (mks M j (n j) ++ mks M (j + N) 64) := by
  obtain ⟨GV, GC, gn, ys, h1, h2⟩ := H
  have := h2.gins j (by omega)
  obtain ⟨e1, e2, e3⟩ := h1 j hj
  rw [e2, e3] at this
  exact ⟨GV j, (h2.gsCell (by omega)).trans (congrArg some e1), this⟩
theorem L7.grow {k : Nat} {v' : Value} {w' : World} (H : L7 M To T base s g cg N h LV n w0 k w) (hk : k < N) (hs : 0 < s) (hG : Grown T base s (LV k) (n k) (mks M k (n k)) 64 (mks M (k + N) 64) v' w w') : L8 M To T base s g cg N h LV n w0 k v' w' := by
  obtain ⟨GV, GC, gn, ys, h1, h2⟩ := H
  have h3 := (h2.back hk).grow (k := k) (v' := v') (m := 64) (news := mks M (k + N) 64) (w' := w') hk hs (fun b _ _ => by rw [upd_same]; omega) (by rw [upd_same, upd_same, upd_same]; exact hG)
  rw [upd_same, upd_same, upd_upd, upd_upd, upd_upd] at h3
  exact ⟨_, GC, _, _, upd_same _ _ _, ⟨upd_same _ _ _, upd_same _ _ _⟩, fun j hj => by rw [upd_other _ _ _ (by omega), upd_other _ _ _ (by omega), upd_other _ _ _ (by omega)]; exact h1 j hj, h3⟩
theorem L8.gsCell {k j : Nat} {v : Value} (H : L8 M To T base s g cg N h LV n w0 k v w) (hj : j < N) : ∃ u, w.cell? ⟨h, j, none⟩ = some u ∧ w.frozen? ⟨h, j, none⟩ = false := by
  obtain ⟨GV, GC, gn, ys, h0, h3, h1, h2⟩ := H
  exact ⟨_, h2.gsCell hj, h2.gsFree j⟩
theorem L8.put {k : Nat} {v : Value} (H : L8 M To T base s g cg N h LV n w0 k v w) (hk : k < N) : L7 M To T base s g cg N h LV n w0 (k + 1) (w.setCell ⟨h, k, none⟩ v) := by
  obtain ⟨GV, GC, gn, ys, h0, h3, h1, h2⟩ := H
  refine ⟨GV, upd GC k v, gn, ys, fun j hj => ?_, h2.put hk v⟩
  by_cases e : j = k
  · subst e
    rw [upd_same, h0]
    exact ⟨rfl, h3⟩
  · rw [upd_other _ _ _ e]
    exact h1 j (by omega)
end
end FlT
