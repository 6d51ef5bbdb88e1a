/- A word's cells; three stores into a row's last element. -/
import Derived.Test.YtngimijiafnheaaGreatRdH
set_option maxRecDepth 100000
set_option linter.unusedSimpArgs false
namespace LexT
open Go Go.RowKit
set_option linter.unusedVariables false
mutual
/-- A word's cells; Tw is the rows' type. -/
def wdC (Tw : TypeId) : Wd → List Cell
  | .mk name args p => [strC name, .row Tw 3 (wdsC Tw args), .p (.int .i64 (p : Int))]
def wdsC (Tw : TypeId) : List Wd → List Cell
  | [] => []
  | x :: xs => wdC Tw x ++ wdsC Tw xs
end
theorem wdC_length (Tw : TypeId) (x : Wd) : (wdC Tw x).length = 3 := by cases x; simp [wdC]
theorem wdsC_length (Tw : TypeId) : ∀ xs : List Wd, (wdsC Tw xs).length = xs.length * 3
  | [] => by simp [wdsC]
  | x :: xs => by simp [wdsC, wdC_length, wdsC_length Tw xs]; omega
theorem wdsC_append (Tw : TypeId) : ∀ xs ys : List Wd, wdsC Tw (xs ++ ys) = wdsC Tw xs ++ wdsC Tw ys
  | [], ys => by simp [wdsC]
  | x :: xs, ys => by simp [wdsC, wdsC_append Tw xs ys]
theorem wdsC_one (Tw : TypeId) (x : Wd) : wdsC Tw [x] = wdC Tw x := by simp [wdsC]
theorem setCell_comm (w : World) (a c : Addr) (u v : Value) (h : a.block ≠ c.block) : (w.setCell a u).setCell c v = (w.setCell c v).setCell a u := by
  have hh : ((w.setCell a u).setCell c v).heap = ((w.setCell c v).setCell a u).heap := by
    apply Array.ext_getElem?
    intro i
    simp only [World.setCell, Array.getElem?_modify]
    by_cases h1 : a.block = i <;> by_cases h2 : c.block = i
    · omega
    · simp [h1, h2]
    · simp [h1, h2]
    · simp [h1, h2]
  show World.mk .. = World.mk ..
  unfold World.setCell at hh ⊢
  congr
/-- The value of a word that was read. -/
theorem AtL.word {w : World} {Tw : TypeId} {x : Wd} {S : List Nat} {xs : List Value} (h : AtL w (wdC Tw x) S xs) : ∃ (nm : Bs) (ao : Option Addr) (n c q : Nat) (ws : List Wd), x = .mk nm ws q ∧ xs = [.string (mkS nm), .slice ao n c, .int .i64 (q : Int)] := by
  cases x with
  | mk nm args p =>
    unfold wdC at h
    unfold AtL at h
    obtain ⟨S1, S2, x1, xs1, rfl, rfl, h1, h2⟩ := h
    unfold AtL at h2
    obtain ⟨S3, S4, x2, xs2, rfl, rfl, h3, h4⟩ := h2
    unfold AtL at h4
    obtain ⟨S5, S6, x3, xs3, rfl, rfl, h5, h6⟩ := h4
    unfold AtL at h6
    obtain ⟨rfl, rfl⟩ := h6
    unfold strC at h1
    unfold At at h1 h3 h5
    obtain ⟨rfl, _⟩ := h1
    obtain ⟨rfl, _⟩ := h5
    obtain ⟨n, ys, S', a1, a2, _⟩ := h3
    obtain ⟨ao, cc, rfl⟩ := own_form a2
    exact ⟨nm, ao, n, cc, p, args, rfl, rfl⟩
/-- A row whose last element, of three cells, is stored anew. -/
theorem own_last {w : World} {T : TypeId} {g k c : Nat} {xs : List Value} {z0 z1 z2 : Value} (h : w.ownsRow 0 T 3 (.slice (some ⟨g, 0, none⟩) (k + 1) c) (k + 1) (xs ++ [z0, z1, z2])) (hk : xs.length = k * 3) (a0 a1 a2 : Value) :
    (((w.setCell ⟨g, k * 3, none⟩ a0).setCell ⟨g, k * 3 + 1, none⟩ a1).setCell ⟨g, k * 3 + 2, none⟩ a2).ownsRow 0 T 3 (.slice (some ⟨g, 0, none⟩) (k + 1) c) (k + 1) (xs ++ [a0, a1, a2]) := by
  refine ⟨by simp [hk]; omega, .inr ?_⟩
  rcases h.2 with ⟨h0, _⟩ | ⟨g', cap, cur, hv, hb, hg, hc1, hc2, hc3, hc4⟩
  · cases h0
  · injection hv with e1 e2 e3
    injection e1 with e1
    injection e1 with e1
    subst e1 e3
    refine ⟨g, c, ((cur.setIfInBounds (k * 3) a0).setIfInBounds (k * 3 + 1) a1).setIfInBounds (k * 3 + 2) a2, rfl, hb, ?_, hc1, hc2, by simpa using hc3, ?_⟩
    · exact heap_setCell_same _ _ _ _ _ _ (heap_setCell_same _ _ _ _ _ _ (heap_setCell_same _ _ _ _ _ _ hg))
    · have hl : (k + 1) * 3 ≤ cur.size := by rw [hc3]; exact Nat.mul_le_mul_right 3 hc1
      have hle : ((k + 1) * 3) = k * 3 + 3 := by omega
      apply List.ext_getElem?
      intro i
      have hxi : ∀ j, j < k * 3 → cur.toList[j]? = xs[j]? := by
        intro j hj
        have := congrArg (fun l => l[j]?) hc4
        simp only [List.getElem?_take] at this
        rw [if_pos (by omega), List.getElem?_append_left (by omega)] at this
        exact this
      rw [List.getElem?_take]
      by_cases h1 : i < (k + 1) * 3
      · rw [if_pos h1]
        simp only [Array.toList_setIfInBounds, List.getElem?_set, Array.length_toList, List.length_set]
        by_cases h2 : i < k * 3
        · rw [if_neg (by omega), if_neg (by omega), if_neg (by omega), List.getElem?_append_left (by omega)]
          exact hxi i h2
        · rw [List.getElem?_append_right (by omega), hk]
          have : i = k * 3 ∨ i = k * 3 + 1 ∨ i = k * 3 + 2 := by omega
          rcases this with rfl | rfl | rfl
          · rw [if_neg (by omega), if_neg (by omega), if_pos rfl, if_pos (by omega)]; simp
          · rw [if_neg (by omega), if_pos rfl, if_pos (by omega)]
            rw [show k * 3 + 1 - k * 3 = 1 by omega]; rfl
          · rw [if_pos rfl, if_pos (by omega)]
            rw [show k * 3 + 2 - k * 3 = 2 by omega]; rfl
      · rw [if_neg h1, List.getElem?_eq_none]
        simp [hk]; omega
/-- The cells of the last element ahead of that. -/
theorem own_last_cells {w : World} {T : TypeId} {g k c : Nat} {xs : List Value} {z0 z1 z2 : Value} (h : w.ownsRow 0 T 3 (.slice (some ⟨g, 0, none⟩) (k + 1) c) (k + 1) (xs ++ [z0, z1, z2])) (hk : xs.length = k * 3) :
    (w.cell? ⟨g, k * 3, none⟩ = some z0 ∧ w.cell? ⟨g, k * 3 + 1, none⟩ = some z1 ∧ w.cell? ⟨g, k * 3 + 2, none⟩ = some z2) ∧ (∀ i, w.frozen? ⟨g, i, none⟩ = false) := by
  have hadd : ∀ j, (⟨g, 0, none⟩ : Addr).add j = ⟨g, j, none⟩ := fun j => by unfold Addr.add; split <;> simp_all
  have key : ∀ j u, (xs ++ [z0, z1, z2])[j]? = some u → w.cell? ⟨g, j, none⟩ = some u := fun j u hj => by rw [← hadd j]; exact h.cells (g := g) rfl j u hj
  refine ⟨⟨key _ _ ?_, key _ _ ?_, key _ _ ?_⟩, fun i => ?_⟩
  · rw [List.getElem?_append_right (by omega), hk, Nat.sub_self]; rfl
  · rw [List.getElem?_append_right (by omega), hk, show k * 3 + 1 - k * 3 = 1 by omega]; rfl
  · rw [List.getElem?_append_right (by omega), hk, show k * 3 + 2 - k * 3 = 2 by omega]; rfl
  · rcases h.2 with ⟨h0, _⟩ | ⟨g', cap, cur, hv, hb, hg, _⟩
    · cases h0
    · injection hv with e1
      injection e1 with e1
      injection e1 with e1
      subst e1
      simp [World.frozen?, hg]
end LexT
