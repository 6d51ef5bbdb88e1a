/- A scope with one block less: the memory's side. -/
import Derived.Test.YtecncjbphdacjaaScoCa
set_option maxRecDepth 100000
namespace ScoT
open Go Go.RowKit
set_option linter.unusedVariables false
section
variable {w : World} {tag : Nat → Tag} {n₀ : Nat} {TS TP : TypeId} {s : Nat} {A : Option Addr} {cap : Nat} {bs : List Bk}
theorem set_obj {w : World} {g i : Nat} {cur : Array Value} {e : TypeId} (h : w.heap[g]? = some (.cells cur e (0, 0))) (u : Value) : (w.setCell ⟨g, i, none⟩ u).heap[g]? = some (.cells (cur.setIfInBounds i u) e (0, 0)) := by
  obtain ⟨hlt, hk⟩ := Array.getElem?_eq_some_iff.1 h
  show (w.heap.modify g _)[g]? = _
  rw [Array.getElem?_eq_getElem (by rw [Array.size_modify]; exact hlt), Array.getElem_modify_self, hk]
  rfl
theorem own_beyond {lo size g n cap i : Nat} {e : TypeId} {xs : List Value} (h : w.ownsRow lo e size (.slice (some ⟨g, 0, none⟩) n cap) n xs) (hi : n * size ≤ i) (u : Value) : (w.setCell ⟨g, i, none⟩ u).ownsRow lo e size (.slice (some ⟨g, 0, none⟩) n cap) n xs := by
  refine ⟨h.1, ?_⟩
  rcases h.2 with ⟨h0, _⟩ | ⟨g', cap', cur, hv, hg, hh, hn, hcap, hsz, htake⟩
  · cases h0
  · cases hv
    refine .inr ⟨g, cap, _, rfl, hg, set_obj hh u, hn, hcap, by rw [Array.size_setIfInBounds]; exact hsz, ?_⟩
    rw [← htake, Array.toList_setIfInBounds, List.take_set_of_le hi]
/-- One block less. -/
theorem Scp.pop {k : Bk} {g : Nat} {xs : List Bk} (h : Scp w tag n₀ TS TP s (some ⟨g, 0, none⟩) cap (xs ++ [k])) :
    Scp ((w.setCell ⟨g, xs.length, none⟩ (.pointer none)).setCell ⟨s, 0, none⟩ (.slice (some ⟨g, 0, none⟩) xs.length cap)) tag n₀ TS TP s (some ⟨g, 0, none⟩) cap xs ∧
    BkAt ((w.setCell ⟨g, xs.length, none⟩ (.pointer none)).setCell ⟨s, 0, none⟩ (.slice (some ⟨g, 0, none⟩) xs.length cap)) tag n₀ TS xs.length k ∧
    Turns w tag ((w.setCell ⟨g, xs.length, none⟩ (.pointer none)).setCell ⟨s, 0, none⟩ (.slice (some ⟨g, 0, none⟩) xs.length cap)) tag := by
  have hgt : tag g = .row := h.rt g rfl
  have hgs : g ≠ s := by rintro rfl; rw [h.tg] at hgt; cases hgt
  have old : ∀ b, tag b ≠ .row → tag b ≠ .scope → ((w.setCell ⟨g, xs.length, none⟩ (.pointer none)).setCell ⟨s, 0, none⟩ (.slice (some ⟨g, 0, none⟩) xs.length cap)).heap[b]? = w.heap[b]? := fun b h1 h2 =>
    (set_heap _ _ _ _ _ (by rintro rfl; exact h2 h.tg)).trans (set_heap _ _ _ _ _ (by rintro rfl; exact h1 hgt))
  have sc : ∀ o, (w.setCell ⟨g, xs.length, none⟩ (.pointer none)).cell? ⟨s, o, none⟩ = w.cell? ⟨s, o, none⟩ := fun o => World.cell?_of_block (set_heap _ _ _ _ _ hgs.symm)
  have hbk : ∀ i j, (xs ++ [k])[i]? = some j → BkAt ((w.setCell ⟨g, xs.length, none⟩ (.pointer none)).setCell ⟨s, 0, none⟩ (.slice (some ⟨g, 0, none⟩) xs.length cap)) tag n₀ TS i j := fun i j hi =>
    (h.bk i j hi).keep fun b hb => ⟨old b (fun e => by rw [e] at hb; simp [Tag.mine] at hb) (fun e => by rw [e] at hb; simp [Tag.mine] at hb), rfl⟩
  refine ⟨⟨?_, ?_, ?_, h.tg, ?_, ?_, ?_, ?_⟩, ?_, ⟨rfl, rfl, rfl⟩, ?_, ?_⟩
  · exact World.cell?_setCell_same' _ _ _ (by rw [sc, h.c0]; rfl)
  · rw [World.cell?_setCell_other _ _ _ _ (by simp), sc]; exact h.c1
  · intro o; rw [World.frozen?_setCell, World.frozen?_setCell]; exact h.fr o
  · have h1 : w.ownsRow n₀ TP 1 (.slice (some ⟨g, 0, none⟩) xs.length cap) xs.length (xs.map fun k => .pointer (some ⟨k.loc, 0, none⟩)) := by
      have h2 := h.own
      rw [List.length_append, List.map_append] at h2
      exact ownsRow_pop (by simp) h2
    exact row_keep (own_beyond h1 (by omega) _) fun b hb => set_heap _ _ _ _ _ (by rintro rfl; exact hgs (by simpa [Value.ownBlock] using hb))
  · intro b hb
    obtain rfl : g = b := by simpa [Value.ownBlock] using hb
    exact hgt
  · intro i j hi
    exact hbk i j (by rw [List.getElem?_append_left (List.getElem?_eq_some_iff.1 hi).1]; exact hi)
  · intro b hb
    rw [set_size, set_size]; exact h.lt b hb
  · exact hbk _ _ (by simp)
  · rw [set_size, set_size]; exact Nat.le_refl _
  · intro b hb ht
    exact ⟨old b (by rw [ht]; simp) (by rw [ht]; simp), ht⟩
theorem Scp.s_far {W w4 : World} (h : Scp w tag n₀ TS TP s A cap bs) (hW : Below w.heap.size w W) (hg : W.grownBy w4 (Value.slice A bs.length cap).ownBlock) : w4.heap[s]? = w.heap[s]? := by
  have hs := h.s_lt
  rw [hg.block s (Nat.lt_of_lt_of_le hs hW.size) (fun e => by have := h.rt s e.symm; rw [h.tg] at this; cases this), hW.block s hs]
theorem own_slice {lo size n : Nat} {e : TypeId} {v : Value} {xs : List Value} (h : w.ownsRow lo e size v n xs) (hn : 0 < n) : ∃ g c, v = .slice (some ⟨g, 0, none⟩) n c := by
  rcases h.2 with ⟨_, h0⟩ | ⟨g, c, cur, hv, _⟩
  · omega
  · exact ⟨g, c, hv⟩
theorem Scp.row_some {k : Bk} {xs : List Bk} (h : Scp w tag n₀ TS TP s A cap (xs ++ [k])) : ∃ g, A = some ⟨g, 0, none⟩ := by
  rcases h.own.2 with ⟨_, h0⟩ | ⟨g, c, cur, hv, _⟩
  · simp at h0
  · injection hv with h1 _ _
    exact ⟨g, h1⟩
theorem row_ptr {xs : List Bk} {g c n : Nat} (h : w.ownsRow n₀ TP 1 (.slice (some ⟨g, 0, none⟩) n c) n (xs.map fun k => Value.pointer (some ⟨k.loc, 0, none⟩))) {i : Nat} {k : Bk} (hi : xs[i]? = some k) : w.cell? ⟨g, i, none⟩ = some (.pointer (some ⟨k.loc, 0, none⟩)) := by
  have := h.cells (g := g) rfl i (.pointer (some ⟨k.loc, 0, none⟩)) (by rw [List.getElem?_map, hi]; rfl)
  have hadd : (⟨g, 0, none⟩ : Addr).add i = ⟨g, i, none⟩ := by unfold Addr.add; split <;> simp_all
  rwa [hadd] at this
theorem row_frozen {lo size g c n : Nat} {e : TypeId} {xs : List Value} (h : w.ownsRow lo e size (.slice (some ⟨g, 0, none⟩) n c) n xs) (o : Nat) : w.frozen? ⟨g, o, none⟩ = false := by
  rcases h.2 with ⟨h0, _⟩ | ⟨g', cap', cur, hv, _, hh, _⟩
  · cases h0
  · cases hv; simp [World.frozen?, hh]
theorem row_cap {lo size g c n : Nat} {e : TypeId} {xs : List Value} (h : w.ownsRow lo e size (.slice (some ⟨g, 0, none⟩) n c) n xs) : n ≤ c ∧ c ≤ maxLen := by
  rcases h.2 with ⟨h0, _⟩ | ⟨g', cap', cur, hv, _, hh, hn, hc, _⟩
  · cases h0
  · cases hv; exact ⟨hn, hc⟩
end
end ScoT
