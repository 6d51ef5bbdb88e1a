/- A scope with one block more, one block less: the memory's side. -/
/- A scope with one block less: the memory's side. -/
import Derived.Test.YtfpjleabmemieaaGreatScoBa
set_option maxRecDepth 100000
namespace ScoT
open Go Go.RowKit
set_option linter.unusedVariables false
section
variable {w : World} {tag : Nat → Tag} {n₀ : Nat} {TS TP : TypeId} {s : Nat} {A : Option Addr} {cap : Nat} {bs : List Bk}
theorem set_heap (w : World) (b o : Nat) (v : Value) (k : Nat) (h : k ≠ b) : (w.setCell ⟨b, o, none⟩ v).heap[k]? = w.heap[k]? := Below.heap_setCell w ⟨b, o, none⟩ v k h
theorem set_size (w : World) (a : Addr) (v : Value) : (w.setCell a v).heap.size = w.heap.size := by simp [World.setCell]
theorem Scp.s_lt (h : Scp w tag n₀ TS TP s A cap bs) : s < w.heap.size := (h.lt s (by rw [h.tg]; simp)).2
theorem Scp.n0_le (h : Scp w tag n₀ TS TP s A cap bs) : n₀ ≤ w.heap.size := by have := h.lt s (by rw [h.tg]; simp); omega
theorem Scp.fresh (h : Scp w tag n₀ TS TP s A cap bs) {b : Nat} (hb : w.heap.size ≤ b) : tag b = .none := by
  cases e : tag b with
  | none => rfl
  | _ => have := (h.lt b (by rw [e]; simp)).2; omega
/-- One block more. -/
theorem Scp.push (h : Scp w tag n₀ TS TP s A cap bs) (TB : TypeId) {w4 : World} {v' : Value}
    (ho : w4.ownsRow n₀ TP 1 v' (bs.length + 1) ((bs.map fun k => Value.pointer (some ⟨k.loc, 0, none⟩)) ++ [.pointer (some ⟨w.heap.size + 1, 0, none⟩)]))
    (hg : (((w.alloc (.map #[] 0)).alloc (.cells #[.slice none 0 0, .map (some w.heap.size)] TB)).alloc (.cells #[.pointer (some ⟨w.heap.size + 1, 0, none⟩)] TP)).grownBy w4 (Value.slice A bs.length cap).ownBlock)
    (hf : ∀ k, v'.ownBlock = some k → (Value.slice A bs.length cap).ownBlock = some k ∨ w.heap.size + 1 + 1 + 1 ≤ k) :
    ∃ A' cap' tag', Scp (w4.setCell ⟨s, 0, none⟩ v') tag' n₀ TS TP s A' cap' (bs ++ [⟨w.heap.size + 1, .slice none 0 0, w.heap.size, []⟩]) ∧ Turns w tag (w4.setCell ⟨s, 0, none⟩ v') tag' := by
  obtain ⟨n, hn⟩ : ∃ n, w.heap.size = n := ⟨_, rfl⟩
  rw [hn] at ho hg hf ⊢
  have hs := h.s_lt
  have h0 := h.n0_le
  rw [hn] at hs h0
  have hsz := hg.size
  simp only [World.size_alloc, hn] at hsz
  have hvb : ∀ k, (Value.slice A bs.length cap).ownBlock = some k → tag k = .row ∧ k < n := fun k hk => ⟨h.rt k hk, by rw [← hn]; exact (h.lt k (by rw [h.rt k hk]; simp)).2⟩
  -- what lay
  have old : ∀ b, b < n → tag b ≠ .row → w4.heap[b]? = w.heap[b]? := fun b hb ht => by
    rw [hg.block b (by simp; omega) (fun e => ht (hvb b e.symm).1), Below.heap_alloc _ _ _ (by simp; omega), Below.heap_alloc _ _ _ (by simp; omega), Below.heap_alloc _ _ _ (by omega)]
  have old5 : ∀ b, b < n → tag b ≠ .row → b ≠ s → (w4.setCell ⟨s, 0, none⟩ v').heap[b]? = w.heap[b]? := fun b hb ht hbs => (set_heap _ _ _ _ _ hbs).trans (old b hb ht)
  have hw1 : (w.alloc (.map #[] 0)).heap[n]? = some (.map #[] 0) := by rw [← hn]; exact World.alloc_heap_new w _
  have new0 : w4.heap[n]? = some (.map #[] 0) := by
    rw [hg.block n (by simp; omega) (fun e => by have := (hvb n e.symm).2; omega), Below.heap_alloc _ _ _ (by simp; omega), Below.heap_alloc _ _ _ (by simp; omega)]
    exact hw1
  have new1 : w4.heap[n + 1]? = some (.cells #[.slice none 0 0, .map (some n)] TB) := by
    rw [hg.block (n + 1) (by simp; omega) (fun e => by have := (hvb (n + 1) e.symm).2; omega), Below.heap_alloc _ _ _ (by simp; omega)]
    have := World.alloc_heap_new (w.alloc (.map #[] 0)) (.cells #[.slice none 0 0, .map (some n)] TB)
    rwa [World.size_alloc, hn] at this
  obtain ⟨g, c, hv, hgb⟩ : ∃ g c, v' = .slice (some ⟨g, 0, none⟩) (bs.length + 1) c ∧ g < w4.heap.size := by
    rcases ho.2 with ⟨_, h0⟩ | ⟨g, c, cur, hv, _, hh, _⟩
    · omega
    · exact ⟨g, c, hv, (Array.getElem?_eq_some_iff.1 hh).1⟩
  have hgk : v'.ownBlock = some g := by rw [hv]; rfl
  have hgo : (tag g = .row ∧ g < n) ∨ n + 3 ≤ g := by
    rcases hf g hgk with h1 | h1
    · exact .inl (hvb g h1)
    · exact .inr h1
  let tag' : Nat → Tag := fun b => if b < n then tag b else if b = n then .map bs.length else if b = n + 1 then .blk bs.length else if b = g then .row else .none
  have t_old : ∀ b, b < n → tag' b = tag b := fun b hb => by simp [tag', hb]
  have t_map : tag' n = .map bs.length := by simp [tag']
  have t_blk : tag' (n + 1) = .blk bs.length := by
    show (if n + 1 < n then tag (n + 1) else if n + 1 = n then Tag.map bs.length else if n + 1 = n + 1 then Tag.blk bs.length else if n + 1 = g then Tag.row else Tag.none) = _
    rw [if_neg (by omega), if_neg (by omega), if_pos rfl]
  have t_g : tag' g = .row := by
    rcases hgo with ⟨h1, h2⟩ | h1
    · rw [t_old g h2]; exact h1
    · simp only [tag', if_neg (show ¬ g < n by omega), if_neg (show ¬ g = n by omega), if_neg (show ¬ g = n + 1 by omega), if_true]
  have hgs : g ≠ s := by
    rintro rfl
    rcases hgo with ⟨h1, _⟩ | h1
    · rw [h.tg] at h1; cases h1
    · omega
  have sc : ∀ o, w4.cell? ⟨s, o, none⟩ = w.cell? ⟨s, o, none⟩ := fun o => World.cell?_of_block (old s hs (by rw [h.tg]; simp))
  have sf : ∀ o, w4.frozen? ⟨s, o, none⟩ = w.frozen? ⟨s, o, none⟩ := fun o => World.frozen?_of_block (a := ⟨s, o, none⟩) (old s hs (by rw [h.tg]; simp))
  refine ⟨some ⟨g, 0, none⟩, c, tag', ⟨?_, ?_, ?_, ?_, ?_, ?_, ?_, ?_, ?_⟩, ⟨⟨hg.os, hg.tape, hg.output⟩, ?_, ?_⟩⟩
  · rw [World.cell?_setCell_same' _ _ _ (by rw [sc, h.c0]; rfl), hv]; simp
  · rw [World.cell?_setCell_other _ _ _ _ (by simp), sc]; exact h.c1
  · intro o; rw [World.frozen?_setCell, sf]; exact h.fr o
  · rw [t_old s hs]; exact h.tg
  · have := row_keep (w' := w4.setCell ⟨s, 0, none⟩ v') ho (fun b hb => set_heap _ _ _ _ _ (by rw [hgk] at hb; cases hb; exact hgs))
    rw [hv] at this ⊢
    simpa using this
  · intro b hb
    obtain rfl : g = b := by simpa [Value.ownBlock] using hb
    exact t_g
  · intro i k hi
    by_cases hlt : i < bs.length
    · rw [List.getElem?_append_left hlt] at hi
      refine (h.bk i k hi).keep fun b hb => ?_
      have hne : tag b ≠ .none := fun e => by rw [e] at hb; simp [Tag.mine] at hb
      have hb2 : b < n := by rw [← hn]; exact (h.lt b hne).2
      exact ⟨old5 b hb2 (fun e => by rw [e] at hb; simp [Tag.mine] at hb) (fun e => by subst e; rw [h.tg] at hb; simp [Tag.mine] at hb), t_old b hb2⟩
    · have hi2 : i = bs.length := by
        have := (List.getElem?_eq_some_iff.1 hi).1
        simp at this; omega
      subst hi2
      rw [List.getElem?_append_right (Nat.le_refl _), Nat.sub_self] at hi
      obtain rfl : (⟨n + 1, .slice none 0 0, n, []⟩ : Bk) = k := by simpa using hi
      have e1 : (w4.setCell ⟨s, 0, none⟩ v').heap[n + 1]? = some (.cells #[.slice none 0 0, .map (some n)] TB) := (set_heap _ _ _ _ _ (by omega)).trans new1
      refine ⟨by simp [World.cell?, e1], by simp [World.cell?, e1], fun o => by simp [World.frozen?, e1], t_blk, ?_, t_map, World.ownsRow_nil _ _ _ _, fun b hb => by simp [Value.ownBlock] at hb, fun j m hj => by simp at hj, by simp⟩
      exact (set_heap _ _ _ _ _ (by show n ≠ s; omega)).trans new0
  · intro b hb
    rw [set_size]
    by_cases h1 : b < n
    · rw [t_old b h1] at hb
      have := h.lt b hb
      omega
    · by_cases h2 : b = n
      · omega
      · by_cases h3 : b = n + 1
        · omega
        · have h4 : b = g := by
            refine Classical.byContradiction fun e => hb ?_
            simp only [tag', if_neg h1, if_neg h2, if_neg h3, if_neg e]
          omega
  · intro b hb
    have hb2 : b < n := by
      refine Classical.byContradiction fun hn' => ?_
      simp only [tag', if_neg hn'] at hb
      split at hb
      · cases hb
      · split at hb
        · cases hb
        · split at hb <;> cases hb
    rw [t_old b hb2] at hb
    exact (h.pl b hb).keep (old5 b hb2 (by rw [hb]; simp) (by rintro rfl; rw [h.tg] at hb; cases hb))
  · rw [set_size]; omega
  · intro b hb ht
    have hb' : b < n := by omega
    exact ⟨old5 b hb' (by rw [ht]; simp) (fun e => by subst e; rw [h.tg] at ht; cases ht), (t_old b hb').trans ht⟩
end
end ScoT
namespace ScoT
open Go Go.RowKit
set_option linter.unusedVariables false
section
variable {w : World} {tag : Nat → Tag} {n₀ : Nat} {TS TP : TypeId} {s : Nat} {A : Option Addr} {cap : Nat} {bs : List Bk}
theorem set_obj {w : World} {g i : Nat} {cur : Array Value} {e : TypeId} (h : w.heap[g]? = some (.cells cur e (0, 0))) (u : Value) : (w.setCell ⟨g, i, none⟩ u).heap[g]? = some (.cells (cur.setIfInBounds i u) e (0, 0)) := by
  obtain ⟨hlt, hk⟩ := Array.getElem?_eq_some_iff.1 h
  show (w.heap.modify g _)[g]? = _
  rw [Array.getElem?_eq_getElem (by rw [Array.size_modify]; exact hlt), Array.getElem_modify_self, hk]
  rfl
theorem own_beyond {lo size g n cap i : Nat} {e : TypeId} {xs : List Value} (h : w.ownsRow lo e size (.slice (some ⟨g, 0, none⟩) n cap) n xs) (hi : n * size ≤ i) (u : Value) : (w.setCell ⟨g, i, none⟩ u).ownsRow lo e size (.slice (some ⟨g, 0, none⟩) n cap) n xs := by
  refine ⟨h.1, ?_⟩
  rcases h.2 with ⟨h0, _⟩ | ⟨g', cap', cur, hv, hg, hh, hn, hcap, hsz, htake⟩
  · cases h0
  · cases hv
    refine .inr ⟨g, cap, _, rfl, hg, set_obj hh u, hn, hcap, by rw [Array.size_setIfInBounds]; exact hsz, ?_⟩
    rw [← htake, Array.toList_setIfInBounds, List.take_set_of_le hi]
/-- One block less. -/
theorem Scp.pop {k : Bk} {g : Nat} {xs : List Bk} (h : Scp w tag n₀ TS TP s (some ⟨g, 0, none⟩) cap (xs ++ [k])) :
    Scp ((w.setCell ⟨g, xs.length, none⟩ (.pointer none)).setCell ⟨s, 0, none⟩ (.slice (some ⟨g, 0, none⟩) xs.length cap)) tag n₀ TS TP s (some ⟨g, 0, none⟩) cap xs ∧
    BkAt ((w.setCell ⟨g, xs.length, none⟩ (.pointer none)).setCell ⟨s, 0, none⟩ (.slice (some ⟨g, 0, none⟩) xs.length cap)) tag n₀ TS xs.length k ∧
    Turns w tag ((w.setCell ⟨g, xs.length, none⟩ (.pointer none)).setCell ⟨s, 0, none⟩ (.slice (some ⟨g, 0, none⟩) xs.length cap)) tag := by
  have hgt : tag g = .row := h.rt g rfl
  have hgs : g ≠ s := by rintro rfl; rw [h.tg] at hgt; cases hgt
  have old : ∀ b, tag b ≠ .row → tag b ≠ .scope → ((w.setCell ⟨g, xs.length, none⟩ (.pointer none)).setCell ⟨s, 0, none⟩ (.slice (some ⟨g, 0, none⟩) xs.length cap)).heap[b]? = w.heap[b]? := fun b h1 h2 =>
    (set_heap _ _ _ _ _ (by rintro rfl; exact h2 h.tg)).trans (set_heap _ _ _ _ _ (by rintro rfl; exact h1 hgt))
  have sc : ∀ o, (w.setCell ⟨g, xs.length, none⟩ (.pointer none)).cell? ⟨s, o, none⟩ = w.cell? ⟨s, o, none⟩ := fun o => World.cell?_of_block (set_heap _ _ _ _ _ hgs.symm)
  have hbk : ∀ i j, (xs ++ [k])[i]? = some j → BkAt ((w.setCell ⟨g, xs.length, none⟩ (.pointer none)).setCell ⟨s, 0, none⟩ (.slice (some ⟨g, 0, none⟩) xs.length cap)) tag n₀ TS i j := fun i j hi =>
    (h.bk i j hi).keep fun b hb => ⟨old b (fun e => by rw [e] at hb; simp [Tag.mine] at hb) (fun e => by rw [e] at hb; simp [Tag.mine] at hb), rfl⟩
  refine ⟨⟨?_, ?_, ?_, h.tg, ?_, ?_, ?_, ?_, fun b hb => (h.pl b hb).keep (old b (by rw [hb]; simp) (by rw [hb]; simp))⟩, ?_, ⟨rfl, rfl, rfl⟩, ?_, ?_⟩
  · exact World.cell?_setCell_same' _ _ _ (by rw [sc, h.c0]; rfl)
  · rw [World.cell?_setCell_other _ _ _ _ (by simp), sc]; exact h.c1
  · intro o; rw [World.frozen?_setCell, World.frozen?_setCell]; exact h.fr o
  · have h1 : w.ownsRow n₀ TP 1 (.slice (some ⟨g, 0, none⟩) xs.length cap) xs.length (xs.map fun k => .pointer (some ⟨k.loc, 0, none⟩)) := by
      have h2 := h.own
      rw [List.length_append, List.map_append] at h2
      exact ownsRow_pop (by simp) h2
    exact row_keep (own_beyond h1 (by omega) _) fun b hb => set_heap _ _ _ _ _ (by rintro rfl; exact hgs (by simpa [Value.ownBlock] using hb))
  · intro b hb
    obtain rfl : g = b := by simpa [Value.ownBlock] using hb
    exact hgt
  · intro i j hi
    exact hbk i j (by rw [List.getElem?_append_left (List.getElem?_eq_some_iff.1 hi).1]; exact hi)
  · intro b hb
    rw [set_size, set_size]; exact h.lt b hb
  · exact hbk _ _ (by simp)
  · rw [set_size, set_size]; exact Nat.le_refl _
  · intro b hb ht
    exact ⟨old b (by rw [ht]; simp) (by rw [ht]; simp), ht⟩
theorem Scp.s_far {W w4 : World} (h : Scp w tag n₀ TS TP s A cap bs) (hW : Below w.heap.size w W) (hg : W.grownBy w4 (Value.slice A bs.length cap).ownBlock) : w4.heap[s]? = w.heap[s]? := by
  have hs := h.s_lt
  rw [hg.block s (Nat.lt_of_lt_of_le hs hW.size) (fun e => by have := h.rt s e.symm; rw [h.tg] at this; cases this), hW.block s hs]
theorem own_slice {lo size n : Nat} {e : TypeId} {v : Value} {xs : List Value} (h : w.ownsRow lo e size v n xs) (hn : 0 < n) : ∃ g c, v = .slice (some ⟨g, 0, none⟩) n c := by
  rcases h.2 with ⟨_, h0⟩ | ⟨g, c, cur, hv, _⟩
  · omega
  · exact ⟨g, c, hv⟩
theorem Scp.row_some {k : Bk} {xs : List Bk} (h : Scp w tag n₀ TS TP s A cap (xs ++ [k])) : ∃ g, A = some ⟨g, 0, none⟩ := by
  rcases h.own.2 with ⟨_, h0⟩ | ⟨g, c, cur, hv, _⟩
  · simp at h0
  · injection hv with h1 _ _
    exact ⟨g, h1⟩
theorem row_ptr {xs : List Bk} {g c n : Nat} (h : w.ownsRow n₀ TP 1 (.slice (some ⟨g, 0, none⟩) n c) n (xs.map fun k => Value.pointer (some ⟨k.loc, 0, none⟩))) {i : Nat} {k : Bk} (hi : xs[i]? = some k) : w.cell? ⟨g, i, none⟩ = some (.pointer (some ⟨k.loc, 0, none⟩)) := by
  have := h.cells (g := g) rfl i (.pointer (some ⟨k.loc, 0, none⟩)) (by rw [List.getElem?_map, hi]; rfl)
  have hadd : (⟨g, 0, none⟩ : Addr).add i = ⟨g, i, none⟩ := by unfold Addr.add; split <;> simp_all
  rwa [hadd] at this
theorem row_frozen {lo size g c n : Nat} {e : TypeId} {xs : List Value} (h : w.ownsRow lo e size (.slice (some ⟨g, 0, none⟩) n c) n xs) (o : Nat) : w.frozen? ⟨g, o, none⟩ = false := by
  rcases h.2 with ⟨h0, _⟩ | ⟨g', cap', cur, hv, _, hh, _⟩
  · cases h0
  · cases hv; simp [World.frozen?, hh]
theorem row_cap {lo size g c n : Nat} {e : TypeId} {xs : List Value} (h : w.ownsRow lo e size (.slice (some ⟨g, 0, none⟩) n c) n xs) : n ≤ c ∧ c ≤ maxLen := by
  rcases h.2 with ⟨h0, _⟩ | ⟨g', cap', cur, hv, _, hh, hn, hc, _⟩
  · cases h0
  · cases hv; exact ⟨hn, hc⟩
end
end ScoT
