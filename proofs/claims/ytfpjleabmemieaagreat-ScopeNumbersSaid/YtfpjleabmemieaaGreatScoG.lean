/- A scope with one name more, and with a name used: the memory's side. -/
import Derived.Test.YtfpjleabmemieaaGreatScoCa
set_option maxRecDepth 100000
namespace ScoT
open Go Go.RowKit
set_option linter.unusedVariables false
section
variable {w : World} {tag : Nat → Tag} {n₀ : Nat} {TS TP : TypeId} {s : Nat} {A : Option Addr} {cap : Nat} {bs : List Bk}
/-- One name more in the innermost block. -/
theorem Scp.add {k : Bk} {xs : List Bk} (h : Scp w tag n₀ TS TP s A cap (xs ++ [k])) (name : ByteArray) (hno : findN name k.names = none) (hsz : name.size ≤ 281474976710656) (T : TypeId)
    {W w3 W7 : World} {v' : Value} {t' : Ty} {m : Nat}
    (hW : Below w.heap.size w W) (hg : W.grownBy w3 k.ord.ownBlock)
    (ho : w3.ownsRow n₀ TS 1 v' (k.names.length + 1) ((k.names.map fun m => Value.string m.name) ++ [.string name]))
    (hf : ∀ b, v'.ownBlock = some b → k.ord.ownBlock = some b ∨ w.heap.size ≤ b)
    (h7 : W7.heap[k.mp]? = some (.map (ents (k.names ++ [⟨name, t', false, m⟩])) (k.names.length + 1)))
    (hnew : W7.heap[m]? = some (.cells #[.int .u8 t'.kind, .string t'.name, .slice t'.addr t'.els.length t'.cap, .bool false] T)) (hm : w3.heap.size ≤ m)
    (hold : ∀ b, b < w3.heap.size → b ≠ k.mp → W7.heap[b]? = (w3.setCell ⟨k.loc, 0, none⟩ v').heap[b]?)
    (hty : In W7 (fun b => w3.heap.size ≤ b ∧ b < W7.heap.size ∧ b ≠ m ∧ Plain W7 b) t') (h7s : w3.heap.size ≤ W7.heap.size) (hcalm : W7.os = w.os ∧ W7.tape = w.tape ∧ W7.output = w.output) :
    ∃ tag', Scp W7 tag' n₀ TS TP s A cap (xs ++ [{ k with ord := v', names := k.names ++ [⟨name, t', false, m⟩] }]) ∧ Turns w tag W7 tag' := by
  obtain ⟨n, hn⟩ : ∃ n, w.heap.size = n := ⟨_, rfl⟩
  obtain ⟨n3, hn3⟩ : ∃ n3, w3.heap.size = n3 := ⟨_, rfl⟩
  rw [hn] at hf
  rw [hn3] at hm hold hty h7s
  have hk := h.bk xs.length k (by simp)
  have hs := h.s_lt
  have h0 := h.n0_le
  rw [hn] at hs h0
  have hm7 : m < W7.heap.size := (Array.getElem?_eq_some_iff.1 hnew).1
  have hw3 : n ≤ n3 := by have h1 := hW.size; have h2 := hg.size; omega
  have lt_of : ∀ b, tag b ≠ .none → b < n := fun b hb => by rw [← hn]; exact (h.lt b hb).2
  -- what lay
  have old3 : ∀ b, b < n → tag b ≠ .ord xs.length → w3.heap[b]? = w.heap[b]? := fun b hb ht => by
    rw [hg.block b (by have := hW.size; omega) (fun e => ht (hk.ot b e.symm)), hW.block b (by omega)]
  have old7 : ∀ b, b < n → tag b ≠ .ord xs.length → tag b ≠ .blk xs.length → tag b ≠ .map xs.length → W7.heap[b]? = w.heap[b]? := fun b hb h1 h2 h3 => by
    rw [hold b (by omega) (by rintro rfl; exact h3 hk.mt), set_heap _ _ _ _ _ (by rintro rfl; exact h2 hk.tg), old3 b hb h1]
  obtain ⟨g, c, rfl⟩ : ∃ g c, v' = .slice (some ⟨g, 0, none⟩) (k.names.length + 1) c := by
    rcases ho.2 with ⟨_, h0⟩ | ⟨g, c, cur, hv, _⟩
    · omega
    · exact ⟨g, c, hv⟩
  have hg3 : g < n3 := by rw [← hn3]; exact (ho.lt g rfl).2
  have hgo : (tag g = .ord xs.length ∧ g < n) ∨ n ≤ g := by
    rcases hf g rfl with h1 | h1
    · exact .inl ⟨hk.ot g h1, lt_of g (by rw [hk.ot g h1]; simp)⟩
    · exact .inr h1
  have hlk : k.loc < n := lt_of _ (by rw [hk.tg]; simp)
  have hmk : k.mp < n := lt_of _ (by rw [hk.mt]; simp)
  have hgl : g ≠ k.loc := by
    rintro rfl
    rcases hgo with ⟨h1, _⟩ | h1
    · rw [hk.tg] at h1; cases h1
    · omega
  have hgm : g ≠ k.mp := by
    rintro rfl
    rcases hgo with ⟨h1, _⟩ | h1
    · rw [hk.mt] at h1; cases h1
    · omega
  have hlm : k.loc ≠ k.mp := fun e => by have h1 := hk.tg; rw [e, hk.mt] at h1; cases h1
  classical
  let tag' : Nat → Tag := fun b => if b < n then tag b else if b = g then .ord xs.length else if b = m then .mean xs.length k.names.length else if n3 ≤ b ∧ b < W7.heap.size ∧ Plain W7 b then .typ else .none
  have t_old : ∀ b, b < n → tag' b = tag b := fun b hb => by simp [tag', hb]
  have t_g : tag' g = .ord xs.length := by
    rcases hgo with ⟨h1, h2⟩ | h1
    · rw [t_old g h2]; exact h1
    · simp only [tag', if_neg (show ¬ g < n by omega), if_true]
  have t_m : tag' m = .mean xs.length k.names.length := by
    simp only [tag', if_neg (show ¬ m < n by omega), if_neg (show ¬ m = g by omega), if_true]
  have t_ty : ∀ b, n3 ≤ b → b < W7.heap.size → b ≠ m → Plain W7 b → tag' b = .typ := fun b h1 h2 h3 h4 => by
    show (if b < n then tag b else if b = g then Tag.ord xs.length else if b = m then Tag.mean xs.length k.names.length else if n3 ≤ b ∧ b < W7.heap.size ∧ Plain W7 b then Tag.typ else Tag.none) = _
    rw [if_neg (by omega), if_neg (by omega), if_neg h3, if_pos ⟨h1, h2, h4⟩]
  have sheap : W7.heap[s]? = w.heap[s]? := old7 s hs (by rw [h.tg]; simp) (by rw [h.tg]; simp) (by rw [h.tg]; simp)
  have lheap : W7.heap[k.loc]? = (w3.setCell ⟨k.loc, 0, none⟩ (.slice (some ⟨g, 0, none⟩) (k.names.length + 1) c)).heap[k.loc]? := hold _ (by omega) hlm
  have l3 : w3.heap[k.loc]? = w.heap[k.loc]? := old3 _ hlk (by rw [hk.tg]; simp)
  have lc : ∀ o, w3.cell? ⟨k.loc, o, none⟩ = w.cell? ⟨k.loc, o, none⟩ := fun o => World.cell?_of_block l3
  have len_eq : (xs ++ [({ k with ord := Value.slice (some ⟨g, 0, none⟩) (k.names.length + 1) c, names := k.names ++ [⟨name, t', false, m⟩] } : Bk)]).length = (xs ++ [k]).length := by simp
  have hown := h.own
  refine ⟨tag', ⟨?_, ?_, ?_, ?_, ?_, ?_, ?_, ?_, ?_⟩, ⟨hcalm, by omega, ?_⟩⟩
  · rw [len_eq, World.cell?_of_block (a := ⟨s, 0, none⟩) sheap]; exact h.c0
  · rw [World.cell?_of_block (a := ⟨s, 1, none⟩) sheap]; exact h.c1
  · intro o; rw [World.frozen?_of_block (a := ⟨s, o, none⟩) sheap]; exact h.fr o
  · rw [t_old s hs]; exact h.tg
  · have : w.ownsRow n₀ TP 1 (.slice A (xs ++ [k]).length cap) (xs ++ [k]).length ((xs ++ [({ k with ord := Value.slice (some ⟨g, 0, none⟩) (k.names.length + 1) c, names := k.names ++ [⟨name, t', false, m⟩] } : Bk)]).map fun k => Value.pointer (some ⟨k.loc, 0, none⟩)) := by
      simpa using hown
    rw [len_eq]
    exact row_keep this fun b hb => old7 b (lt_of b (by rw [h.rt b hb]; simp)) (by rw [h.rt b hb]; simp) (by rw [h.rt b hb]; simp) (by rw [h.rt b hb]; simp)
  · intro b hb
    rw [len_eq] at hb
    rw [t_old b (lt_of b (by rw [h.rt b hb]; simp))]
    exact h.rt b hb
  · intro i j hi
    by_cases hlt : i < xs.length
    · rw [List.getElem?_append_left hlt] at hi
      refine (h.bk i j (by rw [List.getElem?_append_left hlt]; exact hi)).keep fun b hb => ?_
      have hne : tag b ≠ .none := fun e => by rw [e] at hb; simp [Tag.mine] at hb
      have hnx : ¬ xs.length = i := by omega
      exact ⟨old7 b (lt_of b hne) (fun e => by rw [e] at hb; simp [Tag.mine, hnx] at hb) (fun e => by rw [e] at hb; simp [Tag.mine, hnx] at hb) (fun e => by rw [e] at hb; simp [Tag.mine, hnx] at hb), t_old b (lt_of b hne)⟩
    · have hi2 : i = xs.length := by
        have := (List.getElem?_eq_some_iff.1 hi).1
        simp at this; omega
      subst hi2
      rw [List.getElem?_append_right (Nat.le_refl _), Nat.sub_self] at hi
      obtain rfl : ({ k with ord := Value.slice (some ⟨g, 0, none⟩) (k.names.length + 1) c, names := k.names ++ [⟨name, t', false, m⟩] } : Bk) = j := by simpa using hi
      refine ⟨?_, ?_, ?_, ?_, ?_, ?_, ?_, ?_, ?_, ?_⟩
      · rw [World.cell?_of_block (a := ⟨k.loc, 0, none⟩) lheap]
        exact World.cell?_setCell_same' _ _ _ (by rw [lc, hk.c0]; rfl)
      · rw [World.cell?_of_block (a := ⟨k.loc, 1, none⟩) lheap, World.cell?_setCell_other _ _ _ _ (by simp), lc]
        exact hk.c1
      · intro o
        rw [World.frozen?_of_block (a := ⟨k.loc, o, none⟩) lheap, World.frozen?_setCell, World.frozen?_of_block (a := ⟨k.loc, o, none⟩) l3]
        exact hk.fr o
      · rw [t_old _ hlk]; exact hk.tg
      · simpa using h7
      · rw [t_old _ hmk]; exact hk.mt
      · have := row_keep (w' := W7) ho (fun b hb => by
          obtain rfl : g = b := by simpa [Value.ownBlock] using hb
          rw [hold g hg3 hgm, set_heap _ _ _ _ _ hgl])
        simpa using this
      · intro b hb
        obtain rfl : g = b := by simpa [Value.ownBlock] using hb
        exact t_g
      · intro j q hj
        by_cases hjl : j < k.names.length
        · have hj' : k.names[j]? = some q := by
            have : (k.names ++ [(⟨name, t', false, m⟩ : Nm)])[j]? = some q := hj
            rwa [List.getElem?_append_left hjl] at this
          refine (hk.ms j q hj').keep fun b hb => ?_
          have hne : tag b ≠ .none := fun e => by rw [e] at hb; simp at hb
          refine ⟨old7 b (lt_of b hne) ?_ ?_ ?_, t_old b (lt_of b hne)⟩ <;> (intro e; rw [e] at hb; simp at hb)
        · have hj2 : j = k.names.length := by
            have := (List.getElem?_eq_some_iff.1 hj).1
            simp at this; omega
          subst hj2
          have hj' : (k.names ++ [(⟨name, t', false, m⟩ : Nm)])[k.names.length]? = some q := hj
          rw [List.getElem?_append_right (Nat.le_refl _), Nat.sub_self] at hj'
          obtain rfl : (⟨name, t', false, m⟩ : Nm) = q := by simpa using hj'
          refine ⟨by simp [World.cell?, hnew], by simp [World.cell?, hnew], by simp [World.cell?, hnew], by simp [World.cell?, hnew], fun o => by simp [World.frozen?, hnew], t_m, ?_, hsz⟩
          exact hty.keep (fun b hb => t_ty b hb.1 hb.2.1 hb.2.2.1 hb.2.2.2) (fun p _ => rfl)
      · show ((k.names ++ [(⟨name, t', false, m⟩ : Nm)]).map Nm.name).Nodup
        rw [List.map_append, List.nodup_append]
        refine ⟨hk.nd, by simp, fun a ha b hb e => ?_⟩
        obtain ⟨q, hq, rfl⟩ := List.mem_map.1 ha
        simp at hb
        exact findYtfpjleabmemieaaGreatnone hno q hq (by rw [e, hb])
  · intro b hb
    by_cases h1 : b < n
    · rw [t_old b h1] at hb
      have := h.lt b hb
      omega
    · by_cases h2 : b = g
      · omega
      · by_cases h3 : b = m
        · omega
        · refine Classical.byContradiction fun hcon => hb ?_
          show (if b < n then tag b else if b = g then Tag.ord xs.length else if b = m then Tag.mean xs.length k.names.length else if n3 ≤ b ∧ b < W7.heap.size ∧ Plain W7 b then Tag.typ else Tag.none) = _
          rw [if_neg h1, if_neg h2, if_neg h3, if_neg (fun hh => by have := hh.1; have := hh.2.1; omega)]
  · intro b hb
    by_cases h1 : b < n
    · rw [t_old b h1] at hb
      exact (h.pl b hb).keep (old7 b h1 (by rw [hb]; simp) (by rw [hb]; simp) (by rw [hb]; simp))
    · have hb' : (if b < n then tag b else if b = g then Tag.ord xs.length else if b = m then Tag.mean xs.length k.names.length else if n3 ≤ b ∧ b < W7.heap.size ∧ Plain W7 b then Tag.typ else Tag.none) = Tag.typ := hb
      rw [if_neg h1] at hb'
      split at hb'
      · cases hb'
      · split at hb'
        · cases hb'
        · split at hb'
          · rename_i hh; exact hh.2.2
          · cases hb'
  · intro b hb ht
    have hb' : b < n := by omega
    exact ⟨old7 b hb' (by rw [ht]; simp) (by rw [ht]; simp) (by rw [ht]; simp), (t_old b hb').trans ht⟩
end
end ScoT
