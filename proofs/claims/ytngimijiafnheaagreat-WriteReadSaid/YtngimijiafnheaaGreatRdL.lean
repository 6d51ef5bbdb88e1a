/- A field that holds a row, and another block of the call's own. -/
import Derived.Test.YtngimijiafnheaaGreatRdK
set_option maxRecDepth 100000
set_option linter.unusedSimpArgs false
namespace LexT
open Go Go.RowKit
set_option linter.unusedVariables false
/-- A field of a struct of the call's own that holds a row, and the reader's box. -/
structure FldO (lo lo2 b p q : Nat) (T : TypeId) (oq : Obj) (Te : TypeId) (k : Nat) (cells : Value → Array Value) (w : World) (cs : List Cell) : Prop where
  row : ∃ v S, w.heap[p]? = some (.cells (cells v) T (0, 0)) ∧ At w (.row Te k cs) S v ∧ S.Nodup ∧ ∀ s ∈ S, lo2 ≤ s
  ptr : w.heap[q]? = some oq
  b0 : b < lo
  p1 : lo ≤ p
  p2 : p < lo2
  q1 : lo ≤ q
  q2 : q < lo2
  pq : p ≠ q
  le : lo2 ≤ w.heap.size
theorem FldO.keep {lo lo2 b p q : Nat} {T : TypeId} {oq : Obj} {Te : TypeId} {k : Nat} {cells : Value → Array Value} {w w' : World} {cs : List Cell} (h : FldO lo lo2 b p q T oq Te k cells w cs) (hg : w.grownBy w' (some b)) : FldO lo lo2 b p q T oq Te k cells w' cs := by
  obtain ⟨⟨v, S, h1, h2, h3, h4⟩, h5, b0, p1, p2, q1, q2, pq, le⟩ := h
  have e : ∀ x, lo ≤ x → x < w.heap.size → w'.heap[x]? = w.heap[x]? := fun x hx hl => hg.block x hl (by intro hh; injection hh with hh; omega)
  refine ⟨⟨v, S, (e p p1 (by omega)).trans h1, h2.same _ _ _ (fun g hgm => e g (by have := h4 g hgm; omega) (At.lt _ _ _ h2 g hgm)), h3, h4⟩, (e q q1 (by omega)).trans h5, b0, p1, p2, q1, q2, pq, Nat.le_trans le hg.size⟩
theorem FldO.open_ {lo lo2 b p q : Nat} {T : TypeId} {oq : Obj} {Te : TypeId} {k : Nat} {cells : Value → Array Value} {w : World} {cs : List Cell} (h : FldO lo lo2 b p q T oq Te k cells w cs) :
    ∃ v n xs, w.heap[p]? = some (.cells (cells v) T (0, 0)) ∧ cs.length = n * k ∧ w.ownsRow 0 Te k v n xs ∧ (∀ ww, w.grownBy ww (some b) → ww.ownsRow 0 Te k v n xs) ∧ (∀ g, v.ownBlock = some g → lo2 ≤ g) ∧
      ∃ S', AtL w cs S' xs ∧ (ownL v ++ S').Nodup ∧ (∀ s ∈ S', lo2 ≤ s) := by
  obtain ⟨⟨v, S, h1, h2, h3, h4⟩, h5, b0, p1, p2, q1, q2, pq, le⟩ := h
  unfold At at h2
  obtain ⟨n, xs, S', a1, a2, rfl, a4⟩ := h2
  refine ⟨v, n, xs, h1, a1, a2, fun ww hg => own_same a2 (fun g hgm => ?_), fun g hg => h4 g (List.mem_append_left _ (mem_ownL.2 hg)), S', a4, h3, fun s hs => h4 s (List.mem_append_right _ hs)⟩
  have hlt := (a2.lt g (mem_ownL.1 hgm)).2
  have hge := h4 g (List.mem_append_left _ hgm)
  exact hg.block g hlt (by intro hh; injection hh with hh; omega)
/-- Behind an append, the row in its field. -/
theorem FldO.put {lo lo2 b p q idx m : Nat} {T : TypeId} {oq : Obj} {Te : TypeId} {k : Nat} {cells : Value → Array Value} {w W1 W2 : World} {cs ds : List Cell} (h : FldO lo lo2 b p q T oq Te k cells w cs)
    {v v' : Value} {n : Nat} {xs news : List Value} {S' Sd : List Nat} (hv : w.heap[p]? = some (.cells (cells v) T (0, 0))) (hn : cs.length = n * k) (ho : w.ownsRow 0 Te k v n xs) (hge : ∀ g, v.ownBlock = some g → lo2 ≤ g) (ha : AtL w cs S' xs) (hnd : (ownL v ++ S').Nodup) (hS : ∀ s ∈ S', lo2 ≤ s)
    (hg1 : w.grownBy W1 (some b)) (hd : AtL W1 ds Sd news) (hm : ds.length = m * k) (hdn : Sd.Nodup) (hds : ∀ s ∈ Sd, w.heap.size ≤ s)
    (ho2 : W2.ownsRow 0 Te k v' (n + m) (xs ++ news)) (hg2 : W1.grownBy W2 v.ownBlock) (hnew : ∀ g, v'.ownBlock = some g → v.ownBlock = some g ∨ W1.heap.size ≤ g) (hset : (cells v).setIfInBounds idx v' = cells v') :
    FldO lo lo2 b p q T oq Te k cells (W2.setCell ⟨p, idx, none⟩ v') (cs ++ ds) ∧ Nx lo2 b p w (W2.setCell ⟨p, idx, none⟩ v') := by
  obtain ⟨_, h5, b0, p1, p2, q1, q2, pq, le⟩ := h
  have hlt := AtL.lt _ _ _ ha
  have e1 : ∀ x, lo ≤ x → x < w.heap.size → W1.heap[x]? = w.heap[x]? := fun x hx hl => hg1.block x hl (by intro hh; injection hh with hh; omega)
  have hs1 := hg1.size
  have hs2 := hg2.size
  have hown1 : W1.ownsRow 0 Te k v n xs := own_same ho (fun g hgm => e1 g (by have := hge g (mem_ownL.1 hgm); omega) (ho.lt g (mem_ownL.1 hgm)).2)
  have ha1 : AtL W1 cs S' xs := AtL.same _ _ _ ha (fun g hgm => e1 g (by have := hS g hgm; omega) (hlt g hgm))
  have hnd2 : ((ownL v ++ S') ++ Sd).Nodup := by
    rw [List.nodup_append]
    refine ⟨hnd, hdn, ?_⟩
    intro x hx y hy hxy
    subst hxy
    have h7 := hds x hy
    rcases List.mem_append.1 hx with hx | hx
    · have := (ho.lt x (mem_ownL.1 hx)).2; omega
    · have := hlt x hx; omega
  obtain ⟨S2, hat, hn2, hS2⟩ := At.push (W := W1) (S := ownL v ++ S') hn ⟨S', hown1, rfl, ha1⟩ hd hm hnd2 ho2 hg2 hnew
  have hS2' : ∀ s ∈ S2, lo2 ≤ s := by
    intro s hs
    rcases hS2 s hs with h | h | h
    · rcases List.mem_append.1 h with h | h
      · exact hge s (mem_ownL.1 h)
      · exact hS s h
    · have := hds s h; omega
    · omega
  have e2 : ∀ x, lo ≤ x → x < lo2 → W2.heap[x]? = w.heap[x]? := fun x hx hl => (hg2.block x (by omega) (by intro hh; have := hge x hh.symm; omega)).trans (e1 x hx (by omega))
  have hp2 : W2.heap[p]? = some (.cells (cells v) T (0, 0)) := (e2 p p1 p2).trans hv
  refine ⟨⟨⟨v', S2, ?_, hat.same _ _ _ (fun g hgm => Below.heap_setCell _ _ _ _ (by have := hS2' g hgm; show g ≠ p; omega)), hn2, hS2'⟩, ?_, b0, p1, p2, q1, q2, pq, by simp [World.setCell]; omega⟩, ?_⟩
  · rw [heap_setCell_same _ _ idx _ _ v' hp2, hset]
  · rw [Below.heap_setCell _ _ _ _ (by show q ≠ p; exact fun hh => pq hh.symm)]
    exact (e2 q q1 q2).trans h5
  · refine ⟨hg2.os.trans hg1.os, hg2.tape.trans hg1.tape, hg2.output.trans hg1.output, by simp [World.setCell]; omega, fun x hx hxb hxp => ?_⟩
    rw [Below.heap_setCell _ _ _ _ (by show x ≠ p; exact hxp)]
    refine (hg2.block x (by omega) (by intro hh; have := hge x hh.symm; omega)).trans (hg1.block x (by omega) (by intro hh; injection hh with hh; exact hxb hh))
/-- The struct that holds the row, ahead of the store. -/
theorem fldO_at {lo lo2 b p q : Nat} {T : TypeId} {oq : Obj} {Te : TypeId} {k : Nat} {cells : Value → Array Value} {w W1 W2 : World} {cs : List Cell} (h : FldO lo lo2 b p q T oq Te k cells w cs) {v : Value} (hv : w.heap[p]? = some (.cells (cells v) T (0, 0)))
    (hge : ∀ g, v.ownBlock = some g → lo2 ≤ g) (hg1 : w.grownBy W1 (some b)) (hg2 : W1.grownBy W2 v.ownBlock) : W2.heap[p]? = some (.cells (cells v) T (0, 0)) := by
  have b0 := h.b0
  have p1 := h.p1
  have p2 := h.p2
  have le := h.le
  exact (hg2.block p (by have := hg1.size; omega) (by intro hh; have := hge p hh.symm; omega)).trans ((hg1.block p (by omega) (by intro hh; injection hh with hh; omega)).trans hv)
theorem FldO.set {lo lo2 b p q : Nat} {T : TypeId} {oq : Obj} {Te : TypeId} {k : Nat} {cells cells' : Value → Array Value} {w : World} {cs : List Cell} (h : FldO lo lo2 b p q T oq Te k cells w cs) (idx : Nat) (u : Value) (hc : ∀ v, (cells v).setIfInBounds idx u = cells' v) :
    FldO lo lo2 b p q T oq Te k cells' (w.setCell ⟨p, idx, none⟩ u) cs := by
  obtain ⟨⟨v, S, h1, h2, h3, h4⟩, h5, b0, p1, p2, q1, q2, pq, le⟩ := h
  refine ⟨⟨v, S, ?_, h2.same _ _ _ (fun g hg => Below.heap_setCell _ _ _ _ (by have := h4 g hg; show g ≠ p; omega)), h3, h4⟩, ?_, b0, p1, p2, q1, q2, pq, by simpa [World.setCell] using le⟩
  · rw [heap_setCell_same _ _ idx _ _ u h1, hc]
  · rw [Below.heap_setCell _ _ _ _ (by show q ≠ p; exact fun hh => pq hh.symm)]
    exact h5
theorem FldO.under {lo lo2 b p q : Nat} {T : TypeId} {oq : Obj} {Te : TypeId} {k : Nat} {cells : Value → Array Value} {w w' : World} {cs : List Cell} (h : FldO lo lo2 b p q T oq Te k cells w cs) (hb : Below w.heap.size w w') : FldO lo lo2 b p q T oq Te k cells w' cs := h.keep (grown_below hb _)
end LexT
namespace Go.Proofs.YtngimijiafnheaaGreat
open Go.Instr Go.RowKit LexT
set_option linter.unusedVariables false
def zeroAlt : Array Value := #[.slice none 0 0, .string ⟨#[]⟩, .bool false, .string ⟨#[]⟩, .int .i64 0, .int .i64 0]
end Go.Proofs.YtngimijiafnheaaGreat
