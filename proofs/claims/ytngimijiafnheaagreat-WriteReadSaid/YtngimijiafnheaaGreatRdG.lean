/- Appends onto rows within rows. -/
import Derived.Test.YtngimijiafnheaaGreatRdF
import Derived.Deep.RegionLaw
import Derived.Deep.RegionHeld3
import Derived.Deep.DeepCutAuto
import Derived.WalkSmall
set_option maxRecDepth 100000
set_option linter.unusedSimpArgs false
namespace LexT
open Go Go.RowKit
set_option linter.unusedVariables false
theorem own_someR {w : World} {base : Nat} {e : TypeId} {size : Nat} {v : Value} {n : Nat} {xs : List Value} (h : w.ownsRow base e size v n xs) (hv : v ≠ .slice none 0 0) : ∃ g c, v = .slice (some ⟨g, 0, none⟩) n c := by
  rcases h.2 with ⟨h, _⟩ | ⟨g, cap, cur, h, _⟩
  · exact absurd h hv
  · exact ⟨g, cap, h⟩
/-- An append of some cells onto a row, wherever it lies: in place, or a new row. -/
theorem run_append_r {P : Program} (w : World) (t ty e : TypeId) (i : TypeInfo) (z : Value) (size bytes : Nat) (ht : P.underlying t = some (.slice e)) (hi : P.info? e = some i) (hz : i.zero = some z)
    (hsize : i.size = size) (hby : i.bytes = bytes) (hzs : z.cells.size = size) (hsz : 0 < size)
    (v : Value) (n : Nat) (xs : List Value) (hown : w.ownsRow 0 e size v n xs)
    (ad : Addr) (m c : Nat) (news : List Value) (hl : news.length = m * size) (hnews : ∀ j u, news[j]? = some u → w.cell? (ad.add j) = some u) (h1 : ∀ u ∈ news, u.oneCell' = true)
    (h63 : n + m ≤ maxLen) (hbytes : (n + m) * bytes ≤ 140737488355328) :
    ∃ v' w', (Builtin.append_ #[t, t] ty #[v, .slice (some ad) m c]).run P w = .ok v' w' ∧ w'.ownsRow 0 e size v' (n + m) (xs ++ news) ∧ w.grownBy w' v.ownBlock ∧ (∀ k, v'.ownBlock = some k → v.ownBlock = some k ∨ w.heap.size ≤ k) := by
  by_cases hv : v = .slice none 0 0
  · subst hv
    have hown' : w.ownsRow w.heap.size e size (.slice none 0 0) n xs := by
      refine ⟨hown.1, .inl ?_⟩
      rcases hown.2 with h | ⟨g, _, _, h, _⟩
      · exact h
      · cases h
    obtain ⟨v', w', a, b, d, _⟩ := run_append_own (P := P) w w.heap.size t ty e i z size bytes ht hi hz hsize hby hzs hsz _ n xs hown' ad m c news hl hnews h1 h63 hbytes (Nat.le_refl _)
    exact ⟨v', w', a, own_zero b, d, fun k hk => .inr (b.lt k hk).1⟩
  · obtain ⟨g, c0, rfl⟩ := own_someR hown hv
    by_cases hroom : n + m ≤ c0
    · obtain ⟨w', h2, h3, h4⟩ := run_append_fits (P := P) (w := w) 0 t ty e i size ht hi hsize g n c0 xs hown ad m c news hl hnews h1 hroom
      exact ⟨_, w', h2, h3, h4, fun k hk => .inl hk⟩
    · obtain ⟨v', w', h2, h3, h4⟩ := run_append_arg_grows (P := P) w t ty e i z size bytes ht hi hz hsize hby hzs hsz ⟨g, 0, none⟩ n c0 xs hown.1 (hown.cells (g := g) rfl) ad m c news hl hnews (by omega) h63 hbytes
      exact ⟨v', w', h2, own_zero h3, ⟨h4.os, h4.tape, h4.output, h4.size, fun k hk _ => h4.block k hk (by simp)⟩, fun k hk => .inr (h3.lt k hk).1⟩
/-- The same as one step of a region that draws. -/
theorem step_append_r {P : Program} {ops : Array Oper} {o : Oper} {a : Act} {w : World} {K : Act → World → Prop} {Q : Exit → Act → World → Prop} {E : Prop}
    (hg : o.guard = none) (s x : Operand) (t : TypeId) (hop : o.op = Op.call { callee := Callee.builtin Builtin.append, args := #[s, x], argTypes := #[t, t] })
    (e : TypeId) (i : TypeInfo) (z : Value) (size bytes : Nat) (ht : P.underlying t = some (.slice e)) (hi : P.info? e = some i) (hz : i.zero = some z)
    (hsize : i.size = size) (hby : i.bytes = bytes) (hzs : z.cells.size = size) (hsz : 0 < size)
    (v : Value) (n : Nat) (xs : List Value) (hs : a.eval s = v) (hown : w.ownsRow 0 e size v n xs)
    (ad : Addr) (m c : Nat) (hx : a.eval x = .slice (some ad) m c) (news : List Value) (hl : news.length = m * size) (hnews : ∀ j u, news[j]? = some u → w.cell? (ad.add j) = some u) (h1 : ∀ u ∈ news, u.oneCell' = true)
    (h63 : n + m ≤ maxLen) (hbytes : (n + m) * bytes ≤ 140737488355328)
    (hK : ∀ v' w', w'.ownsRow 0 e size v' (n + m) (xs ++ news) → w.grownBy w' v.ownBlock → (∀ k, v'.ownBlock = some k → v.ownBlock = some k ∨ w.heap.size ≤ k) → K (a.put o.dst v') w') :
    if Region.wanted o (yielded ops a.tmps) = true then Oper.wp P o a w K Q else E := by
  have hw : Region.wanted o (yielded ops a.tmps) = true := by simp [Region.wanted, hg]
  rw [if_pos hw]
  obtain ⟨v', w', hrun, h2, h3, h4⟩ := run_append_r (P := P) w t o.type e i z size bytes ht hi hz hsize hby hzs hsz v n xs hown ad m c news hl hnews h1 h63 hbytes
  unfold Oper.wp
  simp [execOp, hop, resolve, invoke, builtin, hs, hx, hrun, Result.andThen]
  exact hK _ _ h2 h3 h4
def strC (s : Bs) : Cell := .p (.string (mkS s))
theorem strs_at (w : World) : ∀ (ps : List Bs), AtL w (ps.map strC) [] (ps.map fun s => Value.string (mkS s))
  | [] => AtL.nil w
  | p :: ps => (strs_at w ps).plainCons
/-- A field of a struct of the call's own that holds a row, and the reader's box. -/
structure FldJ (lo lo2 b p q : Nat) (T Tq Te : TypeId) (k : Nat) (cells : Value → Array Value) (w : World) (cs : List Cell) : Prop where
  row : ∃ v S, w.heap[p]? = some (.cells (cells v) T (0, 0)) ∧ At w (.row Te k cs) S v ∧ S.Nodup ∧ ∀ s ∈ S, lo2 ≤ s
  ptr : w.heap[q]? = some (.cells #[.pointer (some ⟨b, 0, none⟩)] Tq (0, 0))
  b0 : b < lo
  p1 : lo ≤ p
  p2 : p < lo2
  q1 : lo ≤ q
  q2 : q < lo2
  pq : p ≠ q
  le : lo2 ≤ w.heap.size
theorem FldJ.keep {lo lo2 b p q : Nat} {T Tq Te : TypeId} {k : Nat} {cells : Value → Array Value} {w w' : World} {cs : List Cell} (h : FldJ lo lo2 b p q T Tq Te k cells w cs) (hg : w.grownBy w' (some b)) : FldJ lo lo2 b p q T Tq Te k cells w' cs := by
  obtain ⟨⟨v, S, h1, h2, h3, h4⟩, h5, b0, p1, p2, q1, q2, pq, le⟩ := h
  have e : ∀ x, lo ≤ x → x < w.heap.size → w'.heap[x]? = w.heap[x]? := fun x hx hl => hg.block x hl (by intro hh; injection hh with hh; omega)
  refine ⟨⟨v, S, (e p p1 (by omega)).trans h1, h2.same _ _ _ (fun g hgm => e g (by have := h4 g hgm; omega) (At.lt _ _ _ h2 g hgm)), h3, h4⟩, (e q q1 (by omega)).trans h5, b0, p1, p2, q1, q2, pq, Nat.le_trans le hg.size⟩
theorem FldJ.open_ {lo lo2 b p q : Nat} {T Tq Te : TypeId} {k : Nat} {cells : Value → Array Value} {w : World} {cs : List Cell} (h : FldJ lo lo2 b p q T Tq Te k cells w cs) :
    ∃ v n xs, w.heap[p]? = some (.cells (cells v) T (0, 0)) ∧ cs.length = n * k ∧ w.ownsRow 0 Te k v n xs ∧ (∀ ww, w.grownBy ww (some b) → ww.ownsRow 0 Te k v n xs) ∧ (∀ g, v.ownBlock = some g → lo2 ≤ g) ∧
      ∃ S', AtL w cs S' xs ∧ (ownL v ++ S').Nodup ∧ (∀ s ∈ S', lo2 ≤ s) := by
  obtain ⟨⟨v, S, h1, h2, h3, h4⟩, h5, b0, p1, p2, q1, q2, pq, le⟩ := h
  unfold At at h2
  obtain ⟨n, xs, S', a1, a2, rfl, a4⟩ := h2
  refine ⟨v, n, xs, h1, a1, a2, fun ww hg => own_same a2 (fun g hgm => ?_), fun g hg => h4 g (List.mem_append_left _ (mem_ownL.2 hg)), S', a4, h3, fun s hs => h4 s (List.mem_append_right _ hs)⟩
  have hlt := (a2.lt g (mem_ownL.1 hgm)).2
  have hge := h4 g (List.mem_append_left _ hgm)
  exact hg.block g hlt (by intro hh; injection hh with hh; omega)
/-- Behind an append, the row in its field. -/
theorem FldJ.put {lo lo2 b p q idx m : Nat} {T Tq Te : TypeId} {k : Nat} {cells : Value → Array Value} {w W1 W2 : World} {cs ds : List Cell} (h : FldJ lo lo2 b p q T Tq Te k cells w cs)
    {v v' : Value} {n : Nat} {xs news : List Value} {S' Sd : List Nat} (hv : w.heap[p]? = some (.cells (cells v) T (0, 0))) (hn : cs.length = n * k) (ho : w.ownsRow 0 Te k v n xs) (hge : ∀ g, v.ownBlock = some g → lo2 ≤ g) (ha : AtL w cs S' xs) (hnd : (ownL v ++ S').Nodup) (hS : ∀ s ∈ S', lo2 ≤ s)
    (hg1 : w.grownBy W1 (some b)) (hd : AtL W1 ds Sd news) (hm : ds.length = m * k) (hdn : Sd.Nodup) (hds : ∀ s ∈ Sd, w.heap.size ≤ s)
    (ho2 : W2.ownsRow 0 Te k v' (n + m) (xs ++ news)) (hg2 : W1.grownBy W2 v.ownBlock) (hnew : ∀ g, v'.ownBlock = some g → v.ownBlock = some g ∨ W1.heap.size ≤ g) (hset : (cells v).setIfInBounds idx v' = cells v') :
    FldJ lo lo2 b p q T Tq Te k cells (W2.setCell ⟨p, idx, none⟩ v') (cs ++ ds) ∧ Nx lo2 b p w (W2.setCell ⟨p, idx, none⟩ v') := by
  obtain ⟨_, h5, b0, p1, p2, q1, q2, pq, le⟩ := h
  have hlt := AtL.lt _ _ _ ha
  have e1 : ∀ x, lo ≤ x → x < w.heap.size → W1.heap[x]? = w.heap[x]? := fun x hx hl => hg1.block x hl (by intro hh; injection hh with hh; omega)
  have hs1 := hg1.size
  have hs2 := hg2.size
  have hown1 : W1.ownsRow 0 Te k v n xs := own_same ho (fun g hgm => e1 g (by have := hge g (mem_ownL.1 hgm); omega) (ho.lt g (mem_ownL.1 hgm)).2)
  have ha1 : AtL W1 cs S' xs := AtL.same _ _ _ ha (fun g hgm => e1 g (by have := hS g hgm; omega) (hlt g hgm))
  have hnd2 : ((ownL v ++ S') ++ Sd).Nodup := by
    rw [List.nodup_append]
    refine ⟨hnd, hdn, ?_⟩
    intro x hx y hy hxy
    subst hxy
    have h7 := hds x hy
    rcases List.mem_append.1 hx with hx | hx
    · have := (ho.lt x (mem_ownL.1 hx)).2; omega
    · have := hlt x hx; omega
  obtain ⟨S2, hat, hn2, hS2⟩ := At.push (W := W1) (S := ownL v ++ S') hn ⟨S', hown1, rfl, ha1⟩ hd hm hnd2 ho2 hg2 hnew
  have hS2' : ∀ s ∈ S2, lo2 ≤ s := by
    intro s hs
    rcases hS2 s hs with h | h | h
    · rcases List.mem_append.1 h with h | h
      · exact hge s (mem_ownL.1 h)
      · exact hS s h
    · have := hds s h; omega
    · omega
  have e2 : ∀ x, lo ≤ x → x < lo2 → W2.heap[x]? = w.heap[x]? := fun x hx hl => (hg2.block x (by omega) (by intro hh; have := hge x hh.symm; omega)).trans (e1 x hx (by omega))
  have hp2 : W2.heap[p]? = some (.cells (cells v) T (0, 0)) := (e2 p p1 p2).trans hv
  refine ⟨⟨⟨v', S2, ?_, hat.same _ _ _ (fun g hgm => Below.heap_setCell _ _ _ _ (by have := hS2' g hgm; show g ≠ p; omega)), hn2, hS2'⟩, ?_, b0, p1, p2, q1, q2, pq, by simp [World.setCell]; omega⟩, ?_⟩
  · rw [heap_setCell_same _ _ idx _ _ v' hp2, hset]
  · rw [Below.heap_setCell _ _ _ _ (by show q ≠ p; exact fun hh => pq hh.symm)]
    exact (e2 q q1 q2).trans h5
  · refine ⟨hg2.os.trans hg1.os, hg2.tape.trans hg1.tape, hg2.output.trans hg1.output, by simp [World.setCell]; omega, fun x hx hxb hxp => ?_⟩
    rw [Below.heap_setCell _ _ _ _ (by show x ≠ p; exact hxp)]
    refine (hg2.block x (by omega) (by intro hh; have := hge x hh.symm; omega)).trans (hg1.block x (by omega) (by intro hh; injection hh with hh; exact hxb hh))
/-- The struct that holds the row, ahead of the store. -/
theorem fld_at {lo lo2 b p q : Nat} {T Tq Te : TypeId} {k : Nat} {cells : Value → Array Value} {w W1 W2 : World} {cs : List Cell} (h : FldJ lo lo2 b p q T Tq Te k cells w cs) {v : Value} (hv : w.heap[p]? = some (.cells (cells v) T (0, 0)))
    (hge : ∀ g, v.ownBlock = some g → lo2 ≤ g) (hg1 : w.grownBy W1 (some b)) (hg2 : W1.grownBy W2 v.ownBlock) : W2.heap[p]? = some (.cells (cells v) T (0, 0)) := by
  have b0 := h.b0
  have p1 := h.p1
  have p2 := h.p2
  have le := h.le
  exact (hg2.block p (by have := hg1.size; omega) (by intro hh; have := hge p hh.symm; omega)).trans ((hg1.block p (by omega) (by intro hh; injection hh with hh; omega)).trans hv)
/-- The reader behind it all. -/
theorem rd_put {n lo2 b p idx : Nat} {w1 W1 W2 : World} {l : List Tok} {vb : Option Nat} (v' : Value) (h : Rd n w1 b l) (hb : Below w1.heap.size w1 W1) (hg2 : W1.grownBy W2 vb) (hvb : ∀ g, vb = some g → lo2 ≤ g) (hn : n ≤ lo2) (hp : n ≤ p) :
    Rd n (W2.setCell ⟨p, idx, none⟩ v') b l := by
  have h1 := h.under hb
  have hs := hb.size
  have h2 : Below n W1 W2 := (Below.refl n W1).grown hg2 h1.le (fun g hh => by have := hvb g hh; omega)
  exact (h1.below h2).below ((Below.refl n W2).setCell (p := ⟨p, idx, none⟩) hp v')
end LexT
