/- Parts of rows, changed in place. -/
/- Words made bare, in place. -/
/- A text's parts, in place. -/
import Derived.Test.YtbgkigdlbiknnaaRdY
import Derived.Test.YtbgkigdlbiknnaaMtA
import Derived.Test.YtbgkigdlbiknnaaRdZa
import Derived.Deep.RegionLaw
set_option maxRecDepth 100000
set_option linter.unusedSimpArgs false
namespace LexT
open Go Go.RowKit
set_option linter.unusedVariables false
/-- One cell among others: it may be turned in place, if the others' blocks stay. -/
theorem AtL.focus {w : World} : ∀ (cs : List Cell) (S : List Nat) (xs : List Value) (m : Nat) (c : Cell), AtL w cs S xs → S.Nodup → cs[m]? = some c →
    ∃ Sm v, xs[m]? = some v ∧ At w c Sm v ∧ Sm.Nodup ∧ (∀ s ∈ Sm, s ∈ S) ∧ ∀ (W : World) (d : Cell) (v' : Value), (∀ s ∈ S, s ∉ Sm → W.heap[s]? = w.heap[s]?) → At W d Sm v' → AtL W (cs.set m d) S (xs.set m v')
  | [], S, xs, m, c, h, hn, hm => by simp at hm
  | c0 :: cs, S, xs, 0, c, h, hn, hm => by
    obtain ⟨S1, S2, x, xs', rfl, rfl, h1, h2⟩ := AtL.uncons h
    simp at hm
    subst hm
    rw [List.nodup_append] at hn
    refine ⟨S1, x, rfl, h1, hn.1, fun s hs => List.mem_append_left _ hs, fun W d v' hf hd => ?_⟩
    show AtL W (d :: cs) (S1 ++ S2) (v' :: xs')
    exact AtL.cons hd (h2.same _ _ _ (fun g hg => hf g (List.mem_append_right _ hg) (fun hg1 => hn.2.2 g hg1 g hg rfl)))
  | c0 :: cs, S, xs, m + 1, c, h, hn, hm => by
    obtain ⟨S1, S2, x, xs', rfl, rfl, h1, h2⟩ := AtL.uncons h
    rw [List.nodup_append] at hn
    obtain ⟨Sm, v, h3, h4, h5, h6, h7⟩ := AtL.focus cs S2 xs' m c h2 hn.2.1 (by simpa using hm)
    refine ⟨Sm, v, by simpa using h3, h4, h5, fun s hs => List.mem_append_right _ (h6 s hs), fun W d v' hf hd => ?_⟩
    show AtL W (c0 :: cs.set m d) (S1 ++ S2) (x :: xs'.set m v')
    exact AtL.cons (h1.same _ _ _ (fun g hg => hf g (List.mem_append_left _ hg) (fun hg1 => hn.2.2 g hg g (h6 g hg1) rfl))) (h7 W d v' (fun s hs hs2 => hf s (List.mem_append_right _ hs) hs2) hd)
theorem set_self {α : Type} : ∀ (l : List α) (m : Nat) (v : α), l[m]? = some v → l.set m v = l
  | [], m, v, h => by simp at h
  | x :: l, 0, v, h => by simp at h; simp [h]
  | x :: l, m + 1, v, h => by simp at h; simp [set_self l m v h]
/-- A row one of whose cells holds a row, which is turned in place. -/
theorem At.inner {w : World} {T : TypeId} {k : Nat} {cs : List Cell} {S : List Nat} {g n cc : Nat} (h : At w (.row T k cs) S (.slice (some ⟨g, 0, none⟩) n cc)) (hn : S.Nodup) (m : Nat) (c : Cell) (hm : cs[m]? = some c) :
    ∃ Sm v, w.cell? ⟨g, m, none⟩ = some v ∧ At w c Sm v ∧ Sm.Nodup ∧ (∀ s ∈ Sm, s ∈ S) ∧ g ∉ Sm ∧ g ∈ S ∧ ∀ (W : World) (d : Cell), (∀ s ∈ S, s ∉ Sm → W.heap[s]? = w.heap[s]?) → At W d Sm v → At W (.row T k (cs.set m d)) S (.slice (some ⟨g, 0, none⟩) n cc) := by
  unfold At at h
  obtain ⟨n', xs, S', h1, h2, rfl, h4⟩ := h
  have hown : ownL (.slice (some ⟨g, 0, none⟩) n cc) = [g] := rfl
  rw [hown] at hn ⊢
  rw [List.nodup_append] at hn
  obtain ⟨Sm, v, h5, h6, h7, h8, h9⟩ := AtL.focus cs S' xs m c h4 hn.2.1 hm
  have hg : g ∉ Sm := fun hg => hn.2.2 g (by simp) g (h8 g hg) rfl
  have hadd : (⟨g, 0, none⟩ : Addr).add m = ⟨g, m, none⟩ := by unfold Addr.add; split <;> simp_all
  have hcell : w.cell? ⟨g, m, none⟩ = some v := by rw [← hadd]; exact h2.cells (g := g) rfl m v h5
  refine ⟨Sm, v, hcell, h6, h7, fun s hs => List.mem_append_right _ (h8 s hs), hg, by simp, fun W d hf hd => ?_⟩
  unfold At
  refine ⟨n', xs, S', by simpa using h1, own_same h2 (fun s hs => hf s (List.mem_append_left _ hs) (fun hs2 => ?_)), rfl, ?_⟩
  · rw [hown] at hs
    simp at hs
    subst hs
    exact hg hs2
  · have := h9 W d v (fun s hs hs2 => hf s (List.mem_append_right _ hs) hs2) hd
    rw [set_self xs m v h5] at this
    exact this
/-- A row one of whose plain cells is stored anew. -/
theorem At.store {w : World} {T : TypeId} {k : Nat} {cs : List Cell} {S : List Nat} {g n cc : Nat} (h : At w (.row T k cs) S (.slice (some ⟨g, 0, none⟩) n cc)) (hn : S.Nodup) (m : Nat) (u0 : Value) (hm : cs[m]? = some (.p u0)) (u : Value) :
    At (w.setCell ⟨g, m, none⟩ u) (.row T k (cs.set m (.p u))) S (.slice (some ⟨g, 0, none⟩) n cc) ∧ w.cell? ⟨g, m, none⟩ = some u0 ∧ w.frozen? ⟨g, m, none⟩ = false ∧ g < w.heap.size ∧ g ∈ S := by
  unfold At at h
  obtain ⟨n', xs, S', h1, h2, rfl, h4⟩ := h
  have hown : ownL (.slice (some ⟨g, 0, none⟩) n cc) = [g] := rfl
  rw [hown] at hn ⊢
  rw [List.nodup_append] at hn
  obtain ⟨Sm, v, h5, h6, h7, h8, h9⟩ := AtL.focus cs S' xs m _ h4 hn.2.1 hm
  unfold At at h6
  obtain ⟨rfl, rfl⟩ := h6
  have hadd : (⟨g, 0, none⟩ : Addr).add m = ⟨g, m, none⟩ := by unfold Addr.add; split <;> simp_all
  have hcell : w.cell? ⟨g, m, none⟩ = some v := by rw [← hadd]; exact h2.cells (g := g) rfl m v h5
  have hlen := h4.length
  have hmx : m < xs.length := by
    by_cases hlt : m < xs.length
    · exact hlt
    · rw [List.getElem?_eq_none (by omega)] at h5; cases h5
  have hst : (w.setCell ⟨g, m, none⟩ u).ownsRow 0 T k (.slice (some ⟨g, 0, none⟩) n cc) n' (xs.set m u) ∧ w.frozen? ⟨g, m, none⟩ = false ∧ g < w.heap.size := by
    rcases h2.2 with ⟨h0, _⟩ | ⟨g', cap, cur, hv, hb, hg, hc1, hc2, hc3, hc4⟩
    · cases h0
    · injection hv with e1 e2 e3
      injection e1 with e1
      injection e1 with e1
      subst e1 e2 e3
      refine ⟨⟨by rw [List.length_set]; exact h2.1, .inr ⟨g, cc, cur.setIfInBounds m u, rfl, hb, heap_setCell_same _ _ _ _ _ _ hg, hc1, hc2, by simpa using hc3, ?_⟩⟩, by simp [World.frozen?, hg], (Array.getElem?_eq_some_iff.1 hg).1⟩
      rw [Array.toList_setIfInBounds, List.take_set, hc4]
  refine ⟨?_, hcell, hst.2.1, hst.2.2, by simp⟩
  unfold At
  refine ⟨n', xs.set m u, S', by simpa using h1, hst.1, rfl, ?_⟩
  have hgS : ∀ s ∈ S', s ≠ g := fun s hs e => hn.2.2 g (by simp) s hs e.symm
  exact h9 (w.setCell ⟨g, m, none⟩ u) (.p u) u (fun s hs _ => Below.heap_setCell _ _ _ _ (hgS s hs)) (At.plain _ u)
theorem At.block {w : World} {T : TypeId} {k : Nat} {cs : List Cell} {S : List Nat} {g n cc : Nat} (h : At w (.row T k cs) S (.slice (some ⟨g, 0, none⟩) n cc)) : ∃ cur, w.heap[g]? = some (.cells cur T (0, 0)) := by
  unfold At at h
  obtain ⟨n', xs, S', h1, h2, rfl, h4⟩ := h
  rcases h2.2 with ⟨h0, _⟩ | ⟨g', cap, cur, hv, hb, hg, _⟩
  · cases h0
  · injection hv with e1
    injection e1 with e1
    injection e1 with e1
    subst e1
    exact ⟨cur, hg⟩
/-- What is stored where it stands already makes no difference. -/
theorem setCell_self {w : World} {g m : Nat} {v : Value} {cur : Array Value} {T : TypeId} (hb : w.heap[g]? = some (.cells cur T (0, 0))) (h : w.cell? ⟨g, m, none⟩ = some v) : ∀ s : Nat, (w.setCell ⟨g, m, none⟩ v).heap[s]? = w.heap[s]? := by
  intro s
  by_cases hs : s = g
  · subst hs
    rw [heap_setCell_same _ _ _ _ _ _ hb]
    have : cur.setIfInBounds m v = cur := by
      simp [World.cell?, hb] at h
      apply Array.ext'
      rw [Array.toList_setIfInBounds]
      exact set_self _ _ _ (by simpa using h)
    rw [this, hb]
  · exact Below.heap_setCell _ _ _ _ hs
theorem flat_set {α : Type} (f : α → List Cell) (k : Nat) (hf : ∀ x, (f x).length = k) (d : Cell) (j : Nat) (hj : j < k) : ∀ (l : List α) (i : Nat) (x y : α), l[i]? = some x → f y = (f x).set j d → (l.flatMap f).set (i * k + j) d = (l.set i y).flatMap f
  | [], i, x, y, h, he => by simp at h
  | z :: l, 0, x, y, h, he => by
    simp at h; subst h
    rw [Nat.zero_mul, Nat.zero_add, List.flatMap_cons, List.set_cons_zero, List.flatMap_cons, he, List.set_append_left _ _ (by rw [hf]; exact hj)]
  | z :: l, i + 1, x, y, h, he => by
    rw [List.flatMap_cons, List.set_cons_succ, List.flatMap_cons, List.set_append_right _ _ (by rw [hf, Nat.add_mul]; omega), hf]
    rw [show (i + 1) * k + j - k = i * k + j by rw [Nat.add_mul]; omega]
    rw [flat_set f k hf d j hj l i x y (by simpa using h) he]
theorem flat_get {α : Type} (f : α → List Cell) (k : Nat) (hf : ∀ x, (f x).length = k) (l : List α) (i : Nat) (x : α) (h : l[i]? = some x) (j : Nat) (hj : j < k) : (l.flatMap f)[i * k + j]? = (f x)[j]? := by
  have := flat_elem f k hf l i x h
  rw [← this, List.getElem?_take, if_pos hj, List.getElem?_drop]
end LexT
set_option linter.unusedSimpArgs false
namespace LexT
open Go Go.RowKit
set_option linter.unusedVariables false
/-- The first so many turned. -/
def half {α : Type} (f : α → α) (l : List α) (i : Nat) : List α := (l.take i).map f ++ l.drop i
theorem half_zero {α : Type} (f : α → α) (l : List α) : half f l 0 = l := by simp [half]
theorem half_all {α : Type} (f : α → α) (l : List α) (i : Nat) (h : l.length ≤ i) : half f l i = l.map f := by
  unfold half
  rw [List.take_of_length_le h, List.drop_of_length_le h, List.append_nil]
theorem half_len {α : Type} (f : α → α) (l : List α) (i : Nat) : (half f l i).length = l.length := by
  unfold half
  simp only [List.length_append, List.length_map, List.length_take, List.length_drop]
  omega
theorem half_at {α : Type} (f : α → α) : ∀ (l : List α) (i : Nat) (x : α), l[i]? = some x → (half f l i)[i]? = some x ∧ (half f l i).set i (f x) = half f l (i + 1)
  | [], i, x, h => by simp at h
  | y :: l, 0, x, h => by simp at h; subst h; exact ⟨by simp [half], by simp [half]⟩
  | y :: l, i + 1, x, h => by
    obtain ⟨h1, h2⟩ := half_at f l i x (by simpa using h)
    unfold half at *
    refine ⟨by simpa using h1, ?_⟩
    simp only [List.take_succ_cons, List.map_cons, List.drop_succ_cons, List.cons_append, List.set_cons_succ] at h2 ⊢
    rw [h2]
end LexT
namespace Go.Proofs.Ytbgkigdlbiknnaa
open Go.Instr Go.RowKit LexT
set_option linter.unusedVariables false
/-- A word of a row, whose own words have been made bare, stored back. -/
theorem word_put {w : World} {g n cc i : Nat} {ws ys : List Wd} {nm : Bs} {q : Nat} {S : List Nat} (h : At w (.row 44 3 (ws.flatMap (wdC 44))) S (.slice (some ⟨g, 0, none⟩) n cc)) (hn : S.Nodup) (hx : ws[i]? = some (.mk nm ys q)) :
    ∃ (Sm : List Nat) (ao : Option Addr) (m c : Nat), w.cell? ⟨g, i * 3, none⟩ = some (.string (mkS nm)) ∧ w.cell? ⟨g, i * 3 + 1, none⟩ = some (.slice ao m c) ∧ w.cell? ⟨g, i * 3 + 2, none⟩ = some (.int .i64 (q : Int)) ∧ At w (.row 44 3 (ys.flatMap (wdC 44))) Sm (.slice ao m c) ∧ Sm.Nodup ∧ (∀ s ∈ Sm, s ∈ S) ∧ g ∉ Sm ∧ g ∈ S ∧ g < w.heap.size ∧
      ∀ w1 : World, At w1 (.row 44 3 ((bareWs ys).flatMap (wdC 44))) Sm (.slice ao m c) → (∀ s, s < w.heap.size → s ∉ Sm → w1.heap[s]? = w.heap[s]?) →
        (w1.cell? ⟨g, i * 3, none⟩ = some (.string (mkS nm)) ∧ w1.cell? ⟨g, i * 3 + 1, none⟩ = some (.slice ao m c) ∧ w1.cell? ⟨g, i * 3 + 2, none⟩ = some (.int .i64 (q : Int)) ∧ w1.frozen? ⟨g, i * 3, none⟩ = false ∧ w1.frozen? ⟨g, i * 3 + 1, none⟩ = false ∧ w1.frozen? ⟨g, i * 3 + 2, none⟩ = false) ∧
        At (((w1.setCell ⟨g, i * 3, none⟩ (.string (mkS nm))).setCell ⟨g, i * 3 + 1, none⟩ (.slice ao m c)).setCell ⟨g, i * 3 + 2, none⟩ (.int .i64 0)) (.row 44 3 ((ws.set i (bareW (.mk nm ys q))).flatMap (wdC 44))) S (.slice (some ⟨g, 0, none⟩) n cc) ∧
        (∀ s : Nat, s ≠ g → (((w1.setCell ⟨g, i * 3, none⟩ (.string (mkS nm))).setCell ⟨g, i * 3 + 1, none⟩ (.slice ao m c)).setCell ⟨g, i * 3 + 2, none⟩ (.int .i64 0)).heap[s]? = w1.heap[s]?) := by
  have hfl : ∀ x : Wd, (wdC 44 x).length = 3 := fun x => wdC_length _ x
  have hm0 := flat_get (wdC 44) 3 hfl ws i _ hx 0 (by omega)
  have hm1 := flat_get (wdC 44) 3 hfl ws i _ hx 1 (by omega)
  have hm2 := flat_get (wdC 44) 3 hfl ws i _ hx 2 (by omega)
  rw [wdC] at hm0 hm1 hm2
  simp only [List.getElem?_cons_zero, List.getElem?_cons_succ, Nat.add_zero] at hm0 hm1 hm2
  obtain ⟨S0, v0, e0, a0, -⟩ := h.inner hn _ _ hm0
  obtain ⟨Sm, v1, e1, a1, n1, s1, g1, g2, k1⟩ := h.inner hn _ _ hm1
  obtain ⟨S2, v2, e2, a2, -⟩ := h.inner hn _ _ hm2
  obtain rfl := At.unplain a0
  obtain rfl := At.unplain a2
  obtain ⟨ao, m, c, rfl⟩ := a1.slice
  rw [wdsC_flat] at a1
  have hlt : g < w.heap.size := At.lt _ _ _ h g g2
  obtain ⟨cur, hcur⟩ := h.block
  refine ⟨Sm, ao, m, c, e0, e1, e2, a1, n1, s1, g1, g2, hlt, fun w1 hat hfr => ?_⟩
  have hbg := hfr g hlt g1
  have hc : ∀ j v, w.cell? ⟨g, j, none⟩ = some v → w1.cell? ⟨g, j, none⟩ = some v := fun j v hv => (World.cell?_of_block (a := ⟨g, j, none⟩) hbg).trans hv
  have hz : ∀ j, w1.frozen? ⟨g, j, none⟩ = false := fun j => by simp [World.frozen?, hbg, hcur]
  refine ⟨⟨hc _ _ e0, hc _ _ e1, hc _ _ e2, hz _, hz _, hz _⟩, ?_, ?_⟩
  · have h1 : At w1 (.row 44 3 ((ws.flatMap (wdC 44)).set (i * 3 + 1) (.row 44 3 (wdsC 44 (bareWs ys))))) S (.slice (some ⟨g, 0, none⟩) n cc) := k1 w1 _ (fun s hs hs2 => hfr s (At.lt _ _ _ h s hs) hs2) (by rw [wdsC_flat]; exact hat)
    rw [flat_set (wdC 44) 3 hfl _ 1 (by omega) ws i _ (.mk nm (bareWs ys) q) hx (by rw [wdC, wdC]; rfl)] at h1
    have hx2 : (ws.set i (.mk nm (bareWs ys) q))[i]? = some (.mk nm (bareWs ys) q) := by
      have : i < ws.length := by
        by_cases hlt : i < ws.length
        · exact hlt
        · rw [List.getElem?_eq_none (by omega)] at hx; cases hx
      simp [this]
    have hm2' := flat_get (wdC 44) 3 hfl _ i _ hx2 2 (by omega)
    rw [wdC] at hm2'
    simp only [List.getElem?_cons_zero, List.getElem?_cons_succ] at hm2'
    have hb1 : w1.heap[g]? = some (.cells cur 44 (0, 0)) := hbg.trans hcur
    have f1 := setCell_self hb1 (hc _ _ e0)
    have hb2 : (w1.setCell ⟨g, i * 3, none⟩ (.string (mkS nm))).heap[g]? = some (.cells cur 44 (0, 0)) := (f1 g).trans hb1
    have hc2 : (w1.setCell ⟨g, i * 3, none⟩ (.string (mkS nm))).cell? ⟨g, i * 3 + 1, none⟩ = some (.slice ao m c) := (World.cell?_of_block (a := ⟨g, i * 3 + 1, none⟩) (f1 g)).trans (hc _ _ e1)
    have f2 := setCell_self hb2 hc2
    have h2 := h1.same (w' := ((w1.setCell ⟨g, i * 3, none⟩ (.string (mkS nm))).setCell ⟨g, i * 3 + 1, none⟩ (.slice ao m c))) _ _ _ (fun s _ => (f2 s).trans (f1 s))
    have h3 := (h2.store hn _ _ hm2' (.int .i64 0)).1
    rw [flat_set (wdC 44) 3 hfl _ 2 (by omega) _ i _ (bareW (.mk nm ys q)) hx2 (by rw [bareW, wdC, wdC]; rfl), List.set_set] at h3
    exact h3
  · intro s hs
    rw [Below.heap_setCell _ _ _ _ hs, Below.heap_setCell _ _ _ _ hs, Below.heap_setCell _ _ _ _ hs]
/-- What bare leaves. -/
def BareP (b0 : Nat) (nm : Bs) (ys : List Wd) (S : List Nat) (ao : Option Addr) (m c : Nat) (w : World) (e : Ending) (w' : World) : Prop :=
  e = .returned (.agg #[.string (mkS nm), .slice ao m c, .int .i64 0]) ∧ At w' (.row 44 3 ((bareWs ys).flatMap (wdC 44))) S (.slice ao m c) ∧ Below b0 w w' ∧ ∀ s, s < w.heap.size → s ∉ S → w'.heap[s]? = w.heap[s]?
set_option maxHeartbeats 4000000 in
theorem bare_step (nm : Bs) (ws : List Wd) (q b0 : Nat) (hrec : ∀ nm ys q, Wd.mk nm ys q ∈ ws → ∀ (S : List Nat) (ao : Option Addr) (m c : Nat) (w : World), At w (.row 44 3 (ys.flatMap (wdC 44))) S (.slice ao m c) → S.Nodup → (∀ s ∈ S, b0 ≤ s) → b0 ≤ w.heap.size → Calls Try.prog 19 #[.agg #[.string (mkS nm), .slice ao m c, .int .i64 (q : Int)]] w (BareP b0 nm ys S ao m c w))
    (S : List Nat) (ao : Option Addr) (n c : Nat) (w : World) (hat : At w (.row 44 3 (ws.flatMap (wdC 44))) S (.slice ao n c)) (hnd : S.Nodup) (hS : ∀ s ∈ S, b0 ≤ s) (hb0 : b0 ≤ w.heap.size) : Calls Try.prog 19 #[.agg #[.string (mkS nm), .slice ao n c, .int .i64 (q : Int)]] w (BareP b0 nm ws S ao n c w) := by
  have hfl : ∀ x : Wd, (wdC 44 x).length = 3 := fun x => wdC_length _ x
  have hn : ws.length = n := by have := hat.count; rw [flat_length (wdC 44) 3 hfl] at this; omega
  subst hn
  have hsm := hat.small
  unfold maxLen at hsm
  obtain ⟨⟨e0, e1⟩, hb2, hs2⟩ := alloc2 w (.cells #[.string (mkS nm), .slice ao ws.length c, .int .i64 (q : Int)] 44) (.cells #[.string ⟨#[]⟩, .slice none 0 0, .int .i64 0] 44)
  obtain ⟨V0, hV0⟩ : ∃ V, V = (w.alloc (.cells #[.string (mkS nm), .slice ao ws.length c, .int .i64 (q : Int)] 44)).alloc (.cells #[.string ⟨#[]⟩, .slice none 0 0, .int .i64 0] 44) := ⟨_, rfl⟩
  rw [← hV0] at e0 e1 hb2 hs2
  obtain ⟨⟨g0, g1, g2⟩, ⟨z0, z1, z2⟩⟩ := three_facts e0
  obtain ⟨W0, hW0⟩ : ∃ V, V = V0.setCell ⟨w.heap.size, 2, none⟩ (.int .i64 0) := ⟨_, rfl⟩
  have H0 : Hid (W0.heap[w.heap.size]? = some (.cells #[.string (mkS nm), .slice ao ws.length c, .int .i64 0] 44 (0, 0)) ∧ W0.heap[w.heap.size + 1]? = some (.cells #[.string ⟨#[]⟩, .slice none 0 0, .int .i64 0] 44 (0, 0)) ∧ W0.heap.size = w.heap.size + 2 ∧ Below w.heap.size w W0) := by
    refine ⟨?_, ?_, ?_, ?_⟩
    · rw [hW0, heap_setCell_same _ _ 2 _ _ _ e0]; rfl
    · rw [hW0, Below.heap_setCell _ _ _ _ (by show w.heap.size + 1 ≠ w.heap.size; omega)]; exact e1
    · rw [hW0]; simp [World.setCell, hs2]
    · rw [hW0]; exact hb2.setCell (p := ⟨w.heap.size, 2, none⟩) (Nat.le_refl _) _
  have HV0 := Lib.hid hV0
  have HW0 := Lib.hid hW0
  have HA := Lib.hid (And.intro hat (And.intro hnd (And.intro hS hb0)))
  have HR := Lib.hid hrec
  have HL := Lib.hid (And.intro hsm hs2)
  clear e0 e1 hb2 hs2 hV0 hW0 hat hnd hS hb0 hrec hsm
  go_enter Try.func19, Try.ntmps19
  go_upto_region 1 with fail
  rw [← HV0.out]
  go_upto_region 2 with fail
  rw [← HW0.out]
  clear g0 g1 g2 z0 z1 z2
  obtain ⟨⟨g0, g1, g2⟩, _⟩ := three_facts H0.out.1
  go_wp2_with fail
  go_loopg [3] ws.length (fun g v wr => ∃ i : Nat, i ≤ ws.length ∧ g = ws.length - i ∧ v = .int .i64 i ∧ At wr (.row 44 3 ((half bareW ws i).flatMap (wdC 44))) S (.slice ao ws.length c) ∧ Below b0 W0 wr ∧ (∀ s, s < W0.heap.size → s ∉ S → wr.heap[s]? = W0.heap[s]?))
  case atStart => exact ⟨0, by omega, rfl, rfl, by rw [half_zero]; exact HA.out.1.same _ _ _ (fun s hs => H0.out.2.2.2.block s (At.lt _ _ _ HA.out.1 s hs)), Below.refl _ _, fun s _ _ => rfl⟩
  case round =>
    obtain ⟨i, hi, hgi, rfl, hat, hbl, hfr⟩ := hrel
    have HB := Lib.hid hbl
    have HG := Lib.hid hgi
    have HO := Lib.hid (And.intro hat hfr)
    have HNS : Hid (∀ j, w.heap.size ≤ j → j ∉ S) := fun j hj hs => by have := At.lt _ _ _ HA.out.1 j hs; omega
    obtain ⟨⟨k0, k1, k2⟩, _⟩ := three_facts ((hfr w.heap.size (by have := H0.out.2.2.1; omega) (HNS.out _ (Nat.le_refl _))).trans H0.out.1)
    clear hbl hgi hat hfr g0 g1 g2
    by_cases hlt : i < ws.length
    · obtain ⟨x, hx⟩ : ∃ x, ws[i]? = some x := ⟨_, List.getElem?_eq_getElem hlt⟩
      have hmem : x ∈ ws := List.mem_of_getElem? hx
      obtain ⟨hh1, hh2⟩ := half_at bareW ws i x hx
      obtain ⟨ga, hga⟩ : ∃ ga, ao = some ⟨ga, 0, none⟩ := by
        obtain ⟨ga, va, Sb, hao, _⟩ := HA.out.1.elem i hlt
        exact ⟨ga, hao⟩
      subst hga
      obtain ⟨xn, xs, xq⟩ := x
      obtain ⟨Sm, ao1, m1, c1, ka0, ka1, ka2, hsub, hnd1, hin1, hg1, hg2, hg3, hput⟩ := word_put HO.out.1 HA.out.2.1 hh1
      have HE : Hid (Calls Try.prog 19 #[.agg #[.string (mkS xn), .slice ao1 m1 c1, .int .i64 (xq : Int)]] wr.drew (BareP b0 xn xs Sm ao1 m1 c1 wr.drew)) := HR.out xn xs xq hmem Sm ao1 m1 c1 wr.drew (hsub.same _ _ _ (fun s _ => rfl)) hnd1 (fun s hs => HA.out.2.2.1 s (hin1 s hs)) (by have := HB.out.size; have := H0.out.2.2.1; have := HA.out.2.2.2; show b0 ≤ wr.heap.size; omega)
      have HP := Lib.hid hput
      have HS2 := Lib.hid (And.intro hin1 (And.intro hg1 (And.intro hg2 (And.intro hg3 hh2))))
      have i1 : (i : Int) < (ws.length : Int) := by omega
      have i0 : (0 : Int) ≤ (i : Int) := by omega
      clear hput hin1 hg1 hg2 hg3 hsub hnd1 hx hmem hh1 hh2
      go_wp2_with fail
      go_region_law (
        (go_simp
         go_at_call 19
         refine HE.out.mono ?_
         rintro e w1 ⟨rfl, hat1, hb1, hf1⟩
         have hf1' : ∀ s, s < wr.heap.size → s ∉ Sm → w1.heap[s]? = wr.heap[s]? := hf1
         obtain ⟨⟨d0, d1, d2, y0, y1, y2⟩, hat2, hf2⟩ := HP.out w1 hat1 hf1'
         have HQ := Lib.hid (And.intro hat2 (And.intro hf2 (And.intro hf1' hb1)))
         have hbx : w1.heap[w.heap.size]? = wr.heap[w.heap.size]? := hf1' _ (by have := HB.out.size; have := H0.out.2.2.1; omega) (fun hs => HNS.out _ (Nat.le_refl _) (HS2.out.1 _ hs))
         have q1 : w1.cell? ⟨w.heap.size, 1, none⟩ = some (.slice (some ⟨ga, 0, none⟩) ws.length c) := (World.cell?_of_block (a := ⟨w.heap.size, 1, none⟩) hbx).trans k1
         clear hat1 hb1 hf1 hf1' hat2 hf2 hbx))
      all_goals
        go_wp2_with fail
        go_roundg (ws.length - (i + 1))
        case rel =>
          obtain ⟨hin1, hg1, hg2, hg3, hh2⟩ := HS2.out
          obtain ⟨hat2, hf2, hf1, hb1⟩ := HQ.out
          have hsml : (ws.length : Int) ≤ 9223372036854775807 := by have := HL.out.1; omega
          refine ⟨i + 1, by omega, rfl, by refine congrArg _ ?_; unfold wrap64; omega, ?_, ?_, ?_⟩
          · rw [← hh2]; exact hat2
          · have hga := HA.out.2.2.1 _ hg2
            exact (((HB.out.trans ((Below.refl b0 wr).drew.trans hb1)).setCell (p := ⟨ga, i * 3, none⟩) hga _).setCell (p := ⟨ga, i * 3 + 1, none⟩) hga _).setCell (p := ⟨ga, i * 3 + 2, none⟩) hga _
          · intro s hs hs2
            refine (hf2 s (fun e => hs2 (by rw [e]; exact hg2))).trans ((hf1 s (by have := HB.out.size; omega) (fun h => hs2 (hin1 s h))).trans (HO.out.2 s hs hs2))
        case measure => rw [HG.out]; omega
    · have i1 : ¬ (i : Int) < (ws.length : Int) := by omega
      have hie : i = ws.length := by omega
      have E1 := (HO.out.2 (w.heap.size + 1) (by have := H0.out.2.2.1; omega) (HNS.out _ (by omega))).trans H0.out.2.1
      obtain ⟨⟨q0, q1, q2⟩, ⟨u0, u1, u2⟩⟩ := three_facts E1
      have HE1 := Lib.hid E1
      clear E1
      go_wp2_with fail
      refine bodyPost_ret (v := .agg #[.string (mkS nm), .slice ao ws.length c, .int .i64 0]) (by simp [results, Try.results19, go_sem, q0, q1, q2]) rfl ?_
      have hlow := three_low b0 wr (w.heap.size + 1) (.string (mkS nm)) (.slice ao ws.length c) (.int .i64 0) (by have := HA.out.2.2.2; omega)
      refine ⟨rfl, ?_, ?_, ?_⟩
      · have h1 := HO.out.1
        rw [half_all _ _ _ (by omega)] at h1
        rw [bareWs_map]
        exact h1.same _ _ _ (fun g hg => three_same _ _ _ _ _ _ (by have := At.lt _ _ _ HA.out.1 g hg; omega))
      · exact ((H0.out.2.2.2.mono HA.out.2.2.2).trans (HB.out.mono (Nat.le_refl _))).trans hlow
      · intro s hs hs2
        refine (three_same _ _ _ _ _ _ (by omega)).trans ((HO.out.2 s (by have := H0.out.2.2.1; omega) hs2).trans (H0.out.2.2.2.block s hs))
theorem bare_of (b0 : Nat) : (nm : Bs) → (ws : List Wd) → (q : Nat) → (S : List Nat) → (ao : Option Addr) → (n c : Nat) → (w : World) → At w (.row 44 3 (ws.flatMap (wdC 44))) S (.slice ao n c) → S.Nodup → (∀ s ∈ S, b0 ≤ s) → b0 ≤ w.heap.size → Calls Try.prog 19 #[.agg #[.string (mkS nm), .slice ao n c, .int .i64 (q : Int)]] w (BareP b0 nm ws S ao n c w)
  | nm, ws, q, S, ao, n, c, w, hat, hnd, hS, hb => by
    refine bare_step nm ws q b0 (fun nm' ys q' hy S ao m c w h1 h2 h3 h4 => bare_of b0 nm' ys q' S ao m c w h1 h2 h3 h4) S ao n c w hat hnd hS hb
  termination_by nm ws => SizeOf.sizeOf ws
  decreasing_by
    have := List.sizeOf_lt_of_mem hy
    simp at this
    omega
end Go.Proofs.Ytbgkigdlbiknnaa
set_option linter.unusedSimpArgs false
namespace Go.Proofs.Ytbgkigdlbiknnaa
open Go.Instr Go.RowKit LexT
set_option linter.unusedVariables false
theorem decl_put {w : World} {g n cc i : Nat} {ds : List De} {d : De} {S : List Nat} (h : At w (.row 35 4 (ds.flatMap declC)) S (.slice (some ⟨g, 0, none⟩) n cc)) (hn : S.Nodup) (hx : ds[i]? = some d) :
    At (w.setCell ⟨g, i * 4 + 3, none⟩ (.int .i64 0)) (.row 35 4 ((ds.set i (plD d)).flatMap declC)) S (.slice (some ⟨g, 0, none⟩) n cc) ∧ w.cell? ⟨g, i * 4 + 3, none⟩ = some (.int .i64 (d.at_ : Int)) ∧ w.frozen? ⟨g, i * 4 + 3, none⟩ = false ∧ g < w.heap.size ∧ g ∈ S := by
  have hfl : ∀ x : De, (declC x).length = 4 := fun x => rfl
  have hm := flat_get declC 4 hfl ds i _ hx 3 (by omega)
  obtain ⟨h1, h2⟩ := h.store hn _ _ hm (.int .i64 0)
  rw [flat_set declC 4 hfl (.p (.int .i64 0)) 3 (by omega) ds i _ (plD d) hx rfl] at h1
  exact ⟨h1, h2⟩
theorem rule_put {w : World} {g n cc i : Nat} {rs : List Ru} {r : Ru} {S : List Nat} (h : At w (.row 38 4 (rs.flatMap ruleC)) S (.slice (some ⟨g, 0, none⟩) n cc)) (hn : S.Nodup) (hx : rs[i]? = some r) :
    At (w.setCell ⟨g, i * 4 + 3, none⟩ (.int .i64 0)) (.row 38 4 ((rs.set i ⟨r.name, r.params, r.alts, 0⟩).flatMap ruleC)) S (.slice (some ⟨g, 0, none⟩) n cc) ∧ w.cell? ⟨g, i * 4 + 3, none⟩ = some (.int .i64 (r.at_ : Int)) ∧ w.frozen? ⟨g, i * 4 + 3, none⟩ = false ∧ g < w.heap.size ∧ g ∈ S := by
  have hfl : ∀ x : Ru, (ruleC x).length = 4 := fun x => rfl
  have hm := flat_get ruleC 4 hfl rs i _ hx 3 (by omega)
  obtain ⟨h1, h2⟩ := h.store hn _ _ hm (.int .i64 0)
  rw [flat_set ruleC 4 hfl (.p (.int .i64 0)) 3 (by omega) rs i _ ⟨r.name, r.params, r.alts, 0⟩ hx rfl] at h1
  exact ⟨h1, h2⟩
theorem rule_zoom {w : World} {g n cc i : Nat} {rs : List Ru} {r : Ru} {S : List Nat} (h : At w (.row 38 4 (rs.flatMap ruleC)) S (.slice (some ⟨g, 0, none⟩) n cc)) (hn : S.Nodup) (hx : rs[i]? = some r) :
    ∃ (Sa : List Nat) (ao : Option Addr) (m c : Nat), w.cell? ⟨g, i * 4 + 2, none⟩ = some (.slice ao m c) ∧ At w (.row 41 6 (r.alts.flatMap altC)) Sa (.slice ao m c) ∧ Sa.Nodup ∧ (∀ s ∈ Sa, s ∈ S) ∧ g ∉ Sa ∧ g ∈ S ∧
      ∀ (W : World) (az : List Al), (∀ s ∈ S, s ∉ Sa → W.heap[s]? = w.heap[s]?) → At W (.row 41 6 (az.flatMap altC)) Sa (.slice ao m c) → At W (.row 38 4 ((rs.set i ⟨r.name, r.params, az, r.at_⟩).flatMap ruleC)) S (.slice (some ⟨g, 0, none⟩) n cc) := by
  have hfl : ∀ x : Ru, (ruleC x).length = 4 := fun x => rfl
  have hm := flat_get ruleC 4 hfl rs i _ hx 2 (by omega)
  obtain ⟨Sa, v, e1, a1, n1, s1, g1, g2, k1⟩ := h.inner hn _ _ hm
  obtain ⟨ao, m, c, rfl⟩ := a1.slice
  refine ⟨Sa, ao, m, c, e1, a1, n1, s1, g1, g2, fun W az hf hd => ?_⟩
  have := k1 W _ hf hd
  rw [flat_set ruleC 4 hfl (.row 41 6 (az.flatMap altC)) 2 (by omega) rs i _ ⟨r.name, r.params, az, r.at_⟩ hx rfl] at this
  exact this
theorem alt_put5 {w : World} {g n cc i : Nat} {az : List Al} {a : Al} {S : List Nat} (h : At w (.row 41 6 (az.flatMap altC)) S (.slice (some ⟨g, 0, none⟩) n cc)) (hn : S.Nodup) (hx : az[i]? = some a) :
    At (w.setCell ⟨g, i * 6 + 5, none⟩ (.int .i64 0)) (.row 41 6 ((az.set i ⟨a.words, a.prec, a.has, a.action, a.where_, 0⟩).flatMap altC)) S (.slice (some ⟨g, 0, none⟩) n cc) ∧ w.cell? ⟨g, i * 6 + 5, none⟩ = some (.int .i64 (a.at_ : Int)) ∧ w.frozen? ⟨g, i * 6 + 5, none⟩ = false ∧ g < w.heap.size ∧ g ∈ S := by
  have hfl : ∀ x : Al, (altC x).length = 6 := fun x => rfl
  have hm := flat_get altC 6 hfl az i _ hx 5 (by omega)
  obtain ⟨h1, h2⟩ := h.store hn _ _ hm (.int .i64 0)
  rw [flat_set altC 6 hfl (.p (.int .i64 0)) 5 (by omega) az i _ ⟨a.words, a.prec, a.has, a.action, a.where_, 0⟩ hx rfl] at h1
  exact ⟨h1, h2⟩
theorem alt_put4 {w : World} {g n cc i : Nat} {az : List Al} {a : Al} {S : List Nat} (h : At w (.row 41 6 (az.flatMap altC)) S (.slice (some ⟨g, 0, none⟩) n cc)) (hn : S.Nodup) (hx : az[i]? = some a) :
    At (w.setCell ⟨g, i * 6 + 4, none⟩ (.int .i64 0)) (.row 41 6 ((az.set i ⟨a.words, a.prec, a.has, a.action, 0, a.at_⟩).flatMap altC)) S (.slice (some ⟨g, 0, none⟩) n cc) ∧ w.cell? ⟨g, i * 6 + 4, none⟩ = some (.int .i64 (IntKind.i64.wrap (a.where_ : Int))) ∧ w.frozen? ⟨g, i * 6 + 4, none⟩ = false ∧ g < w.heap.size ∧ g ∈ S := by
  have hfl : ∀ x : Al, (altC x).length = 6 := fun x => rfl
  have hm := flat_get altC 6 hfl az i _ hx 4 (by omega)
  obtain ⟨h1, h2⟩ := h.store hn _ _ hm (.int .i64 0)
  rw [flat_set altC 6 hfl (.p (.int .i64 0)) 4 (by omega) az i _ ⟨a.words, a.prec, a.has, a.action, 0, a.at_⟩ hx rfl] at h1
  exact ⟨h1, h2⟩
theorem alt_zoom {w : World} {g n cc i : Nat} {az : List Al} {a : Al} {S : List Nat} (h : At w (.row 41 6 (az.flatMap altC)) S (.slice (some ⟨g, 0, none⟩) n cc)) (hn : S.Nodup) (hx : az[i]? = some a) :
    ∃ (Sa : List Nat) (ao : Option Addr) (m c : Nat), w.cell? ⟨g, i * 6, none⟩ = some (.slice ao m c) ∧ At w (.row 44 3 (a.words.flatMap (wdC 44))) Sa (.slice ao m c) ∧ Sa.Nodup ∧ (∀ s ∈ Sa, s ∈ S) ∧ g ∉ Sa ∧ g ∈ S ∧
      ∀ (W : World) (ws : List Wd), (∀ s ∈ S, s ∉ Sa → W.heap[s]? = w.heap[s]?) → At W (.row 44 3 (ws.flatMap (wdC 44))) Sa (.slice ao m c) → At W (.row 41 6 ((az.set i ⟨ws, a.prec, a.has, a.action, a.where_, a.at_⟩).flatMap altC)) S (.slice (some ⟨g, 0, none⟩) n cc) := by
  have hfl : ∀ x : Al, (altC x).length = 6 := fun x => rfl
  have hm := flat_get altC 6 hfl az i _ hx 0 (by omega)
  obtain ⟨Sa, v, e1, a1, n1, s1, g1, g2, k1⟩ := h.inner hn _ _ hm
  obtain ⟨ao, m, c, rfl⟩ := a1.slice
  rw [wdsC_flat] at a1
  refine ⟨Sa, ao, m, c, e1, a1, n1, s1, g1, g2, fun W ws hf hd => ?_⟩
  have := k1 W (.row 44 3 (wdsC 44 ws)) hf (by rw [wdsC_flat]; exact hd)
  rw [flat_set altC 6 hfl (.row 44 3 (wdsC 44 ws)) 0 (by omega) az i _ ⟨ws, a.prec, a.has, a.action, a.where_, a.at_⟩ hx rfl] at this
  exact this
theorem text_open {w : World} {x : Tx} {S : List Nat} {v : List Value} (h : AtL w (textC x) S v) : ∃ (Sd Sr : List Nat) (ao : Option Addr) (n c : Nat) (bo : Option Addr) (m d : Nat), S = Sd ++ Sr ∧ v = [.slice ao n c, .slice bo m d] ∧ At w (.row 35 4 (x.decls.flatMap declC)) Sd (.slice ao n c) ∧ At w (.row 38 4 (x.rules.flatMap ruleC)) Sr (.slice bo m d) := by
  unfold textC at h
  obtain ⟨Sd, S2, x1, xs1, rfl, rfl, h1, h2⟩ := h.uncons
  obtain ⟨Sr, S3, x2, xs2, rfl, rfl, h3, h4⟩ := h2.uncons
  obtain rfl := h4.unnil
  have h5 : S3 = [] := by unfold AtL at h4; exact h4.1
  subst h5
  obtain ⟨ao, n, c, rfl⟩ := h1.slice
  obtain ⟨bo, m, d, rfl⟩ := h3.slice
  exact ⟨Sd, Sr, ao, n, c, bo, m, d, by simp, rfl, h1, h3⟩
theorem text_close {w : World} {x : Tx} {Sd Sr : List Nat} {v1 v2 : Value} (h1 : At w (.row 35 4 (x.decls.flatMap declC)) Sd v1) (h2 : At w (.row 38 4 (x.rules.flatMap ruleC)) Sr v2) : AtL w (textC x) (Sd ++ Sr) [v1, v2] := by
  have := AtL.cons h1 (AtL.cons h2 (AtL.nil w))
  rw [List.append_nil] at this
  exact this
end Go.Proofs.Ytbgkigdlbiknnaa
