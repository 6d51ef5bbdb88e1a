/- Parts of rows, changed in place. -/
/- A text without places: the law's copy. -/
import Derived.Test.YtngimijiafnheaaGreatRdY
import Derived.Test.YtngimijiafnheaaGreatMtA
import Derived.Test.YtngimijiafnheaaGreatRdZa
import Derived.Deep.RegionLaw
set_option maxRecDepth 100000
/- Words made bare, in place. -/
/- A text's parts, in place. -/
set_option linter.unusedSimpArgs false
namespace LexT
open Go Go.RowKit
set_option linter.unusedVariables false
/-- One cell among others: it may be turned in place, if the others' blocks stay. -/
theorem AtL.focus {w : World} : ∀ (cs : List Cell) (S : List Nat) (xs : List Value) (m : Nat) (c : Cell), AtL w cs S xs → S.Nodup → cs[m]? = some c →
    ∃ Sm v, xs[m]? = some v ∧ At w c Sm v ∧ Sm.Nodup ∧ (∀ s ∈ Sm, s ∈ S) ∧ ∀ (W : World) (d : Cell) (v' : Value), (∀ s ∈ S, s ∉ Sm → W.heap[s]? = w.heap[s]?) → At W d Sm v' → AtL W (cs.set m d) S (xs.set m v')
  | [], S, xs, m, c, h, hn, hm => by simp at hm
  | c0 :: cs, S, xs, 0, c, h, hn, hm => by
    obtain ⟨S1, S2, x, xs', rfl, rfl, h1, h2⟩ := AtL.uncons h
    simp at hm
    subst hm
    rw [List.nodup_append] at hn
    refine ⟨S1, x, rfl, h1, hn.1, fun s hs => List.mem_append_left _ hs, fun W d v' hf hd => ?_⟩
    show AtL W (d :: cs) (S1 ++ S2) (v' :: xs')
    exact AtL.cons hd (h2.same _ _ _ (fun g hg => hf g (List.mem_append_right _ hg) (fun hg1 => hn.2.2 g hg1 g hg rfl)))
  | c0 :: cs, S, xs, m + 1, c, h, hn, hm => by
    obtain ⟨S1, S2, x, xs', rfl, rfl, h1, h2⟩ := AtL.uncons h
    rw [List.nodup_append] at hn
    obtain ⟨Sm, v, h3, h4, h5, h6, h7⟩ := AtL.focus cs S2 xs' m c h2 hn.2.1 (by simpa using hm)
    refine ⟨Sm, v, by simpa using h3, h4, h5, fun s hs => List.mem_append_right _ (h6 s hs), fun W d v' hf hd => ?_⟩
    show AtL W (c0 :: cs.set m d) (S1 ++ S2) (x :: xs'.set m v')
    exact AtL.cons (h1.same _ _ _ (fun g hg => hf g (List.mem_append_left _ hg) (fun hg1 => hn.2.2 g hg g (h6 g hg1) rfl))) (h7 W d v' (fun s hs hs2 => hf s (List.mem_append_right _ hs) hs2) hd)
theorem set_self {α : Type} : ∀ (l : List α) (m : Nat) (v : α), l[m]? = some v → l.set m v = l
  | [], m, v, h => by simp at h
  | x :: l, 0, v, h => by simp at h; simp [h]
  | x :: l, m + 1, v, h => by simp at h; simp [set_self l m v h]
/-- A row one of whose cells holds a row, which is turned in place. -/
theorem At.inner {w : World} {T : TypeId} {k : Nat} {cs : List Cell} {S : List Nat} {g n cc : Nat} (h : At w (.row T k cs) S (.slice (some ⟨g, 0, none⟩) n cc)) (hn : S.Nodup) (m : Nat) (c : Cell) (hm : cs[m]? = some c) :
    ∃ Sm v, w.cell? ⟨g, m, none⟩ = some v ∧ At w c Sm v ∧ Sm.Nodup ∧ (∀ s ∈ Sm, s ∈ S) ∧ g ∉ Sm ∧ g ∈ S ∧ ∀ (W : World) (d : Cell), (∀ s ∈ S, s ∉ Sm → W.heap[s]? = w.heap[s]?) → At W d Sm v → At W (.row T k (cs.set m d)) S (.slice (some ⟨g, 0, none⟩) n cc) := by
  unfold At at h
  obtain ⟨n', xs, S', h1, h2, rfl, h4⟩ := h
  have hown : ownL (.slice (some ⟨g, 0, none⟩) n cc) = [g] := rfl
  rw [hown] at hn ⊢
  rw [List.nodup_append] at hn
  obtain ⟨Sm, v, h5, h6, h7, h8, h9⟩ := AtL.focus cs S' xs m c h4 hn.2.1 hm
  have hg : g ∉ Sm := fun hg => hn.2.2 g (by simp) g (h8 g hg) rfl
  have hadd : (⟨g, 0, none⟩ : Addr).add m = ⟨g, m, none⟩ := by unfold Addr.add; split <;> simp_all
  have hcell : w.cell? ⟨g, m, none⟩ = some v := by rw [← hadd]; exact h2.cells (g := g) rfl m v h5
  refine ⟨Sm, v, hcell, h6, h7, fun s hs => List.mem_append_right _ (h8 s hs), hg, by simp, fun W d hf hd => ?_⟩
  unfold At
  refine ⟨n', xs, S', by simpa using h1, own_same h2 (fun s hs => hf s (List.mem_append_left _ hs) (fun hs2 => ?_)), rfl, ?_⟩
  · rw [hown] at hs
    simp at hs
    subst hs
    exact hg hs2
  · have := h9 W d v (fun s hs hs2 => hf s (List.mem_append_right _ hs) hs2) hd
    rw [set_self xs m v h5] at this
    exact this
/-- A row one of whose plain cells is stored anew. -/
theorem At.store {w : World} {T : TypeId} {k : Nat} {cs : List Cell} {S : List Nat} {g n cc : Nat} (h : At w (.row T k cs) S (.slice (some ⟨g, 0, none⟩) n cc)) (hn : S.Nodup) (m : Nat) (u0 : Value) (hm : cs[m]? = some (.p u0)) (u : Value) :
    At (w.setCell ⟨g, m, none⟩ u) (.row T k (cs.set m (.p u))) S (.slice (some ⟨g, 0, none⟩) n cc) ∧ w.cell? ⟨g, m, none⟩ = some u0 ∧ w.frozen? ⟨g, m, none⟩ = false ∧ g < w.heap.size ∧ g ∈ S := by
  unfold At at h
  obtain ⟨n', xs, S', h1, h2, rfl, h4⟩ := h
  have hown : ownL (.slice (some ⟨g, 0, none⟩) n cc) = [g] := rfl
  rw [hown] at hn ⊢
  rw [List.nodup_append] at hn
  obtain ⟨Sm, v, h5, h6, h7, h8, h9⟩ := AtL.focus cs S' xs m _ h4 hn.2.1 hm
  unfold At at h6
  obtain ⟨rfl, rfl⟩ := h6
  have hadd : (⟨g, 0, none⟩ : Addr).add m = ⟨g, m, none⟩ := by unfold Addr.add; split <;> simp_all
  have hcell : w.cell? ⟨g, m, none⟩ = some v := by rw [← hadd]; exact h2.cells (g := g) rfl m v h5
  have hlen := h4.length
  have hmx : m < xs.length := by
    by_cases hlt : m < xs.length
    · exact hlt
    · rw [List.getElem?_eq_none (by omega)] at h5; cases h5
  have hst : (w.setCell ⟨g, m, none⟩ u).ownsRow 0 T k (.slice (some ⟨g, 0, none⟩) n cc) n' (xs.set m u) ∧ w.frozen? ⟨g, m, none⟩ = false ∧ g < w.heap.size := by
    rcases h2.2 with ⟨h0, _⟩ | ⟨g', cap, cur, hv, hb, hg, hc1, hc2, hc3, hc4⟩
    · cases h0
    · injection hv with e1 e2 e3
      injection e1 with e1
      injection e1 with e1
      subst e1 e2 e3
      refine ⟨⟨by rw [List.length_set]; exact h2.1, .inr ⟨g, cc, cur.setIfInBounds m u, rfl, hb, heap_setCell_same _ _ _ _ _ _ hg, hc1, hc2, by simpa using hc3, ?_⟩⟩, by simp [World.frozen?, hg], (Array.getElem?_eq_some_iff.1 hg).1⟩
      rw [Array.toList_setIfInBounds, List.take_set, hc4]
  refine ⟨?_, hcell, hst.2.1, hst.2.2, by simp⟩
  unfold At
  refine ⟨n', xs.set m u, S', by simpa using h1, hst.1, rfl, ?_⟩
  have hgS : ∀ s ∈ S', s ≠ g := fun s hs e => hn.2.2 g (by simp) s hs e.symm
  exact h9 (w.setCell ⟨g, m, none⟩ u) (.p u) u (fun s hs _ => Below.heap_setCell _ _ _ _ (hgS s hs)) (At.plain _ u)
theorem At.block {w : World} {T : TypeId} {k : Nat} {cs : List Cell} {S : List Nat} {g n cc : Nat} (h : At w (.row T k cs) S (.slice (some ⟨g, 0, none⟩) n cc)) : ∃ cur, w.heap[g]? = some (.cells cur T (0, 0)) := by
  unfold At at h
  obtain ⟨n', xs, S', h1, h2, rfl, h4⟩ := h
  rcases h2.2 with ⟨h0, _⟩ | ⟨g', cap, cur, hv, hb, hg, _⟩
  · cases h0
  · injection hv with e1
    injection e1 with e1
    injection e1 with e1
    subst e1
    exact ⟨cur, hg⟩
/-- What is stored where it stands already makes no difference. -/
theorem setCell_self {w : World} {g m : Nat} {v : Value} {cur : Array Value} {T : TypeId} (hb : w.heap[g]? = some (.cells cur T (0, 0))) (h : w.cell? ⟨g, m, none⟩ = some v) : ∀ s : Nat, (w.setCell ⟨g, m, none⟩ v).heap[s]? = w.heap[s]? := by
  intro s
  by_cases hs : s = g
  · subst hs
    rw [heap_setCell_same _ _ _ _ _ _ hb]
    have : cur.setIfInBounds m v = cur := by
      simp [World.cell?, hb] at h
      apply Array.ext'
      rw [Array.toList_setIfInBounds]
      exact set_self _ _ _ (by simpa using h)
    rw [this, hb]
  · exact Below.heap_setCell _ _ _ _ hs
theorem flat_set {α : Type} (f : α → List Cell) (k : Nat) (hf : ∀ x, (f x).length = k) (d : Cell) (j : Nat) (hj : j < k) : ∀ (l : List α) (i : Nat) (x y : α), l[i]? = some x → f y = (f x).set j d → (l.flatMap f).set (i * k + j) d = (l.set i y).flatMap f
  | [], i, x, y, h, he => by simp at h
  | z :: l, 0, x, y, h, he => by
    simp at h; subst h
    rw [Nat.zero_mul, Nat.zero_add, List.flatMap_cons, List.set_cons_zero, List.flatMap_cons, he, List.set_append_left _ _ (by rw [hf]; exact hj)]
  | z :: l, i + 1, x, y, h, he => by
    rw [List.flatMap_cons, List.set_cons_succ, List.flatMap_cons, List.set_append_right _ _ (by rw [hf, Nat.add_mul]; omega), hf]
    rw [show (i + 1) * k + j - k = i * k + j by rw [Nat.add_mul]; omega]
    rw [flat_set f k hf d j hj l i x y (by simpa using h) he]
theorem flat_get {α : Type} (f : α → List Cell) (k : Nat) (hf : ∀ x, (f x).length = k) (l : List α) (i : Nat) (x : α) (h : l[i]? = some x) (j : Nat) (hj : j < k) : (l.flatMap f)[i * k + j]? = (f x)[j]? := by
  have := flat_elem f k hf l i x h
  rw [← this, List.getElem?_take, if_pos hj, List.getElem?_drop]
end LexT
set_option linter.unusedSimpArgs false
namespace LexT
open Go Go.RowKit
set_option linter.unusedVariables false
/-- The first so many turned. -/
def half {α : Type} (f : α → α) (l : List α) (i : Nat) : List α := (l.take i).map f ++ l.drop i
theorem half_zero {α : Type} (f : α → α) (l : List α) : half f l 0 = l := by simp [half]
theorem half_all {α : Type} (f : α → α) (l : List α) (i : Nat) (h : l.length ≤ i) : half f l i = l.map f := by
  unfold half
  rw [List.take_of_length_le h, List.drop_of_length_le h, List.append_nil]
theorem half_len {α : Type} (f : α → α) (l : List α) (i : Nat) : (half f l i).length = l.length := by
  unfold half
  simp only [List.length_append, List.length_map, List.length_take, List.length_drop]
  omega
theorem half_at {α : Type} (f : α → α) : ∀ (l : List α) (i : Nat) (x : α), l[i]? = some x → (half f l i)[i]? = some x ∧ (half f l i).set i (f x) = half f l (i + 1)
  | [], i, x, h => by simp at h
  | y :: l, 0, x, h => by simp at h; subst h; exact ⟨by simp [half], by simp [half]⟩
  | y :: l, i + 1, x, h => by
    obtain ⟨h1, h2⟩ := half_at f l i x (by simpa using h)
    unfold half at *
    refine ⟨by simpa using h1, ?_⟩
    simp only [List.take_succ_cons, List.map_cons, List.drop_succ_cons, List.cons_append, List.set_cons_succ] at h2 ⊢
    rw [h2]
end LexT
namespace Go.Proofs.YtngimijiafnheaaGreat
open Go.Instr Go.RowKit LexT
set_option linter.unusedVariables false
/-- A word of a row, whose own words have been made bare, stored back. -/
theorem word_put {w : World} {g n cc i : Nat} {ws ys : List Wd} {nm : Bs} {q : Nat} {S : List Nat} (h : At w (.row 50 3 (ws.flatMap (wdC 50))) S (.slice (some ⟨g, 0, none⟩) n cc)) (hn : S.Nodup) (hx : ws[i]? = some (.mk nm ys q)) :
    ∃ (Sm : List Nat) (ao : Option Addr) (m c : Nat), w.cell? ⟨g, i * 3, none⟩ = some (.string (mkS nm)) ∧ w.cell? ⟨g, i * 3 + 1, none⟩ = some (.slice ao m c) ∧ w.cell? ⟨g, i * 3 + 2, none⟩ = some (.int .i64 (q : Int)) ∧ At w (.row 50 3 (ys.flatMap (wdC 50))) Sm (.slice ao m c) ∧ Sm.Nodup ∧ (∀ s ∈ Sm, s ∈ S) ∧ g ∉ Sm ∧ g ∈ S ∧ g < w.heap.size ∧
      ∀ w1 : World, At w1 (.row 50 3 ((bareWs ys).flatMap (wdC 50))) Sm (.slice ao m c) → (∀ s, s < w.heap.size → s ∉ Sm → w1.heap[s]? = w.heap[s]?) →
        (w1.cell? ⟨g, i * 3, none⟩ = some (.string (mkS nm)) ∧ w1.cell? ⟨g, i * 3 + 1, none⟩ = some (.slice ao m c) ∧ w1.cell? ⟨g, i * 3 + 2, none⟩ = some (.int .i64 (q : Int)) ∧ w1.frozen? ⟨g, i * 3, none⟩ = false ∧ w1.frozen? ⟨g, i * 3 + 1, none⟩ = false ∧ w1.frozen? ⟨g, i * 3 + 2, none⟩ = false) ∧
        At (((w1.setCell ⟨g, i * 3, none⟩ (.string (mkS nm))).setCell ⟨g, i * 3 + 1, none⟩ (.slice ao m c)).setCell ⟨g, i * 3 + 2, none⟩ (.int .i64 0)) (.row 50 3 ((ws.set i (bareW (.mk nm ys q))).flatMap (wdC 50))) S (.slice (some ⟨g, 0, none⟩) n cc) ∧
        (∀ s : Nat, s ≠ g → (((w1.setCell ⟨g, i * 3, none⟩ (.string (mkS nm))).setCell ⟨g, i * 3 + 1, none⟩ (.slice ao m c)).setCell ⟨g, i * 3 + 2, none⟩ (.int .i64 0)).heap[s]? = w1.heap[s]?) := by
  have hfl : ∀ x : Wd, (wdC 50 x).length = 3 := fun x => wdC_length _ x
  have hm0 := flat_get (wdC 50) 3 hfl ws i _ hx 0 (by omega)
  have hm1 := flat_get (wdC 50) 3 hfl ws i _ hx 1 (by omega)
  have hm2 := flat_get (wdC 50) 3 hfl ws i _ hx 2 (by omega)
  rw [wdC] at hm0 hm1 hm2
  simp only [List.getElem?_cons_zero, List.getElem?_cons_succ, Nat.add_zero] at hm0 hm1 hm2
  obtain ⟨S0, v0, e0, a0, -⟩ := h.inner hn _ _ hm0
  obtain ⟨Sm, v1, e1, a1, n1, s1, g1, g2, k1⟩ := h.inner hn _ _ hm1
  obtain ⟨S2, v2, e2, a2, -⟩ := h.inner hn _ _ hm2
  obtain rfl := At.unplain a0
  obtain rfl := At.unplain a2
  obtain ⟨ao, m, c, rfl⟩ := a1.slice
  rw [wdsC_flat] at a1
  have hlt : g < w.heap.size := At.lt _ _ _ h g g2
  obtain ⟨cur, hcur⟩ := h.block
  refine ⟨Sm, ao, m, c, e0, e1, e2, a1, n1, s1, g1, g2, hlt, fun w1 hat hfr => ?_⟩
  have hbg := hfr g hlt g1
  have hc : ∀ j v, w.cell? ⟨g, j, none⟩ = some v → w1.cell? ⟨g, j, none⟩ = some v := fun j v hv => (World.cell?_of_block (a := ⟨g, j, none⟩) hbg).trans hv
  have hz : ∀ j, w1.frozen? ⟨g, j, none⟩ = false := fun j => by simp [World.frozen?, hbg, hcur]
  refine ⟨⟨hc _ _ e0, hc _ _ e1, hc _ _ e2, hz _, hz _, hz _⟩, ?_, ?_⟩
  · have h1 : At w1 (.row 50 3 ((ws.flatMap (wdC 50)).set (i * 3 + 1) (.row 50 3 (wdsC 50 (bareWs ys))))) S (.slice (some ⟨g, 0, none⟩) n cc) := k1 w1 _ (fun s hs hs2 => hfr s (At.lt _ _ _ h s hs) hs2) (by rw [wdsC_flat]; exact hat)
    rw [flat_set (wdC 50) 3 hfl _ 1 (by omega) ws i _ (.mk nm (bareWs ys) q) hx (by rw [wdC, wdC]; rfl)] at h1
    have hx2 : (ws.set i (.mk nm (bareWs ys) q))[i]? = some (.mk nm (bareWs ys) q) := by
      have : i < ws.length := by
        by_cases hlt : i < ws.length
        · exact hlt
        · rw [List.getElem?_eq_none (by omega)] at hx; cases hx
      simp [this]
    have hm2' := flat_get (wdC 50) 3 hfl _ i _ hx2 2 (by omega)
    rw [wdC] at hm2'
    simp only [List.getElem?_cons_zero, List.getElem?_cons_succ] at hm2'
    have hb1 : w1.heap[g]? = some (.cells cur 50 (0, 0)) := hbg.trans hcur
    have f1 := setCell_self hb1 (hc _ _ e0)
    have hb2 : (w1.setCell ⟨g, i * 3, none⟩ (.string (mkS nm))).heap[g]? = some (.cells cur 50 (0, 0)) := (f1 g).trans hb1
    have hc2 : (w1.setCell ⟨g, i * 3, none⟩ (.string (mkS nm))).cell? ⟨g, i * 3 + 1, none⟩ = some (.slice ao m c) := (World.cell?_of_block (a := ⟨g, i * 3 + 1, none⟩) (f1 g)).trans (hc _ _ e1)
    have f2 := setCell_self hb2 hc2
    have h2 := h1.same (w' := ((w1.setCell ⟨g, i * 3, none⟩ (.string (mkS nm))).setCell ⟨g, i * 3 + 1, none⟩ (.slice ao m c))) _ _ _ (fun s _ => (f2 s).trans (f1 s))
    have h3 := (h2.store hn _ _ hm2' (.int .i64 0)).1
    rw [flat_set (wdC 50) 3 hfl _ 2 (by omega) _ i _ (bareW (.mk nm ys q)) hx2 (by rw [bareW, wdC, wdC]; rfl), List.set_set] at h3
    exact h3
  · intro s hs
    rw [Below.heap_setCell _ _ _ _ hs, Below.heap_setCell _ _ _ _ hs, Below.heap_setCell _ _ _ _ hs]
/-- What bare leaves. -/
def BareP (b0 : Nat) (nm : Bs) (ys : List Wd) (S : List Nat) (ao : Option Addr) (m c : Nat) (w : World) (e : Ending) (w' : World) : Prop :=
  e = .returned (.agg #[.string (mkS nm), .slice ao m c, .int .i64 0]) ∧ At w' (.row 50 3 ((bareWs ys).flatMap (wdC 50))) S (.slice ao m c) ∧ Below b0 w w' ∧ ∀ s, s < w.heap.size → s ∉ S → w'.heap[s]? = w.heap[s]?
set_option maxHeartbeats 4000000 in
theorem bare_step (nm : Bs) (ws : List Wd) (q b0 : Nat) (hrec : ∀ nm ys q, Wd.mk nm ys q ∈ ws → ∀ (S : List Nat) (ao : Option Addr) (m c : Nat) (w : World), At w (.row 50 3 (ys.flatMap (wdC 50))) S (.slice ao m c) → S.Nodup → (∀ s ∈ S, b0 ≤ s) → b0 ≤ w.heap.size → Calls Tryz.prog 24 #[.agg #[.string (mkS nm), .slice ao m c, .int .i64 (q : Int)]] w (BareP b0 nm ys S ao m c w))
    (S : List Nat) (ao : Option Addr) (n c : Nat) (w : World) (hat : At w (.row 50 3 (ws.flatMap (wdC 50))) S (.slice ao n c)) (hnd : S.Nodup) (hS : ∀ s ∈ S, b0 ≤ s) (hb0 : b0 ≤ w.heap.size) : Calls Tryz.prog 24 #[.agg #[.string (mkS nm), .slice ao n c, .int .i64 (q : Int)]] w (BareP b0 nm ws S ao n c w) := by
  have hfl : ∀ x : Wd, (wdC 50 x).length = 3 := fun x => wdC_length _ x
  have hn : ws.length = n := by have := hat.count; rw [flat_length (wdC 50) 3 hfl] at this; omega
  subst hn
  have hsm := hat.small
  unfold maxLen at hsm
  obtain ⟨⟨e0, e1⟩, hb2, hs2⟩ := alloc2 w (.cells #[.string (mkS nm), .slice ao ws.length c, .int .i64 (q : Int)] 50) (.cells #[.string ⟨#[]⟩, .slice none 0 0, .int .i64 0] 50)
  obtain ⟨V0, hV0⟩ : ∃ V, V = (w.alloc (.cells #[.string (mkS nm), .slice ao ws.length c, .int .i64 (q : Int)] 50)).alloc (.cells #[.string ⟨#[]⟩, .slice none 0 0, .int .i64 0] 50) := ⟨_, rfl⟩
  rw [← hV0] at e0 e1 hb2 hs2
  obtain ⟨⟨g0, g1, g2⟩, ⟨z0, z1, z2⟩⟩ := three_facts e0
  obtain ⟨W0, hW0⟩ : ∃ V, V = V0.setCell ⟨w.heap.size, 2, none⟩ (.int .i64 0) := ⟨_, rfl⟩
  have H0 : Hid (W0.heap[w.heap.size]? = some (.cells #[.string (mkS nm), .slice ao ws.length c, .int .i64 0] 50 (0, 0)) ∧ W0.heap[w.heap.size + 1]? = some (.cells #[.string ⟨#[]⟩, .slice none 0 0, .int .i64 0] 50 (0, 0)) ∧ W0.heap.size = w.heap.size + 2 ∧ Below w.heap.size w W0) := by
    refine ⟨?_, ?_, ?_, ?_⟩
    · rw [hW0, heap_setCell_same _ _ 2 _ _ _ e0]; rfl
    · rw [hW0, Below.heap_setCell _ _ _ _ (by show w.heap.size + 1 ≠ w.heap.size; omega)]; exact e1
    · rw [hW0]; simp [World.setCell, hs2]
    · rw [hW0]; exact hb2.setCell (p := ⟨w.heap.size, 2, none⟩) (Nat.le_refl _) _
  have HV0 := Lib.hid hV0
  have HW0 := Lib.hid hW0
  have HA := Lib.hid (And.intro hat (And.intro hnd (And.intro hS hb0)))
  have HR := Lib.hid hrec
  have HL := Lib.hid (And.intro hsm hs2)
  clear e0 e1 hb2 hs2 hV0 hW0 hat hnd hS hb0 hrec hsm
  go_enter Tryz.func24, Tryz.ntmps24
  go_upto_region 1 with fail
  rw [← HV0.out]
  go_upto_region 2 with fail
  rw [← HW0.out]
  clear g0 g1 g2 z0 z1 z2
  obtain ⟨⟨g0, g1, g2⟩, _⟩ := three_facts H0.out.1
  go_wp2_with fail
  go_loopg [3] ws.length (fun g v wr => ∃ i : Nat, i ≤ ws.length ∧ g = ws.length - i ∧ v = .int .i64 i ∧ At wr (.row 50 3 ((half bareW ws i).flatMap (wdC 50))) S (.slice ao ws.length c) ∧ Below b0 W0 wr ∧ (∀ s, s < W0.heap.size → s ∉ S → wr.heap[s]? = W0.heap[s]?))
  case atStart => exact ⟨0, by omega, rfl, rfl, by rw [half_zero]; exact HA.out.1.same _ _ _ (fun s hs => H0.out.2.2.2.block s (At.lt _ _ _ HA.out.1 s hs)), Below.refl _ _, fun s _ _ => rfl⟩
  case round =>
    obtain ⟨i, hi, hgi, rfl, hat, hbl, hfr⟩ := hrel
    have HB := Lib.hid hbl
    have HG := Lib.hid hgi
    have HO := Lib.hid (And.intro hat hfr)
    have HNS : Hid (∀ j, w.heap.size ≤ j → j ∉ S) := fun j hj hs => by have := At.lt _ _ _ HA.out.1 j hs; omega
    obtain ⟨⟨k0, k1, k2⟩, _⟩ := three_facts ((hfr w.heap.size (by have := H0.out.2.2.1; omega) (HNS.out _ (Nat.le_refl _))).trans H0.out.1)
    clear hbl hgi hat hfr g0 g1 g2
    by_cases hlt : i < ws.length
    · obtain ⟨x, hx⟩ : ∃ x, ws[i]? = some x := ⟨_, List.getElem?_eq_getElem hlt⟩
      have hmem : x ∈ ws := List.mem_of_getElem? hx
      obtain ⟨hh1, hh2⟩ := half_at bareW ws i x hx
      obtain ⟨ga, hga⟩ : ∃ ga, ao = some ⟨ga, 0, none⟩ := by
        obtain ⟨ga, va, Sb, hao, _⟩ := HA.out.1.elem i hlt
        exact ⟨ga, hao⟩
      subst hga
      obtain ⟨xn, xs, xq⟩ := x
      obtain ⟨Sm, ao1, m1, c1, ka0, ka1, ka2, hsub, hnd1, hin1, hg1, hg2, hg3, hput⟩ := word_put HO.out.1 HA.out.2.1 hh1
      have HE : Hid (Calls Tryz.prog 24 #[.agg #[.string (mkS xn), .slice ao1 m1 c1, .int .i64 (xq : Int)]] wr.drew (BareP b0 xn xs Sm ao1 m1 c1 wr.drew)) := HR.out xn xs xq hmem Sm ao1 m1 c1 wr.drew (hsub.same _ _ _ (fun s _ => rfl)) hnd1 (fun s hs => HA.out.2.2.1 s (hin1 s hs)) (by have := HB.out.size; have := H0.out.2.2.1; have := HA.out.2.2.2; show b0 ≤ wr.heap.size; omega)
      have HP := Lib.hid hput
      have HS2 := Lib.hid (And.intro hin1 (And.intro hg1 (And.intro hg2 (And.intro hg3 hh2))))
      have i1 : (i : Int) < (ws.length : Int) := by omega
      have i0 : (0 : Int) ≤ (i : Int) := by omega
      clear hput hin1 hg1 hg2 hg3 hsub hnd1 hx hmem hh1 hh2
      go_wp2_with fail
      go_region_law (
        (go_simp
         go_at_call 24
         refine HE.out.mono ?_
         rintro e w1 ⟨rfl, hat1, hb1, hf1⟩
         have hf1' : ∀ s, s < wr.heap.size → s ∉ Sm → w1.heap[s]? = wr.heap[s]? := hf1
         obtain ⟨⟨d0, d1, d2, y0, y1, y2⟩, hat2, hf2⟩ := HP.out w1 hat1 hf1'
         have HQ := Lib.hid (And.intro hat2 (And.intro hf2 (And.intro hf1' hb1)))
         have hbx : w1.heap[w.heap.size]? = wr.heap[w.heap.size]? := hf1' _ (by have := HB.out.size; have := H0.out.2.2.1; omega) (fun hs => HNS.out _ (Nat.le_refl _) (HS2.out.1 _ hs))
         have q1 : w1.cell? ⟨w.heap.size, 1, none⟩ = some (.slice (some ⟨ga, 0, none⟩) ws.length c) := (World.cell?_of_block (a := ⟨w.heap.size, 1, none⟩) hbx).trans k1
         clear hat1 hb1 hf1 hf1' hat2 hf2 hbx))
      all_goals
        go_wp2_with fail
        go_roundg (ws.length - (i + 1))
        case rel =>
          obtain ⟨hin1, hg1, hg2, hg3, hh2⟩ := HS2.out
          obtain ⟨hat2, hf2, hf1, hb1⟩ := HQ.out
          have hsml : (ws.length : Int) ≤ 9223372036854775807 := by have := HL.out.1; omega
          refine ⟨i + 1, by omega, rfl, by refine congrArg _ ?_; unfold wrap64; omega, ?_, ?_, ?_⟩
          · rw [← hh2]; exact hat2
          · have hga := HA.out.2.2.1 _ hg2
            exact (((HB.out.trans ((Below.refl b0 wr).drew.trans hb1)).setCell (p := ⟨ga, i * 3, none⟩) hga _).setCell (p := ⟨ga, i * 3 + 1, none⟩) hga _).setCell (p := ⟨ga, i * 3 + 2, none⟩) hga _
          · intro s hs hs2
            refine (hf2 s (fun e => hs2 (by rw [e]; exact hg2))).trans ((hf1 s (by have := HB.out.size; omega) (fun h => hs2 (hin1 s h))).trans (HO.out.2 s hs hs2))
        case measure => rw [HG.out]; omega
    · have i1 : ¬ (i : Int) < (ws.length : Int) := by omega
      have hie : i = ws.length := by omega
      have E1 := (HO.out.2 (w.heap.size + 1) (by have := H0.out.2.2.1; omega) (HNS.out _ (by omega))).trans H0.out.2.1
      obtain ⟨⟨q0, q1, q2⟩, ⟨u0, u1, u2⟩⟩ := three_facts E1
      have HE1 := Lib.hid E1
      clear E1
      go_wp2_with fail
      refine bodyPost_ret (v := .agg #[.string (mkS nm), .slice ao ws.length c, .int .i64 0]) (by simp [results, Tryz.results24, go_sem, q0, q1, q2]) rfl ?_
      have hlow := three_low b0 wr (w.heap.size + 1) (.string (mkS nm)) (.slice ao ws.length c) (.int .i64 0) (by have := HA.out.2.2.2; omega)
      refine ⟨rfl, ?_, ?_, ?_⟩
      · have h1 := HO.out.1
        rw [half_all _ _ _ (by omega)] at h1
        rw [bareWs_map]
        exact h1.same _ _ _ (fun g hg => three_same _ _ _ _ _ _ (by have := At.lt _ _ _ HA.out.1 g hg; omega))
      · exact ((H0.out.2.2.2.mono HA.out.2.2.2).trans (HB.out.mono (Nat.le_refl _))).trans hlow
      · intro s hs hs2
        refine (three_same _ _ _ _ _ _ (by omega)).trans ((HO.out.2 s (by have := H0.out.2.2.1; omega) hs2).trans (H0.out.2.2.2.block s hs))
theorem bare_of (b0 : Nat) : (nm : Bs) → (ws : List Wd) → (q : Nat) → (S : List Nat) → (ao : Option Addr) → (n c : Nat) → (w : World) → At w (.row 50 3 (ws.flatMap (wdC 50))) S (.slice ao n c) → S.Nodup → (∀ s ∈ S, b0 ≤ s) → b0 ≤ w.heap.size → Calls Tryz.prog 24 #[.agg #[.string (mkS nm), .slice ao n c, .int .i64 (q : Int)]] w (BareP b0 nm ws S ao n c w)
  | nm, ws, q, S, ao, n, c, w, hat, hnd, hS, hb => by
    refine bare_step nm ws q b0 (fun nm' ys q' hy S ao m c w h1 h2 h3 h4 => bare_of b0 nm' ys q' S ao m c w h1 h2 h3 h4) S ao n c w hat hnd hS hb
  termination_by nm ws => SizeOf.sizeOf ws
  decreasing_by
    have := List.sizeOf_lt_of_mem hy
    simp at this
    omega
end Go.Proofs.YtngimijiafnheaaGreat
set_option linter.unusedSimpArgs false
namespace Go.Proofs.YtngimijiafnheaaGreat
open Go.Instr Go.RowKit LexT
set_option linter.unusedVariables false
theorem decl_put {w : World} {g n cc i : Nat} {ds : List De} {d : De} {S : List Nat} (h : At w (.row 41 4 (ds.flatMap declC)) S (.slice (some ⟨g, 0, none⟩) n cc)) (hn : S.Nodup) (hx : ds[i]? = some d) :
    At (w.setCell ⟨g, i * 4 + 3, none⟩ (.int .i64 0)) (.row 41 4 ((ds.set i (plD d)).flatMap declC)) S (.slice (some ⟨g, 0, none⟩) n cc) ∧ w.cell? ⟨g, i * 4 + 3, none⟩ = some (.int .i64 (d.at_ : Int)) ∧ w.frozen? ⟨g, i * 4 + 3, none⟩ = false ∧ g < w.heap.size ∧ g ∈ S := by
  have hfl : ∀ x : De, (declC x).length = 4 := fun x => rfl
  have hm := flat_get declC 4 hfl ds i _ hx 3 (by omega)
  obtain ⟨h1, h2⟩ := h.store hn _ _ hm (.int .i64 0)
  rw [flat_set declC 4 hfl (.p (.int .i64 0)) 3 (by omega) ds i _ (plD d) hx rfl] at h1
  exact ⟨h1, h2⟩
theorem rule_put {w : World} {g n cc i : Nat} {rs : List Ru} {r : Ru} {S : List Nat} (h : At w (.row 44 4 (rs.flatMap ruleC)) S (.slice (some ⟨g, 0, none⟩) n cc)) (hn : S.Nodup) (hx : rs[i]? = some r) :
    At (w.setCell ⟨g, i * 4 + 3, none⟩ (.int .i64 0)) (.row 44 4 ((rs.set i ⟨r.name, r.params, r.alts, 0⟩).flatMap ruleC)) S (.slice (some ⟨g, 0, none⟩) n cc) ∧ w.cell? ⟨g, i * 4 + 3, none⟩ = some (.int .i64 (r.at_ : Int)) ∧ w.frozen? ⟨g, i * 4 + 3, none⟩ = false ∧ g < w.heap.size ∧ g ∈ S := by
  have hfl : ∀ x : Ru, (ruleC x).length = 4 := fun x => rfl
  have hm := flat_get ruleC 4 hfl rs i _ hx 3 (by omega)
  obtain ⟨h1, h2⟩ := h.store hn _ _ hm (.int .i64 0)
  rw [flat_set ruleC 4 hfl (.p (.int .i64 0)) 3 (by omega) rs i _ ⟨r.name, r.params, r.alts, 0⟩ hx rfl] at h1
  exact ⟨h1, h2⟩
theorem rule_zoom {w : World} {g n cc i : Nat} {rs : List Ru} {r : Ru} {S : List Nat} (h : At w (.row 44 4 (rs.flatMap ruleC)) S (.slice (some ⟨g, 0, none⟩) n cc)) (hn : S.Nodup) (hx : rs[i]? = some r) :
    ∃ (Sa : List Nat) (ao : Option Addr) (m c : Nat), w.cell? ⟨g, i * 4 + 2, none⟩ = some (.slice ao m c) ∧ At w (.row 47 6 (r.alts.flatMap altC)) Sa (.slice ao m c) ∧ Sa.Nodup ∧ (∀ s ∈ Sa, s ∈ S) ∧ g ∉ Sa ∧ g ∈ S ∧
      ∀ (W : World) (az : List Al), (∀ s ∈ S, s ∉ Sa → W.heap[s]? = w.heap[s]?) → At W (.row 47 6 (az.flatMap altC)) Sa (.slice ao m c) → At W (.row 44 4 ((rs.set i ⟨r.name, r.params, az, r.at_⟩).flatMap ruleC)) S (.slice (some ⟨g, 0, none⟩) n cc) := by
  have hfl : ∀ x : Ru, (ruleC x).length = 4 := fun x => rfl
  have hm := flat_get ruleC 4 hfl rs i _ hx 2 (by omega)
  obtain ⟨Sa, v, e1, a1, n1, s1, g1, g2, k1⟩ := h.inner hn _ _ hm
  obtain ⟨ao, m, c, rfl⟩ := a1.slice
  refine ⟨Sa, ao, m, c, e1, a1, n1, s1, g1, g2, fun W az hf hd => ?_⟩
  have := k1 W _ hf hd
  rw [flat_set ruleC 4 hfl (.row 47 6 (az.flatMap altC)) 2 (by omega) rs i _ ⟨r.name, r.params, az, r.at_⟩ hx rfl] at this
  exact this
theorem alt_put5 {w : World} {g n cc i : Nat} {az : List Al} {a : Al} {S : List Nat} (h : At w (.row 47 6 (az.flatMap altC)) S (.slice (some ⟨g, 0, none⟩) n cc)) (hn : S.Nodup) (hx : az[i]? = some a) :
    At (w.setCell ⟨g, i * 6 + 5, none⟩ (.int .i64 0)) (.row 47 6 ((az.set i ⟨a.words, a.prec, a.has, a.action, a.where_, 0⟩).flatMap altC)) S (.slice (some ⟨g, 0, none⟩) n cc) ∧ w.cell? ⟨g, i * 6 + 5, none⟩ = some (.int .i64 (a.at_ : Int)) ∧ w.frozen? ⟨g, i * 6 + 5, none⟩ = false ∧ g < w.heap.size ∧ g ∈ S := by
  have hfl : ∀ x : Al, (altC x).length = 6 := fun x => rfl
  have hm := flat_get altC 6 hfl az i _ hx 5 (by omega)
  obtain ⟨h1, h2⟩ := h.store hn _ _ hm (.int .i64 0)
  rw [flat_set altC 6 hfl (.p (.int .i64 0)) 5 (by omega) az i _ ⟨a.words, a.prec, a.has, a.action, a.where_, 0⟩ hx rfl] at h1
  exact ⟨h1, h2⟩
theorem alt_put4 {w : World} {g n cc i : Nat} {az : List Al} {a : Al} {S : List Nat} (h : At w (.row 47 6 (az.flatMap altC)) S (.slice (some ⟨g, 0, none⟩) n cc)) (hn : S.Nodup) (hx : az[i]? = some a) :
    At (w.setCell ⟨g, i * 6 + 4, none⟩ (.int .i64 0)) (.row 47 6 ((az.set i ⟨a.words, a.prec, a.has, a.action, 0, a.at_⟩).flatMap altC)) S (.slice (some ⟨g, 0, none⟩) n cc) ∧ w.cell? ⟨g, i * 6 + 4, none⟩ = some (.int .i64 (IntKind.i64.wrap (a.where_ : Int))) ∧ w.frozen? ⟨g, i * 6 + 4, none⟩ = false ∧ g < w.heap.size ∧ g ∈ S := by
  have hfl : ∀ x : Al, (altC x).length = 6 := fun x => rfl
  have hm := flat_get altC 6 hfl az i _ hx 4 (by omega)
  obtain ⟨h1, h2⟩ := h.store hn _ _ hm (.int .i64 0)
  rw [flat_set altC 6 hfl (.p (.int .i64 0)) 4 (by omega) az i _ ⟨a.words, a.prec, a.has, a.action, 0, a.at_⟩ hx rfl] at h1
  exact ⟨h1, h2⟩
theorem alt_zoom {w : World} {g n cc i : Nat} {az : List Al} {a : Al} {S : List Nat} (h : At w (.row 47 6 (az.flatMap altC)) S (.slice (some ⟨g, 0, none⟩) n cc)) (hn : S.Nodup) (hx : az[i]? = some a) :
    ∃ (Sa : List Nat) (ao : Option Addr) (m c : Nat), w.cell? ⟨g, i * 6, none⟩ = some (.slice ao m c) ∧ At w (.row 50 3 (a.words.flatMap (wdC 50))) Sa (.slice ao m c) ∧ Sa.Nodup ∧ (∀ s ∈ Sa, s ∈ S) ∧ g ∉ Sa ∧ g ∈ S ∧
      ∀ (W : World) (ws : List Wd), (∀ s ∈ S, s ∉ Sa → W.heap[s]? = w.heap[s]?) → At W (.row 50 3 (ws.flatMap (wdC 50))) Sa (.slice ao m c) → At W (.row 47 6 ((az.set i ⟨ws, a.prec, a.has, a.action, a.where_, a.at_⟩).flatMap altC)) S (.slice (some ⟨g, 0, none⟩) n cc) := by
  have hfl : ∀ x : Al, (altC x).length = 6 := fun x => rfl
  have hm := flat_get altC 6 hfl az i _ hx 0 (by omega)
  obtain ⟨Sa, v, e1, a1, n1, s1, g1, g2, k1⟩ := h.inner hn _ _ hm
  obtain ⟨ao, m, c, rfl⟩ := a1.slice
  rw [wdsC_flat] at a1
  refine ⟨Sa, ao, m, c, e1, a1, n1, s1, g1, g2, fun W ws hf hd => ?_⟩
  have := k1 W (.row 50 3 (wdsC 50 ws)) hf (by rw [wdsC_flat]; exact hd)
  rw [flat_set altC 6 hfl (.row 50 3 (wdsC 50 ws)) 0 (by omega) az i _ ⟨ws, a.prec, a.has, a.action, a.where_, a.at_⟩ hx rfl] at this
  exact this
theorem text_open {w : World} {x : Tx} {S : List Nat} {v : List Value} (h : AtL w (textC x) S v) : ∃ (Sd Sr : List Nat) (ao : Option Addr) (n c : Nat) (bo : Option Addr) (m d : Nat), S = Sd ++ Sr ∧ v = [.slice ao n c, .slice bo m d] ∧ At w (.row 41 4 (x.decls.flatMap declC)) Sd (.slice ao n c) ∧ At w (.row 44 4 (x.rules.flatMap ruleC)) Sr (.slice bo m d) := by
  unfold textC at h
  obtain ⟨Sd, S2, x1, xs1, rfl, rfl, h1, h2⟩ := h.uncons
  obtain ⟨Sr, S3, x2, xs2, rfl, rfl, h3, h4⟩ := h2.uncons
  obtain rfl := h4.unnil
  have h5 : S3 = [] := by unfold AtL at h4; exact h4.1
  subst h5
  obtain ⟨ao, n, c, rfl⟩ := h1.slice
  obtain ⟨bo, m, d, rfl⟩ := h3.slice
  exact ⟨Sd, Sr, ao, n, c, bo, m, d, by simp, rfl, h1, h3⟩
theorem text_close {w : World} {x : Tx} {Sd Sr : List Nat} {v1 v2 : Value} (h1 : At w (.row 41 4 (x.decls.flatMap declC)) Sd v1) (h2 : At w (.row 44 4 (x.rules.flatMap ruleC)) Sr v2) : AtL w (textC x) (Sd ++ Sr) [v1, v2] := by
  have := AtL.cons h1 (AtL.cons h2 (AtL.nil w))
  rw [List.append_nil] at this
  exact this
end Go.Proofs.YtngimijiafnheaaGreat
set_option linter.unusedSimpArgs false
namespace LexT
set_option linter.unusedVariables false
theorem set_get {α : Type} {l : List α} {i : Nat} {x y : α} (h : l[i]? = some x) : (l.set i y)[i]? = some y := by
  have : i < l.length := by
    by_cases hlt : i < l.length
    · exact hlt
    · rw [List.getElem?_eq_none (by omega)] at h; cases h
  simp [this]
theorem get_some {α : Type} {l : List α} {i : Nat} (h : i < l.length) : ∃ x, l[i]? = some x := ⟨_, List.getElem?_eq_getElem h⟩
end LexT
namespace Go.Proofs.YtngimijiafnheaaGreat
open Go.Instr Go.RowKit LexT
set_option linter.unusedVariables false
set_option maxHeartbeats 16000000 in
theorem plain_of (x : Tx) (hsm : smallT x) (S : List Nat) (vx : List Value) (w : World) (hx : AtL w (textC x) S vx) : Calls Tryz.prog 10 #[.agg vx.toArray] w (CopP (textC (plT x)) w) := by
  obtain ⟨ds, rs⟩ := x
  obtain ⟨ao0, nn0, c0, Sa0, bo0, m0, d0, Sb0, rfl, ha0, hb0⟩ := textParts hx
  obtain ⟨⟨e0, e1⟩, hb2, hs2⟩ := alloc2 w (.cells #[.slice ao0 nn0 c0, .slice bo0 m0 d0] 25) (.cells #[.slice none 0 0, .slice none 0 0] 25)
  obtain ⟨V0, hV0⟩ : ∃ V, V = (w.alloc (.cells #[.slice ao0 nn0 c0, .slice bo0 m0 d0] 25)).alloc (.cells #[.slice none 0 0, .slice none 0 0] 25) := ⟨_, rfl⟩
  rw [← hV0] at e0 e1 hb2 hs2
  have HV0 := Lib.hid hV0
  have HC0 : Hid (Calls Tryz.prog 23 #[.agg #[.slice ao0 nn0 c0, .slice bo0 m0 d0]] V0 (CopP (textC ⟨ds, rs⟩) V0)) := CopySource_of ⟨ds, rs⟩ hsm S _ V0 (hx.same _ _ _ (fun g hg => hb2.block g (AtL.lt _ _ _ hx g hg)))
  have HB0 := Lib.hid (And.intro hb2 (And.intro e0 e1))
  have HS := Lib.hid hs2
  obtain ⟨⟨g0, g1⟩, _⟩ := two_facts e0
  clear e0 e1 hb2 hs2 hx ha0 hb0 hV0 hsm
  go_enter Tryz.func10, Tryz.ntmps10
  go_upto_region 1 with fail
  rw [← HV0.out]
  go_wp2_with fail
  refine HC0.out.mono ?_
  rintro e w1 ⟨vy, S1, rfl, hat, hnd, hge, hbc⟩
  obtain ⟨Sd, Sr, ao, n, c, bo, m, d, rfl, rfl, hd, hr⟩ := text_open hat
  clear g0 g1
  have E0 := (hbc.block w.heap.size (by have := HS.out; omega)).trans HB0.out.2.1
  have E1 := (hbc.block (w.heap.size + 1) (by have := HS.out; omega)).trans HB0.out.2.2
  obtain ⟨⟨g0, g1⟩, ⟨z0, z1⟩⟩ := two_facts E0
  rw [List.nodup_append] at hnd
  obtain ⟨W0, hW0⟩ : ∃ V, V = two w1 w.heap.size (.slice ao n c) (.slice bo m d) := ⟨_, rfl⟩
  have hltd := At.lt _ _ _ hd
  have hltr := At.lt _ _ _ hr
  have hgd : ∀ s ∈ Sd, w.heap.size + 2 ≤ s := fun s hs => by have := hge s (List.mem_append_left _ hs); have := HS.out; omega
  have hgr : ∀ s ∈ Sr, w.heap.size + 2 ≤ s := fun s hs => by have := hge s (List.mem_append_right _ hs); have := HS.out; omega
  have HN : Hid (n = ds.length ∧ m = rs.length ∧ n ≤ 9223372036854775807 ∧ m ≤ 9223372036854775807) := by
    have h1 := hd.count
    have h2 := hr.count
    rw [flat_length declC 4 (fun _ => rfl)] at h1
    rw [flat_length ruleC 4 (fun _ => rfl)] at h2
    have h3 := hd.small
    have h4 := hr.small
    unfold maxLen at h3 h4
    exact ⟨by have h1 : ds.length * 4 = n * 4 := h1; omega, by have h2 : rs.length * 4 = m * 4 := h2; omega, h3, h4⟩
  have H0 : Hid (At W0 (.row 41 4 (ds.flatMap declC)) Sd (.slice ao n c) ∧ At W0 (.row 44 4 (rs.flatMap ruleC)) Sr (.slice bo m d) ∧ W0.heap[w.heap.size]? = some (.cells #[.slice ao n c, .slice bo m d] 25 (0, 0)) ∧ W0.heap[w.heap.size + 1]? = some (.cells #[.slice none 0 0, .slice none 0 0] 25 (0, 0)) ∧ Below w.heap.size w W0 ∧ w.heap.size + 2 ≤ W0.heap.size) := by
    rw [hW0]
    refine ⟨hd.same _ _ _ (fun s hs => two_same _ _ _ _ _ (by have := hgd s hs; omega)), hr.same _ _ _ (fun s hs => two_same _ _ _ _ _ (by have := hgr s hs; omega)), ?_, (two_same _ _ _ _ _ (by omega)).trans E1, (HB0.out.1.trans (hbc.mono HB0.out.1.size)).trans (two_low _ _ _ _ _ (Nat.le_refl _)), ?_⟩
    · unfold two
      rw [heap_setCell_same _ _ 1 _ _ _ (heap_setCell_same _ _ 0 _ _ _ E0)]; rfl
    · have := hbc.size; have := HS.out; simp [two, World.setCell]; omega
  have HD : Hid (Sd.Nodup ∧ Sr.Nodup ∧ (∀ s ∈ Sd, s ∉ Sr) ∧ (∀ s ∈ Sd, w.heap.size + 2 ≤ s) ∧ (∀ s ∈ Sr, w.heap.size + 2 ≤ s)) := ⟨hnd.1, hnd.2.1, fun s h1 h2 => hnd.2.2 s h1 s h2 rfl, hgd, hgr⟩
  clear hat hnd hge hbc hd hr E0 E1 hltd hltr hgd hgr
  go_upto_region 2 with fail
  rw [show (w1.setCell ⟨w.heap.size, 0, none⟩ (.slice ao n c)).setCell ⟨w.heap.size, 1, none⟩ (.slice bo m d) = W0 from hW0.symm]
  clear g0 g1 z0 z1
  have HW0 := Lib.hid hW0
  clear hW0
  obtain ⟨⟨g0, g1⟩, _⟩ := two_facts H0.out.2.2.1
  go_wp2_with fail
  go_loopg [3] n (fun gg v wr => ∃ i : Nat, i ≤ n ∧ gg = n - i ∧ v = .int .i64 i ∧ At wr (.row 41 4 ((half plD ds i).flatMap declC)) Sd (.slice ao n c) ∧ Below w.heap.size W0 wr ∧ (∀ s, s < W0.heap.size → s ∉ Sd → wr.heap[s]? = W0.heap[s]?))
  case atStart => exact ⟨0, by omega, rfl, rfl, by rw [half_zero]; exact H0.out.1, Below.refl _ _, fun s _ _ => rfl⟩
  case round =>
    obtain ⟨i, hi, hgi, rfl, hat, hbl, hfr⟩ := hrel
    have HB := Lib.hid hbl
    have HG := Lib.hid hgi
    have HO := Lib.hid (And.intro hat hfr)
    obtain ⟨⟨k0, k1⟩, _⟩ := two_facts ((hfr w.heap.size (by have := H0.out.2.2.2.2.2; omega) (fun h => by have := HD.out.2.2.2.1 _ h; omega)).trans H0.out.2.2.1)
    clear hbl hgi hat hfr g0 g1
    by_cases hlt : i < n
    · obtain ⟨y, hy⟩ := get_some (l := ds) (i := i) (by have := HN.out.1; omega)
      obtain ⟨hh1, hh2⟩ := half_at plD ds i y hy
      obtain ⟨ga, hga⟩ : ∃ ga, ao = some ⟨ga, 0, none⟩ := by
        obtain ⟨ga, va, Sb, hao, _⟩ := HO.out.1.elem i hlt
        exact ⟨ga, hao⟩
      subst hga
      obtain ⟨hat2, y0, y1, y2, y3⟩ := decl_put HO.out.1 HD.out.1 hh1
      rw [hh2] at hat2
      have HQ := Lib.hid (And.intro hat2 (And.intro y2 y3))
      have i1 : (i : Int) < (n : Int) := by omega
      have i0 : (0 : Int) ≤ (i : Int) := by omega
      clear hat2 y2 y3 hh1 hh2 hy
      go_wp2_with fail
      go_roundg (n - (i + 1))
      case rel =>
        obtain ⟨hat2, y2, y3⟩ := HQ.out
        have hnb := HN.out.2.2.1
        refine ⟨i + 1, by omega, rfl, by refine congrArg _ ?_; unfold wrap64; omega, hat2, ?_, ?_⟩
        · exact HB.out.setCell (p := ⟨ga, i * 4 + 3, none⟩) (by have := HD.out.2.2.2.1 _ y3; show w.heap.size ≤ ga; omega) _
        · intro s hs hs2
          exact (Below.heap_setCell _ _ _ _ (fun e => hs2 (by rw [show s = ga from e]; exact y3))).trans (HO.out.2 s hs hs2)
      case measure => rw [HG.out]; omega
    · have i1 : ¬ (i : Int) < (n : Int) := by omega
      have hie : ds.length ≤ i := by have := HN.out.1; omega
      obtain ⟨W1, rfl⟩ : ∃ V, V = wr := ⟨_, rfl⟩
      have H1 : Hid (At W1 (.row 41 4 ((ds.map plD).flatMap declC)) Sd (.slice ao n c) ∧ At W1 (.row 44 4 (rs.flatMap ruleC)) Sr (.slice bo m d) ∧ W1.heap[w.heap.size]? = some (.cells #[.slice ao n c, .slice bo m d] 25 (0, 0)) ∧ W1.heap[w.heap.size + 1]? = some (.cells #[.slice none 0 0, .slice none 0 0] 25 (0, 0)) ∧ Below w.heap.size w W1 ∧ w.heap.size + 2 ≤ W1.heap.size) := by
        obtain ⟨hat, hfr⟩ := HO.out
        rw [half_all _ _ _ hie] at hat
        refine ⟨hat, H0.out.2.1.same _ _ _ (fun s hs => hfr s (At.lt _ _ _ H0.out.2.1 s hs) (fun h => HD.out.2.2.1 s h hs)), ?_, ?_, H0.out.2.2.2.2.1.trans (HB.out.mono (Nat.le_refl _)), by have := HB.out.size; have := H0.out.2.2.2.2.2; omega⟩
        · exact (hfr _ (by have := H0.out.2.2.2.2.2; omega) (fun h => by have := HD.out.2.2.2.1 _ h; omega)).trans H0.out.2.2.1
        · exact (hfr _ (by have := H0.out.2.2.2.2.2; omega) (fun h => by have := HD.out.2.2.2.1 _ h; omega)).trans H0.out.2.2.2.1
      clear hie
      go_wp2_with fail
      go_loopg [4] m (fun gg v wq => ∃ i : Nat, i ≤ m ∧ gg = m - i ∧ v = .int .i64 i ∧ At wq (.row 44 4 ((half plR rs i).flatMap ruleC)) Sr (.slice bo m d) ∧ Below w.heap.size W1 wq ∧ (∀ s, s < W1.heap.size → s ∉ Sr → wq.heap[s]? = W1.heap[s]?))
      case atStart => exact ⟨0, by omega, rfl, rfl, by rw [half_zero]; exact H1.out.2.1, Below.refl _ _, fun s _ _ => rfl⟩
      case round =>
        clear k0 k1 i1 hi hlt
        obtain ⟨i2, hi2, hgi2, rfl, hat, hbl, hfr⟩ := hrel
        obtain ⟨wq, rfl⟩ : ∃ V, V = wr := ⟨_, rfl⟩
        have HB2 := Lib.hid hbl
        have HG2 := Lib.hid hgi2
        have HO2 := Lib.hid (And.intro hat hfr)
        have HX2 : Hid (wq.heap[w.heap.size]? = some (.cells #[.slice ao n c, .slice bo m d] 25 (0, 0)) ∧ wq.heap[w.heap.size + 1]? = some (.cells #[.slice none 0 0, .slice none 0 0] 25 (0, 0)) ∧ w.heap.size + 2 ≤ wq.heap.size) := by
          refine ⟨?_, ?_, by have := hbl.size; have := H1.out.2.2.2.2.2; omega⟩
          · exact (hfr _ (by have := H1.out.2.2.2.2.2; omega) (fun h => by have := HD.out.2.2.2.2 _ h; omega)).trans H1.out.2.2.1
          · exact (hfr _ (by have := H1.out.2.2.2.2.2; omega) (fun h => by have := HD.out.2.2.2.2 _ h; omega)).trans H1.out.2.2.2.1
        obtain ⟨⟨k0, k1⟩, _⟩ := two_facts HX2.out.1
        clear hbl hgi2 hat hfr
        by_cases hlt2 : i2 < m
        · obtain ⟨r, hy⟩ := get_some (l := rs) (i := i2) (by have := HN.out.2.1; omega)
          obtain ⟨hh1, hh2⟩ := half_at plR rs i2 r hy
          obtain ⟨ga, hga⟩ : ∃ ga, bo = some ⟨ga, 0, none⟩ := by
            obtain ⟨ga, va, Sb, hao, _⟩ := HO2.out.1.elem i2 hlt2
            exact ⟨ga, hao⟩
          subst hga
          obtain ⟨hat2, y0, y1, y2, y3⟩ := rule_put HO2.out.1 HD.out.2.1 hh1
          obtain ⟨w3, hw3⟩ : ∃ V, V = wq.setCell ⟨ga, i2 * 4 + 3, none⟩ (.int .i64 0) := ⟨_, rfl⟩
          rw [← hw3] at hat2
          have hgab : w.heap.size + 2 ≤ ga := HD.out.2.2.2.2 _ y3
          have HX3 : Hid (w3.heap[w.heap.size]? = some (.cells #[.slice ao n c, .slice (some ⟨ga, 0, none⟩) m d] 25 (0, 0)) ∧ w3.heap.size = wq.heap.size ∧ (∀ s : Nat, s ≠ ga → w3.heap[s]? = wq.heap[s]?) ∧ ga < wq.heap.size ∧ ga ∈ Sr) := by
            have hne : ∀ s : Nat, s ≠ ga → w3.heap[s]? = wq.heap[s]? := fun s hs => by rw [hw3]; exact Below.heap_setCell _ _ _ _ hs
            exact ⟨(hne _ (by omega)).trans HX2.out.1, by rw [hw3]; simp [World.setCell], hne, y2, y3⟩
          have hgx := set_get (y := (⟨r.name, r.params, r.alts, 0⟩ : Ru)) hh1
          obtain ⟨Sa, ao1, m1, c1, kc, hata, hnda, hina, hga1, hga2, hput⟩ := rule_zoom hat2 HD.out.2.1 hgx
          simp only [List.set_set] at hput
          have HZ := Lib.hid (And.intro hput (And.intro hh2 (And.intro hina hga1)))
          have HA1 := Lib.hid (And.intro hata hnda)
          have HM1 : Hid (m1 = r.alts.length ∧ m1 ≤ 9223372036854775807) := by
            have h1 := hata.count
            rw [flat_length altC 6 (fun _ => rfl)] at h1
            have h3 := hata.small
            unfold maxLen at h3
            exact ⟨by have h1 : r.alts.length * 6 = m1 * 6 := h1; omega, h3⟩
          have HW3 := Lib.hid hw3
          have HKC := Lib.hid kc
          have HLT2 := Lib.hid hlt2
          have i1 : (i2 : Int) < (m : Int) := by omega
          have i0 : (0 : Int) ≤ (i2 : Int) := by omega
          clear hat2 y2 y3 hh1 hh2 hy hput hina hga1 hga2 hata hnda hgx hgab hw3
          go_upto_region 10 with fail
          rw [← HW3.out]
          clear k0 k1 y0 y1
          obtain ⟨⟨k0, k1⟩, _⟩ := two_facts HX3.out.1
          go_wp2_with fail
          go_loopg [5] m1 (fun gg v wa => ∃ i : Nat, i ≤ m1 ∧ gg = m1 - i ∧ v = .int .i64 i ∧ At wa (.row 47 6 ((half plA r.alts i).flatMap altC)) Sa (.slice ao1 m1 c1) ∧ Below w.heap.size w3 wa ∧ (∀ s, s < w3.heap.size → s ∉ Sa → wa.heap[s]? = w3.heap[s]?))
          case atStart => exact ⟨0, by omega, rfl, rfl, by rw [half_zero]; exact HA1.out.1, Below.refl _ _, fun s _ _ => rfl⟩
          case round =>
            clear k0 k1 i1 i0 hlt2 hi2 kc
            obtain ⟨i3, hi3, hgi3, rfl, hat, hbl, hfr⟩ := hrel
            obtain ⟨wa, rfl⟩ : ∃ V, V = wr := ⟨_, rfl⟩
            have HB3 := Lib.hid hbl
            have HG3 := Lib.hid hgi3
            have HO3 := Lib.hid (And.intro hat hfr)
            have HX4 : Hid (wa.heap[w.heap.size]? = some (.cells #[.slice ao n c, .slice (some ⟨ga, 0, none⟩) m d] 25 (0, 0)) ∧ wa.cell? ⟨ga, i2 * 4 + 2, none⟩ = some (.slice ao1 m1 c1) ∧ w3.heap.size ≤ wa.heap.size) := by
              refine ⟨?_, ?_, hbl.size⟩
              · exact (hfr _ (by have := HX3.out.2.1; have := HX2.out.2.2; omega) (fun h => by have := HD.out.2.2.2.2 _ (HZ.out.2.2.1 _ h); omega)).trans HX3.out.1
              · exact (World.cell?_of_block (a := ⟨ga, i2 * 4 + 2, none⟩) (hfr ga (by have := HX3.out.2.1; have := HX3.out.2.2.2.1; omega) HZ.out.2.2.2)).trans HKC.out
            obtain ⟨⟨k0, k1⟩, _⟩ := two_facts HX4.out.1
            have kc := HX4.out.2.1
            clear hbl hgi3 hat hfr
            by_cases hlt3 : i3 < m1
            · obtain ⟨a, hy⟩ := get_some (l := r.alts) (i := i3) (by have := HM1.out.1; omega)
              obtain ⟨hh1, hh2⟩ := half_at plA r.alts i3 a hy
              obtain ⟨gb, hgb⟩ : ∃ ga, ao1 = some ⟨ga, 0, none⟩ := by
                obtain ⟨ga, va, Sb, hao, _⟩ := HO3.out.1.elem i3 hlt3
                exact ⟨ga, hao⟩
              subst hgb
              obtain ⟨hat5, u0, u1, u2, u3⟩ := alt_put5 HO3.out.1 HA1.out.2 hh1
              obtain ⟨w5, hw5⟩ : ∃ V, V = wa.setCell ⟨gb, i3 * 6 + 5, none⟩ (.int .i64 0) := ⟨_, rfl⟩
              rw [← hw5] at hat5
              have hx5 := set_get (y := (⟨a.words, a.prec, a.has, a.action, a.where_, 0⟩ : Al)) hh1
              obtain ⟨hat6, x0, x1, x2, x3⟩ := alt_put4 hat5 HA1.out.2 hx5
              obtain ⟨w6, hw6⟩ : ∃ V, V = w5.setCell ⟨gb, i3 * 6 + 4, none⟩ (.int .i64 0) := ⟨_, rfl⟩
              rw [← hw6, List.set_set] at hat6
              have hx6 := set_get (y := (⟨a.words, a.prec, a.has, a.action, 0, 0⟩ : Al)) hh1
              obtain ⟨Sw, ao2, m2, c2, kw, hatw, hndw, hinw, hgw1, hgw2, hput2⟩ := alt_zoom hat6 HA1.out.2 hx6
              simp only [List.set_set] at hput2
              have HZ2 := Lib.hid (And.intro hput2 (And.intro hh2 (And.intro hinw (And.intro hgw1 (And.intro hgw2 u2)))))
              have HA2 := Lib.hid (And.intro hatw hndw)
              have HM2 : Hid (m2 = a.words.length ∧ m2 ≤ 9223372036854775807) := by
                have h1 := hatw.count
                rw [flat_length (wdC 50) 3 (fun x => wdC_length _ x)] at h1
                have h3 := hatw.small
                unfold maxLen at h3
                exact ⟨by have h1 : a.words.length * 3 = m2 * 3 := h1; omega, h3⟩
              have HX6 : Hid (w6.heap.size = wa.heap.size ∧ ∀ s : Nat, s ≠ gb → w6.heap[s]? = wa.heap[s]?) := by
                refine ⟨by rw [hw6, hw5]; simp [World.setCell], fun s hs => ?_⟩
                rw [hw6, Below.heap_setCell _ _ _ _ hs, hw5, Below.heap_setCell _ _ _ _ hs]
              have HW5 := Lib.hid hw5
              have HLT3 := Lib.hid hlt3
              have HW6 := Lib.hid hw6
              have HKW := Lib.hid kw
              have i1 : (i3 : Int) < (m1 : Int) := by omega
              have i0 : (0 : Int) ≤ (i3 : Int) := by omega
              clear hat5 hat6 u2 u3 x2 x3 hx5 hx6 hput2 hinw hgw1 hgw2 hh1 hh2 hy hatw hndw hw5 hw6
              go_upto_region 15 with fail
              rw [← HW5.out]
              clear u0 u1
              go_upto_region 16 with fail
              rw [← HW6.out]
              clear x0 x1 k0 k1 kc
              go_wp2_with fail
              go_loopg [7] m2 (fun gg v wb => ∃ i : Nat, i ≤ m2 ∧ gg = m2 - i ∧ v = .int .i64 i ∧ At wb (.row 50 3 ((half bareW a.words i).flatMap (wdC 50))) Sw (.slice ao2 m2 c2) ∧ Below w.heap.size w6 wb ∧ (∀ s, s < w6.heap.size → s ∉ Sw → wb.heap[s]? = w6.heap[s]?))
              case atStart => exact ⟨0, by omega, rfl, rfl, by rw [half_zero]; exact HA2.out.1, Below.refl _ _, fun s _ _ => rfl⟩
              case round =>
                clear kw i1 i0 hlt3 hi3
                obtain ⟨i4, hi4, hgi4, rfl, hat, hbl, hfr⟩ := hrel
                obtain ⟨wb, rfl⟩ : ∃ V, V = wr := ⟨_, rfl⟩
                have HB4 := Lib.hid hbl
                have HG4 := Lib.hid hgi4
                have HO4 := Lib.hid (And.intro hat hfr)
                have kw : wb.cell? ⟨gb, i3 * 6, none⟩ = some (.slice ao2 m2 c2) := (World.cell?_of_block (a := ⟨gb, i3 * 6, none⟩) (hfr gb (by have := HX6.out.1; have := HZ2.out.2.2.2.2.2; omega) HZ2.out.2.2.2.1)).trans HKW.out
                clear hbl hgi4 hat hfr
                by_cases hlt4 : i4 < m2
                · obtain ⟨x, hx⟩ := get_some (l := a.words) (i := i4) (by have := HM2.out.1; omega)
                  obtain ⟨hh1, hh2⟩ := half_at bareW a.words i4 x hx
                  obtain ⟨gw, hgw⟩ : ∃ ga, ao2 = some ⟨ga, 0, none⟩ := by
                    obtain ⟨ga, va, Sb, hao, _⟩ := HO4.out.1.elem i4 hlt4
                    exact ⟨ga, hao⟩
                  subst hgw
                  obtain ⟨xn, xs, xq⟩ := x
                  obtain ⟨Sm, ao3, m3, c3, ka0, ka1, ka2, hsub, hnd1, hin1, hg1, hg2, hg3, hput⟩ := word_put HO4.out.1 HA2.out.2 hh1
                  have HE : Hid (Calls Tryz.prog 24 #[.agg #[.string (mkS xn), .slice ao3 m3 c3, .int .i64 (xq : Int)]] wb.drew (BareP w.heap.size xn xs Sm ao3 m3 c3 wb.drew)) := bare_of w.heap.size xn xs xq Sm ao3 m3 c3 wb.drew (hsub.same _ _ _ (fun s _ => rfl)) hnd1 (fun s hs => by have := HD.out.2.2.2.2 _ (HZ.out.2.2.1 _ (HZ2.out.2.2.1 _ (hin1 s hs))); omega) (by have := HB4.out.size; have := HX6.out.1; have := HX4.out.2.2; have := HX3.out.2.1; have := HX2.out.2.2; show w.heap.size ≤ wb.heap.size; omega)
                  have HP := Lib.hid hput
                  have HS2 := Lib.hid (And.intro hin1 (And.intro hg1 (And.intro hg2 (And.intro hg3 hh2))))
                  have i1 : (i4 : Int) < (m2 : Int) := by omega
                  have i0 : (0 : Int) ≤ (i4 : Int) := by omega
                  have HKW2 := Lib.hid kw
                  clear hput hin1 hg1 hg2 hg3 hsub hnd1 hx hh1 hh2
                  go_wp2_with fail
                  go_region_law (
                    (go_simp
                     go_at_call 24
                     refine HE.out.mono ?_
                     rintro e w1 ⟨rfl, hat1, hb1, hf1⟩
                     have hf1' : ∀ s, s < wb.heap.size → s ∉ Sm → w1.heap[s]? = wb.heap[s]? := hf1
                     obtain ⟨⟨d0, d1, d2, y0, y1, y2⟩, hat2, hf2⟩ := HP.out w1 hat1 hf1'
                     have HQ := Lib.hid (And.intro hat2 (And.intro hf2 (And.intro hf1' hb1)))
                     have q1 : w1.cell? ⟨gb, i3 * 6, none⟩ = some (.slice (some ⟨gw, 0, none⟩) m2 c2) := (World.cell?_of_block (a := ⟨gb, i3 * 6, none⟩) (hf1' gb (by have := HB4.out.size; have := HX6.out.1; have := HZ2.out.2.2.2.2.2; omega) (fun hs => HZ2.out.2.2.2.1 (HS2.out.1 _ hs)))).trans HKW2.out
                     clear hat1 hb1 hf1 hf1' hat2 hf2))
                  all_goals
                    go_wp2_with fail
                    go_roundg (m2 - (i4 + 1))
                    case rel =>
                      obtain ⟨hin1, hg1, hg2, hg3, hh2⟩ := HS2.out
                      obtain ⟨hat2, hf2, hf1, hb1⟩ := HQ.out
                      have hsml := HM2.out.2
                      refine ⟨i4 + 1, by omega, rfl, by refine congrArg _ ?_; unfold wrap64; omega, ?_, ?_, ?_⟩
                      · rw [← hh2]; exact hat2
                      · have hga : w.heap.size ≤ gw := by have := HD.out.2.2.2.2 _ (HZ.out.2.2.1 _ (HZ2.out.2.2.1 _ hg2)); omega
                        exact (((HB4.out.trans ((Below.refl w.heap.size wb).drew.trans hb1)).setCell (p := ⟨gw, i4 * 3, none⟩) hga _).setCell (p := ⟨gw, i4 * 3 + 1, none⟩) hga _).setCell (p := ⟨gw, i4 * 3 + 2, none⟩) hga _
                      · intro s hs hs2
                        refine (hf2 s (fun e => hs2 (by rw [e]; exact hg2))).trans ((hf1 s (by have := HB4.out.size; omega) (fun h => hs2 (hin1 s h))).trans (HO4.out.2 s hs hs2))
                    case measure => rw [HG4.out]; omega
                · have i1 : ¬ (i4 : Int) < (m2 : Int) := by omega
                  have HR3 : Hid (At wb (.row 47 6 ((half plA r.alts (i3 + 1)).flatMap altC)) Sa (.slice (some ⟨gb, 0, none⟩) m1 c1) ∧ Below w.heap.size w3 wb ∧ (∀ s, s < w3.heap.size → s ∉ Sa → wb.heap[s]? = w3.heap[s]?)) := by
                    obtain ⟨hput2, hh2, hinw, hgw1, hgw2, u2⟩ := HZ2.out
                    obtain ⟨hat, hfr⟩ := HO4.out
                    rw [half_all _ _ _ (by have := HM2.out.1; omega)] at hat
                    have h1 := hput2 wb _ (fun s hs hs2 => hfr s (by have := At.lt _ _ _ HO3.out.1 s hs; have := HX6.out.1; omega) hs2) hat
                    rw [← bareWs_map] at h1
                    have h2 : (half plA r.alts i3).set i3 ⟨bareWs a.words, a.prec, a.has, a.action, 0, 0⟩ = half plA r.alts (i3 + 1) := hh2
                    have hgb : w.heap.size ≤ gb := by have := HD.out.2.2.2.2 _ (HZ.out.2.2.1 _ hgw2); omega
                    refine ⟨by rw [← h2]; exact h1, ?_, fun s hs hs2 => ?_⟩
                    · have h3 : Below w.heap.size wa w6 := by
                        rw [HW6.out, HW5.out]
                        exact ((Below.refl _ _).setCell (p := ⟨gb, i3 * 6 + 5, none⟩) hgb _).setCell (p := ⟨gb, i3 * 6 + 4, none⟩) hgb _
                      exact (HB3.out.trans h3).trans HB4.out
                    · refine (hfr s (by have := HX6.out.1; have := HX4.out.2.2; omega) (fun h => hs2 (hinw s h))).trans ((HX6.out.2 s (fun e => hs2 (by rw [e]; exact hgw2))).trans (HO3.out.2 s hs hs2))
                  go_wp2_with fail
                  go_roundg (m1 - (i3 + 1))
                  case rel =>
                    have hsml := HM1.out.2
                    have hi3' : i3 < m1 := HLT3.out
                    exact ⟨i3 + 1, by omega, rfl, by refine congrArg _ ?_; unfold wrap64; omega, HR3.out.1, HR3.out.2.1, HR3.out.2.2⟩
                  case measure => rw [HG3.out]; have := HLT3.out; omega
            · have i1 : ¬ (i3 : Int) < (m1 : Int) := by omega
              have HR2 : Hid (At wa (.row 44 4 ((half plR rs (i2 + 1)).flatMap ruleC)) Sr (.slice (some ⟨ga, 0, none⟩) m d) ∧ Below w.heap.size W1 wa ∧ (∀ s, s < W1.heap.size → s ∉ Sr → wa.heap[s]? = W1.heap[s]?)) := by
                obtain ⟨hput, hh2, hina, hga1⟩ := HZ.out
                obtain ⟨hat, hfr⟩ := HO3.out
                rw [half_all _ _ _ (by have := HM1.out.1; omega)] at hat
                have h1 := hput wa _ (fun s hs hs2 => hfr s (by have := At.lt _ _ _ HO2.out.1 s hs; have := HX3.out.2.1; omega) hs2) hat
                have h2 : (half plR rs i2).set i2 ⟨r.name, r.params, r.alts.map plA, 0⟩ = half plR rs (i2 + 1) := hh2
                have hga : w.heap.size ≤ ga := by have := HD.out.2.2.2.2 _ HX3.out.2.2.2.2; omega
                refine ⟨by rw [← h2]; exact h1, ?_, fun s hs hs2 => ?_⟩
                · have h3 : Below w.heap.size wq w3 := by
                    rw [HW3.out]
                    exact (Below.refl _ _).setCell (p := ⟨ga, i2 * 4 + 3, none⟩) hga _
                  exact (HB2.out.trans h3).trans HB3.out
                · refine (hfr s (by have := HX3.out.2.1; have := HB2.out.size; omega) (fun h => hs2 (hina s h))).trans ((HX3.out.2.2.1 s (fun e => hs2 (by rw [e]; exact HX3.out.2.2.2.2))).trans (HO2.out.2 s hs hs2))
              go_wp2_with fail
              go_roundg (m - (i2 + 1))
              case rel =>
                have hsml := HN.out.2.2.2
                have hi2' : i2 < m := HLT2.out
                exact ⟨i2 + 1, by omega, rfl, by refine congrArg _ ?_; unfold wrap64; omega, HR2.out.1, HR2.out.2.1, HR2.out.2.2⟩
              case measure => rw [HG2.out]; have := HLT2.out; omega
        · have i1 : ¬ (i2 : Int) < (m : Int) := by omega
          obtain ⟨⟨q0, q1⟩, ⟨u0, u1⟩⟩ := two_facts HX2.out.2.1
          go_wp2_with fail
          refine bodyPost_ret (v := .agg #[.slice ao n c, .slice bo m d]) (by simp [results, Tryz.results10, go_sem, q0, q1]) rfl ?_
          have hlow := two_low w.heap.size wq (w.heap.size + 1) (.slice ao n c) (.slice bo m d) (by omega)
          have hfin : ∀ s : Nat, s ≠ w.heap.size + 1 → (two wq (w.heap.size + 1) (.slice ao n c) (.slice bo m d)).heap[s]? = wq.heap[s]? := fun s hs => two_same _ _ _ _ _ hs
          obtain ⟨hat, hfr⟩ := HO2.out
          rw [half_all _ _ _ (by have := HN.out.2.1; omega)] at hat
          have hd1 := H1.out.1.same (w' := wq) _ _ _ (fun s hs => hfr s (At.lt _ _ _ H1.out.1 s hs) (HD.out.2.2.1 s hs))
          refine ⟨[.slice ao n c, .slice bo m d], Sd ++ Sr, rfl, text_close (x := plT ⟨ds, rs⟩) (hd1.same _ _ _ (fun s hs => hfin s (by have := HD.out.2.2.2.1 s hs; omega))) (hat.same _ _ _ (fun s hs => hfin s (by have := HD.out.2.2.2.2 s hs; omega))), ?_, ?_, (H1.out.2.2.2.2.1.trans HB2.out).trans hlow⟩
          · rw [List.nodup_append]
            exact ⟨HD.out.1, HD.out.2.1, fun s h1 t h2 e => HD.out.2.2.1 s h1 (by rw [e]; exact h2)⟩
          · intro s hs
            rcases List.mem_append.1 hs with h | h
            · have := HD.out.2.2.2.1 s h; omega
            · have := HD.out.2.2.2.2 s h; omega
end Go.Proofs.YtngimijiafnheaaGreat
