/- moved, as memory: a tree of the call's own whose kids are written over one by one, and what stays. -/
import Derived.Test.YtldedhfbpongmaaDoorNodPa
import Derived.Test.YtldedhfbpongmaaDoorNodPm
import Derived.Laws.Rows
set_option maxRecDepth 100000
namespace NodT
open Go Go.RowKit
set_option linter.unusedVariables false
/-- Only these blocks, and new ones, differ. -/
structure Moves (S : List Nat) (w w' : World) : Prop where
  os : w'.os = w.os
  tape : w'.tape = w.tape
  output : w'.output = w.output
  size : w.heap.size ≤ w'.heap.size
  block : ∀ b, b < w.heap.size → b ∉ S → w'.heap[b]? = w.heap[b]?
theorem Moves.refl (S : List Nat) (w : World) : Moves S w w := ⟨rfl, rfl, rfl, Nat.le_refl _, fun _ _ _ => rfl⟩
theorem Moves.undrew {S : List Nat} {w w2 : World} (h : Moves S w.drew w2) : Moves S w w2 := ⟨h.os, h.tape, h.output, h.size, h.block⟩
theorem Moves.trans {S : List Nat} {a b c : World} (h : Moves S a b) (k : Moves S b c) : Moves S a c :=
  ⟨k.os.trans h.os, k.tape.trans h.tape, k.output.trans h.output, Nat.le_trans h.size k.size, fun i hi hn => (k.block i (Nat.lt_of_lt_of_le hi h.size) hn).trans (h.block i hi hn)⟩
theorem Moves.more {S S' : List Nat} {a b : World} (h : Moves S a b) (hs : ∀ x ∈ S, x ∈ S') : Moves S' a b := ⟨h.os, h.tape, h.output, h.size, fun i hi hn => h.block i hi fun e => hn (hs i e)⟩
theorem Moves.of_below {S : List Nat} {a b : World} (h : Below a.heap.size a b) : Moves S a b := ⟨h.os, h.tape, h.output, h.size, fun i hi _ => h.block i hi⟩
theorem Moves.setCell {S : List Nat} {a b : World} (h : Moves S a b) {p : Addr} (hp : p.block ∈ S ∨ a.heap.size ≤ p.block) (v : Value) : Moves S a (b.setCell p v) :=
  ⟨h.os, h.tape, h.output, by simpa [World.setCell] using h.size, fun i hi hn => (Below.heap_setCell _ _ _ _ (by rintro rfl; rcases hp with hp | hp; exact hn hp; omega)).trans (h.block i hi hn)⟩
theorem Moves.alloc {S : List Nat} {a b : World} (h : Moves S a b) (o : Obj) : Moves S a (b.alloc o) :=
  ⟨h.os, h.tape, h.output, by simp; have := h.size; omega, fun i hi hn => (heap_alloc_old _ _ (by have := h.size; omega)).trans (h.block i hi hn)⟩
theorem Moves.below {S : List Nat} {a b : World} (h : Moves S a b) {B : Nat} (hB : B ≤ a.heap.size) (hS : ∀ x ∈ S, B ≤ x) : Below B a b := ⟨h.os, h.tape, h.output, h.size, fun i hi => h.block i (by omega) fun e => by have := hS i e; omega⟩
theorem own_set1 {w : World} {lo size n c g j : Nat} {T : TypeId} {xs : List Value} (h : w.ownsRow lo T size (.slice (some ⟨g, 0, none⟩) n c) n xs) (u : Value) : (w.setCell ⟨g, j, none⟩ u).ownsRow lo T size (.slice (some ⟨g, 0, none⟩) n c) n (xs.set j u) := by
  rcases h.2 with ⟨e0, _⟩ | ⟨g', cap, cur, e0, hb, hg, hn, hm, hs, ht⟩
  · cases e0
  · cases e0
    refine ⟨by simp [h.1], .inr ⟨g, c, cur.setIfInBounds j u, rfl, hb, ?_, hn, hm, by simpa using hs, ?_⟩⟩
    · exact heap_setCell_same w g j cur T u hg
    · rw [Array.toList_setIfInBounds, List.take_set, ht]
theorem cells_set (ks : List Nd) (i : Nat) (u : Nd) (hi : i < ks.length) : cells (ks.set i u) = ((((((cells ks).set (i * 5) (.int .u8 u.kind)).set (i * 5 + 1) (.string u.text)).set (i * 5 + 2) (.int .i64 u.num)).set (i * 5 + 3) (.int .i64 u.place)).set (i * 5 + 4) (.slice u.addr u.kids.length u.cap)) := by
  induction ks generalizing i with
  | nil => simp at hi
  | cons t ts ih =>
    cases i with
    | zero => simp [cells, Nd.cs, Nd.row]
    | succ i =>
      have := ih i (by simpa using hi)
      have e : ∀ j, (i + 1) * 5 + j = i * 5 + j + 1 + 1 + 1 + 1 + 1 := by intro j; omega
      have e0 := e 0
      simp only [Nat.add_zero] at e0
      simp only [List.set_cons_succ]
      rw [e 4, e 3, e 2, e 1, e0]
      show t.cs ++ cells (ts.set i u) = _
      rw [this]
      show _ = (((((t.cs ++ cells ts).set _ _).set _ _).set _ _).set _ _).set _ _
      simp [Nd.cs]
/-- Five stores over a kid. -/
def putN (w : World) (g o : Nat) (u : Nd) : World := ((((w.setCell ⟨g, o, none⟩ (.int .u8 u.kind)).setCell ⟨g, o + 1, none⟩ (.string u.text)).setCell ⟨g, o + 2, none⟩ (.int .i64 u.num)).setCell ⟨g, o + 3, none⟩ (.int .i64 u.place)).setCell ⟨g, o + 4, none⟩ (.slice u.addr u.kids.length u.cap)
theorem own_put {w : World} {lo n c g i : Nat} {T : TypeId} {ks : List Nd} (h : w.ownsRow lo T 5 (.slice (some ⟨g, 0, none⟩) n c) n (cells ks)) (hi : i < ks.length) (u : Nd) : (putN w g (i * 5) u).ownsRow lo T 5 (.slice (some ⟨g, 0, none⟩) n c) n (cells (ks.set i u)) := by
  rw [cells_set ks i u hi]
  unfold putN
  exact own_set1 (own_set1 (own_set1 (own_set1 (own_set1 h _) _) _) _) _
theorem putYtldedhfbpongmaaDoorheap (w : World) (g o : Nat) (u : Nd) (b : Nat) (hb : b ≠ g) : (putN w g o u).heap[b]? = w.heap[b]? := by
  unfold putN
  rw [Below.heap_setCell _ _ _ _ (by show b ≠ g; exact hb), Below.heap_setCell _ _ _ _ (by show b ≠ g; exact hb), Below.heap_setCell _ _ _ _ (by show b ≠ g; exact hb), Below.heap_setCell _ _ _ _ (by show b ≠ g; exact hb), Below.heap_setCell _ _ _ _ (by show b ≠ g; exact hb)]
theorem putYtldedhfbpongmaaDoorsize (w : World) (g o : Nat) (u : Nd) : (putN w g o u).heap.size = w.heap.size := by simp [putN, World.setCell]
theorem Moves.putN {S : List Nat} {a b : World} (h : Moves S a b) {g : Nat} (hg : g ∈ S) (o : Nat) (u : Nd) : Moves S a (putN b g o u) := by
  unfold NodT.putN
  exact ((((h.setCell (.inl hg) _).setCell (.inl hg) _).setCell (.inl hg) _).setCell (.inl hg) _).setCell (.inl hg) _
theorem blksL_apart {ks : List Nd} (h : (blksL ks).Nodup) : ∀ (i k : Nat) (x y : Nd), i ≠ k → ks[i]? = some x → ks[k]? = some y → ∀ b ∈ blks x, b ∉ blks y := by
  induction ks with
  | nil => intro i k x y _ hi; simp at hi
  | cons t ts ih =>
    rw [blksL] at h
    obtain ⟨h1, h2, h3⟩ := List.nodup_append.1 h
    intro i k x y hne hi hk b hx hy
    cases i with
    | zero =>
      cases k with
      | zero => exact hne rfl
      | succ k =>
        obtain rfl : t = x := by simpa using hi
        exact h3 b hx b (blksL_mem.2 ⟨y, List.mem_of_getElem? (by simpa using hk), hy⟩) rfl
    | succ i =>
      cases k with
      | zero =>
        obtain rfl : t = y := by simpa using hk
        exact h3 b hy b (blksL_mem.2 ⟨x, List.mem_of_getElem? (by simpa using hi), hx⟩) rfl
      | succ k => exact ih h2 i k x y (by omega) (by simpa using hi) (by simpa using hk) b hx hy
theorem nodup_kid {ks : List Nd} (h : (blksL ks).Nodup) {u : Nd} (hu : u ∈ ks) : (blks u).Nodup := by
  induction ks with
  | nil => cases hu
  | cons t ts ih =>
    rw [blksL] at h
    obtain ⟨h1, h2, h3⟩ := List.nodup_append.1 h
    rcases List.mem_cons.1 hu with rfl | hu
    · exact h1
    · exact ih h2 hu
open Ez in
theorem blks_mv : ∀ (t : Nd) (b : Int), blks (mv b t) = blks t := by
  refine Nd.rose fun t ih b => ?_
  rw [mv_eq, blks_eq, blks_eq]
  show t.addr.toList.map Addr.block ++ blksL (t.kids.map (mv (b + 1))) = _
  congr 1
  have : ∀ ks : List Nd, (∀ u ∈ ks, ∀ b, blks (mv b u) = blks u) → ∀ b, blksL (ks.map (mv b)) = blksL ks := by
    intro ks
    induction ks with
    | nil => intro _ _; rfl
    | cons k ks ih2 =>
      intro h b
      simp only [List.map_cons, blksL]
      rw [h k (List.mem_cons_self) b, ih2 (fun u hu => h u (List.mem_cons_of_mem _ hu)) b]
  exact this _ ih _
/-- The kids of a list when k of them are moved. -/
def mvK (b : Int) (ks : List Nd) (k : Nat) : List Nd := (ks.take k).map (Ez.mv b) ++ ks.drop k
theorem mvK_length (b : Int) (ks : List Nd) (k : Nat) : (mvK b ks k).length = ks.length := by simp [mvK]; omega
theorem mvK_zero (b : Int) (ks : List Nd) : mvK b ks 0 = ks := by simp [mvK]
theorem mvK_all (b : Int) (ks : List Nd) : mvK b ks ks.length = ks.map (Ez.mv b) := by simp [mvK]
theorem mvK_at (b : Int) (ks : List Nd) (k : Nat) (u : Nd) (h : ks[k]? = some u) : (mvK b ks k)[k]? = some u := by
  have := (List.getElem?_eq_some_iff.1 h).1
  unfold mvK
  rw [List.getElem?_append_right (by simp; omega)]
  simp [show min k ks.length = k by omega, h]
theorem mvK_set (b : Int) (ks : List Nd) (k : Nat) (u : Nd) (h : ks[k]? = some u) : (mvK b ks k).set k (Ez.mv b u) = mvK b ks (k + 1) := by
  have hl := (List.getElem?_eq_some_iff.1 h).1
  have h2 : ks.drop k = u :: ks.drop (k + 1) := by rw [List.drop_eq_getElem_cons hl, (List.getElem?_eq_some_iff.1 h).2]
  unfold mvK
  rw [List.set_append_right _ _ (by simp; omega), h2, List.take_add_one, h]
  simp [show min k ks.length = k by omega]
theorem blksL_mvK (b : Int) (ks : List Nd) (k : Nat) : blksL (mvK b ks k) = blksL ks := by
  have : ∀ l : List Nd, blksL (l.map (Ez.mv b)) = blksL l := by
    intro l
    induction l with
    | nil => rfl
    | cons t ts ih => simp only [List.map_cons, blksL, ih, blks_mv]
  unfold mvK
  rw [blksL_append, this, ← blksL_append, List.take_append_drop]
/-- k kids moved. -/
structure MV (T : TypeId) (t : Nd) (b : Int) (lo : Nat) (w : World) (k : Nat) (wr : World) : Prop where
  own : wr.ownsRow lo T 5 (.slice t.addr t.kids.length t.cap) t.kids.length (cells (mvK b t.kids k))
  each : ∀ (i : Nat) (u : Nd), (mvK b t.kids k)[i]? = some u → Own wr T lo u
  touch : Moves (blks t) w wr
theorem MV.start {T : TypeId} {t : Nd} {lo : Nat} {w w1 : World} (b : Int) (h : Own w T lo t) (hw : Moves (blks t) w w1) (hs : ∀ x ∈ blks t, w1.heap[x]? = w.heap[x]?) : MV T t b lo w 0 w1 := by
  have h1 := h.keep hs
  exact ⟨by rw [mvK_zero]; exact h1.row, fun i u hu => h1.kid (by rw [mvK_zero] at hu; exact List.mem_of_getElem? hu), hw⟩
theorem MV.step {T : TypeId} {t u : Nd} {b : Int} {lo k g : Nat} {w wr w2 : World} (h : MV T t b lo w k wr) (hn : (blks t).Nodup) (hu : t.kids[k]? = some u) (hg : t.addr = some ⟨g, 0, none⟩) (hl : ∀ x ∈ blks t, x < w.heap.size)
    (ho : Own w2 T lo (Ez.mv b u)) (ht : Moves (blks u) wr w2) : MV T t b lo w (k + 1) (putN w2 g (k * 5) (Ez.mv b u)) := by
  rw [blks_eq, hg] at hn
  obtain ⟨n1, n2, n3⟩ := List.nodup_append.1 hn
  have hsz := h.touch.size
  have hkl := (List.getElem?_eq_some_iff.1 hu).1
  have hum := List.mem_of_getElem? hu
  have hgt : g ∈ blks t := by rw [blks_eq, hg]; simp
  have hut : ∀ x ∈ blks u, x ∈ blks t := fun x hx => by rw [blks_eq]; exact List.mem_append_right _ (blksL_mem.2 ⟨u, hum, hx⟩)
  have hgu : g ∉ blksL t.kids := fun e => n3 g (by simp) g e rfl
  have hgk : ∀ y ∈ mvK b t.kids (k + 1), g ∉ blks y := fun y hy e => hgu (by rw [← blksL_mvK b t.kids (k + 1)]; exact blksL_mem.2 ⟨y, hy, e⟩)
  refine ⟨?_, fun i y hy => ?_, ?_⟩
  · have h1 := h.own
    rw [hg] at h1 ⊢
    rw [← mvK_set b t.kids k u hu]
    refine own_put (row_keep h1 fun c hc => ?_) (by rw [mvK_length]; exact hkl) _
    obtain rfl : g = c := by simpa [Value.ownBlock] using hc
    exact ht.block g (by have := hl g hgt; omega) fun e => hgu (blksL_mem.2 ⟨u, hum, e⟩)
  · have hgy := hgk y (List.mem_of_getElem? hy)
    by_cases hik : i = k
    · subst hik
      rw [← mvK_set b t.kids i u hu, List.getElem?_set] at hy
      simp only [if_true, mvK_length, if_pos hkl] at hy
      obtain rfl := Option.some.inj hy
      exact ho.keep fun c hc => putYtldedhfbpongmaaDoorheap _ _ _ _ _ fun e => hgy (by rw [← e]; exact hc)
    · have hy0 : (mvK b t.kids k)[i]? = some y := by
        rw [← mvK_set b t.kids k u hu, List.getElem?_set_ne (by omega)] at hy
        exact hy
      refine (h.each i y hy0).keep fun c hc => ?_
      have hcb : c ∈ blks t := by
        rw [blks_eq]
        refine List.mem_append_right _ ?_
        rw [← blksL_mvK b t.kids k]
        exact blksL_mem.2 ⟨y, List.mem_of_getElem? hy0, hc⟩
      rw [putYtldedhfbpongmaaDoorheap _ _ _ _ _ (fun e => hgy (by rw [← e]; exact hc))]
      refine ht.block c (by have := hl c hcb; omega) ?_
      have hnk : (blksL (mvK b t.kids k)).Nodup := by rw [blksL_mvK]; exact n2
      exact blksL_apart hnk i k y u hik hy0 (mvK_at b t.kids k u hu) c hc
  · exact (h.touch.trans (ht.more hut)).putN hgt _ _
end NodT
