/- Rows that lie apart, and what has grown out of them: an outer row, the inner ones, each in a block of its own, what each has grown into. -/
import Derived.WalkKit
import Derived.Below
import Derived.Laws.OwnMore
import Derived.Laws.AppendOwn
import Derived.ArgAppend
import Derived.OwnWalk
set_option maxRecDepth 100000
namespace FlT
open Go Go.RowKit
set_option linter.unusedVariables false
set_option linter.unusedSimpArgs false
/-- Only these blocks, and new ones, differ. -/
structure Moves (S : Nat → Prop) (w w' : World) : Prop where
  os : w'.os = w.os
  tape : w'.tape = w.tape
  output : w'.output = w.output
  size : w.heap.size ≤ w'.heap.size
  block : ∀ b, b < w.heap.size → ¬ S b → w'.heap[b]? = w.heap[b]?
theorem Moves.refl (S : Nat → Prop) (w : World) : Moves S w w := ⟨rfl, rfl, rfl, Nat.le_refl _, fun _ _ _ => rfl⟩
theorem Moves.trans {S : Nat → Prop} {a b c : World} (h : Moves S a b) (k : Moves S b c) : Moves S a c :=
  ⟨k.os.trans h.os, k.tape.trans h.tape, k.output.trans h.output, Nat.le_trans h.size k.size, fun i hi hn => (k.block i (Nat.lt_of_lt_of_le hi h.size) hn).trans (h.block i hi hn)⟩
theorem Moves.of_below {S : Nat → Prop} {a b : World} (h : Below a.heap.size a b) : Moves S a b := ⟨h.os, h.tape, h.output, h.size, fun i hi _ => h.block i hi⟩
theorem Moves.setCell {S : Nat → Prop} {a b : World} (h : Moves S a b) {p : Addr} (hp : S p.block ∨ a.heap.size ≤ p.block) (v : Value) : Moves S a (b.setCell p v) :=
  ⟨h.os, h.tape, h.output, by simpa [World.setCell] using h.size, fun i hi hn => (Below.heap_setCell _ _ _ _ (by rintro rfl; rcases hp with hp | hp; exact hn hp; omega)).trans (h.block i hi hn)⟩
theorem Moves.grown {S : Nat → Prop} {a b c : World} {row : Option Nat} (h : Moves S a b) (hg : b.grownBy c row) (hp : ∀ r, row = some r → S r ∨ a.heap.size ≤ r) : Moves S a c :=
  ⟨hg.os.trans h.os, hg.tape.trans h.tape, hg.output.trans h.output, Nat.le_trans h.size hg.size, fun i hi hn => (hg.block i (Nat.lt_of_lt_of_le hi h.size) (fun e => by rcases hp i e.symm with h1 | h1; exact hn h1; omega)).trans (h.block i hi hn)⟩
theorem Moves.mono {S S' : Nat → Prop} {a b : World} (h : Moves S a b) (hs : ∀ i, S i → S' i) : Moves S' a b := ⟨h.os, h.tape, h.output, h.size, fun i hi hn => h.block i hi fun k => hn (hs i k)⟩
theorem row_keep {w w' : World} {lo : Nat} {T : TypeId} {size n : Nat} {v : Value} {xs : List Value} (h : w.ownsRow lo T size v n xs) (hk : ∀ b, v.ownBlock = some b → w'.heap[b]? = w.heap[b]?) : w'.ownsRow lo T size v n xs := by
  refine ⟨h.1, ?_⟩
  rcases h.2 with h1 | ⟨g, cap, cur, rfl, hb, hg, hr⟩
  · exact .inl h1
  · exact .inr ⟨g, cap, cur, rfl, hb, (hk g rfl).trans hg, hr⟩
theorem own_mono {w : World} {lo lo' : Nat} {T : TypeId} {size n : Nat} {v : Value} {xs : List Value} (h : w.ownsRow lo T size v n xs) (hl : lo' ≤ lo) : w.ownsRow lo' T size v n xs := by
  refine ⟨h.1, ?_⟩
  rcases h.2 with h1 | ⟨g, cap, cur, rfl, hb, hr⟩
  · exact .inl h1
  · exact .inr ⟨g, cap, cur, rfl, by omega, hr⟩
def row (r c n : Nat) : Value := .slice (some ⟨r, 0, none⟩) n c
/-- What an append left: written in place, or a new row. -/
def Grown (T : TypeId) (base s : Nat) (v : Value) (n : Nat) (xs : List Value) (m : Nat) (news : List Value) (v' : Value) (w w' : World) : Prop :=
  w'.ownsRow base T s v' (n + m) (xs ++ news) ∧ ((∃ b c, v = row b c n ∧ v' = row b c (n + m) ∧ w.grownBy w' (some b)) ∨ (w.grownBy w' none ∧ ∀ b, v'.ownBlock = some b → w.heap.size ≤ b))
/-- The rows, by themselves. -/
structure FL (To T : TypeId) (base s g cg N : Nat) (LV : Nat → Value) (n : Nat → Nat) (xs : Nat → List Value) (w : World) : Prop where
  out : w.ownsRow base To 1 (row g cg N) N ((List.range N).map LV)
  ins : ∀ k, k < N → w.ownsRow base T s (LV k) (n k) (xs k)
  ne : ∀ k, k < N → ∀ b, (LV k).ownBlock = some b → b ≠ g
  inj : ∀ k j, k < N → j < N → k ≠ j → ∀ b, (LV k).ownBlock = some b → (LV j).ownBlock ≠ some b
section
variable {To T : TypeId} {base s g cg N : Nat} {LV GV GC : Nat → Value} {n gn : Nat → Nat} {xs ys : Nat → List Value} {w w0 : World}
theorem own_shape {v : Value} {m : Nat} {l : List Value} (h : w.ownsRow base T s v m l) : ∃ a c, v = .slice a m c ∧ (∀ p, a = some p → ∃ r, p = ⟨r, 0, none⟩) ∧ (0 < m → a ≠ none) ∧ (a = none → c = 0) ∧ m ≤ c := by
  rcases h.2 with ⟨rfl, rfl⟩ | ⟨r, c, cur, rfl, _, _, hc, _⟩
  · exact ⟨none, 0, rfl, fun p e => by simp at e, fun e => absurd e (by omega), fun _ => rfl, Nat.le_refl _⟩
  · exact ⟨_, c, rfl, fun p e => ⟨r, by simpa using e.symm⟩, fun _ => by simp, fun e => by simp at e, hc⟩
theorem own_head {v : Value} {m : Nat} {l : List Value} (h : w.ownsRow base T s v m l) (hm : 0 < m) : ∃ r c, v = row r c m ∧ base ≤ r ∧ r < w.heap.size ∧ m ≤ c ∧ c ≤ maxLen := by
  rcases h.2 with ⟨rfl, rfl⟩ | ⟨r, c, cur, rfl, hb, hg, hc, hx, _⟩
  · omega
  · exact ⟨r, c, rfl, hb, (Array.getElem?_eq_some_iff.1 hg).1, hc, hx⟩
theorem FL.outCell (h : FL To T base s g cg N LV n xs w) {k : Nat} (hk : k < N) : w.cell? ⟨g, k, none⟩ = some (LV k) := by
  have := h.out.cellAt k (by omega)
  rw [this, List.getElem?_map, List.getElem?_range hk]
  rfl
theorem FL.lowg (h : FL To T base s g cg N LV n xs w) : base ≤ g ∧ g < w.heap.size := h.out.lt g rfl
theorem FL.keep {w' : World} (h : FL To T base s g cg N LV n xs w) (hb : ∀ b, base ≤ b → b < w.heap.size → w'.heap[b]? = w.heap[b]?) : FL To T base s g cg N LV n xs w' :=
  ⟨row_keep h.out fun b e => by have := h.out.lt b e; exact hb b this.1 this.2, fun k hk => row_keep (h.ins k hk) fun b e => by have := (h.ins k hk).lt b e; exact hb b this.1 this.2, h.ne, h.inj⟩
theorem FL.later {w' : World} (h : FL To T base s g cg N LV n xs w) (hb : Below w.heap.size w w') : FL To T base s g cg N LV n xs w' := h.keep fun b _ hlt => hb.block b hlt
theorem FL.store {r c : Nat} (h : FL To T base s g cg N LV n xs w) {k i : Nat} (hk : k < N) (hv : LV k = row r c (n k)) (v : Value) : FL To T base s g cg N LV n (fun j => if j = k then (xs k).set i v else xs j) (w.setCell ⟨r, i, none⟩ v) := by
  have hs : ∀ b, b ≠ r → (w.setCell ⟨r, i, none⟩ v).heap[b]? = w.heap[b]? := fun b hb => Below.heap_setCell _ _ _ _ (by show b ≠ r; exact hb)
  refine ⟨row_keep h.out fun b e => hs b (fun e2 => h.ne k hk r (by rw [hv]; rfl) ?_), fun j hj => ?_, h.ne, h.inj⟩
  · have : g = b := by simpa [row, Value.ownBlock] using e
    rw [this, e2]
  · by_cases e : j = k
    · subst e
      simp only [if_true]
      have := h.ins j hj
      rw [hv] at this ⊢
      exact (this.stored i v).1
    · simp only [if_neg e]
      refine row_keep (h.ins j hj) fun b e2 => hs b fun e3 => ?_
      subst e3
      exact h.inj j k hj hk e b e2 (by rw [hv]; rfl)
theorem FL.cast {xs' : Nat → List Value} (h : FL To T base s g cg N LV n xs w) (he : ∀ k, k < N → xs' k = xs k) : FL To T base s g cg N LV n xs' w := ⟨h.out, fun k hk => by rw [he k hk]; exact h.ins k hk, h.ne, h.inj⟩
end
/-- A row's block, or the block of what it has grown into. -/
def InF (LV GV : Nat → Value) (k b : Nat) : Prop := (LV k).ownBlock = some b ∨ (GV k).ownBlock = some b
def upd {α : Type} (f : Nat → α) (k : Nat) (x : α) : Nat → α := fun j => if j = k then x else f j
theorem upd_same {α : Type} (f : Nat → α) (k : Nat) (x : α) : upd f k x k = x := by simp [upd]
theorem upd_other {α : Type} (f : Nat → α) (k : Nat) (x : α) {j : Nat} (h : j ≠ k) : upd f k x j = f j := by simp [upd, h]
/-- The rows, what they have grown into (GV), and the row h that keeps what they have grown into (GC: what it says now). -/
structure FG (To T : TypeId) (base s g cg N h : Nat) (LV GV GC : Nat → Value) (n gn : Nat → Nat) (xs ys : Nat → List Value) (w0 w : World) : Prop where
  out : w.ownsRow base To 1 (row g cg N) N ((List.range N).map LV)
  gout : w.ownsRow base To 1 (row h N N) N ((List.range N).map GC)
  ins : ∀ k, k < N → w.ownsRow base T s (LV k) (n k) (xs k)
  gins : ∀ k, k < N → w.ownsRow base T s (GV k) (gn k) (ys k)
  gh : h ≠ g
  ne : ∀ k, k < N → ∀ b, InF LV GV k b → b ≠ g ∧ b ≠ h
  inj : ∀ k j, k < N → j < N → k ≠ j → ∀ b, InF LV GV k b → ¬ InF LV GV j b
  far : ∀ k, k < N → ∀ b, (GV k).ownBlock = some b → (LV k).ownBlock = some b ∨ w0.heap.size ≤ b
  hfar : w0.heap.size ≤ h
  hbase : base ≤ w0.heap.size
  mv : Moves (fun b => ∃ k, k < N ∧ (LV k).ownBlock = some b) w0 w
section
variable {To T : TypeId} {base s g cg N h : Nat} {LV GV GC : Nat → Value} {n gn : Nat → Nat} {xs ys : Nat → List Value} {w w0 : World}
theorem FG.outCell (H : FG To T base s g cg N h LV GV GC n gn xs ys w0 w) {k : Nat} (hk : k < N) : w.cell? ⟨g, k, none⟩ = some (LV k) := by
  have := H.out.cellAt k (by omega)
  rw [this, List.getElem?_map, List.getElem?_range hk]
  rfl
theorem FG.gsCell (H : FG To T base s g cg N h LV GV GC n gn xs ys w0 w) {k : Nat} (hk : k < N) : w.cell? ⟨h, k, none⟩ = some (GC k) := by
  have := H.gout.cellAt k (by omega)
  rw [this, List.getElem?_map, List.getElem?_range hk]
  rfl
theorem FG.gsFree (H : FG To T base s g cg N h LV GV GC n gn xs ys w0 w) (k : Nat) : w.frozen? ⟨h, k, none⟩ = false := H.gout.frozenAt k
theorem FG.inCell (H : FG To T base s g cg N h LV GV GC n gn xs ys w0 w) {k i r c : Nat} (hk : k < N) (hv : LV k = row r c (n k)) (hi : i < n k * s) : w.cell? ⟨r, i, none⟩ = (xs k)[i]? := by
  have := H.ins k hk
  rw [hv] at this
  exact this.cellAt i hi
theorem FG.gCell (H : FG To T base s g cg N h LV GV GC n gn xs ys w0 w) {k i r c : Nat} (hk : k < N) (hv : GV k = row r c (gn k)) (hi : i < gn k * s) : w.cell? ⟨r, i, none⟩ = (ys k)[i]? := by
  have := H.gins k hk
  rw [hv] at this
  exact this.cellAt i hi
theorem FG.sizes (H : FG To T base s g cg N h LV GV GC n gn xs ys w0 w) : base ≤ w.heap.size := Nat.le_trans H.hbase H.mv.size
theorem FG.keep {w' : World} (H : FG To T base s g cg N h LV GV GC n gn xs ys w0 w) (hb : Below w.heap.size w w') : FG To T base s g cg N h LV GV GC n gn xs ys w0 w' :=
  ⟨row_keep H.out fun b e => hb.block b (H.out.lt b e).2, row_keep H.gout fun b e => hb.block b (H.gout.lt b e).2, fun k hk => row_keep (H.ins k hk) fun b e => hb.block b ((H.ins k hk).lt b e).2,
   fun k hk => row_keep (H.gins k hk) fun b e => hb.block b ((H.gins k hk).lt b e).2, H.gh, H.ne, H.inj, H.far, H.hfar, H.hbase, H.mv.trans (Moves.of_below hb)⟩
theorem FG.castc {GC' : Nat → Value} (H : FG To T base s g cg N h LV GV GC n gn xs ys w0 w) (he : ∀ k, k < N → GC' k = GC k) : FG To T base s g cg N h LV GV GC' n gn xs ys w0 w := by
  have e : (List.range N).map GC' = (List.range N).map GC := List.map_congr_left fun k hk => he k (List.mem_range.1 hk)
  exact ⟨H.out, by rw [e]; exact H.gout, H.ins, H.gins, H.gh, H.ne, H.inj, H.far, H.hfar, H.hbase, H.mv⟩
/-- What a row has grown into is put into the row of those. -/
theorem FG.put (H : FG To T base s g cg N h LV GV GC n gn xs ys w0 w) {k : Nat} (hk : k < N) (v : Value) : FG To T base s g cg N h LV GV (upd GC k v) n gn xs ys w0 (w.setCell ⟨h, k, none⟩ v) := by
  have hs : ∀ b, b ≠ h → (w.setCell ⟨h, k, none⟩ v).heap[b]? = w.heap[b]? := fun b hb => Below.heap_setCell _ _ _ _ (by show b ≠ h; exact hb)
  have e : (List.range N).map (upd GC k v) = ((List.range N).map GC).set k v := by
    apply List.ext_getElem?
    intro i
    rw [List.getElem?_set]
    by_cases hi : i < N
    · by_cases hik : k = i
      · subst hik
        simp [hi, upd]
      · simp [hi, upd, hik, Ne.symm hik]
    · have : ¬ k = i := by omega
      simp [hi, this]
  refine ⟨row_keep H.out fun b eb => hs b fun e2 => ?_, by rw [e]; exact (H.gout.stored k v).1, fun j hj => row_keep (H.ins j hj) fun b eb => hs b (H.ne j hj b (.inl eb)).2, fun j hj => row_keep (H.gins j hj) fun b eb => hs b (H.ne j hj b (.inr eb)).2,
    H.gh, H.ne, H.inj, H.far, H.hfar, H.hbase, H.mv.setCell (.inr H.hfar) v⟩
  have : g = b := by simpa [row, Value.ownBlock] using eb
  exact H.gh (by rw [this, e2])
/-- One of them grows. -/
theorem FG.grow {w' : World} {v' : Value} {m : Nat} {news : List Value} (H : FG To T base s g cg N h LV GV GC n gn xs ys w0 w) {k : Nat} (hk : k < N) (hs : 0 < s) (hle : ∀ b, (LV k).ownBlock = some b → (GV k).ownBlock = some b → n k ≤ gn k)
    (hG : Grown T base s (GV k) (gn k) (ys k) m news v' w w') : FG To T base s g cg N h LV (upd GV k v') GC n (upd gn k (gn k + m)) xs (upd ys k (ys k ++ news)) w0 w' := by
  obtain ⟨hown, hG⟩ := hG
  have hw : w.heap.size ≤ w'.heap.size := by rcases hG with ⟨b, c, _, _, h1⟩ | ⟨h1, _⟩ <;> exact h1.size
  have hkeep : ∀ b, b < w.heap.size → (GV k).ownBlock ≠ some b → w'.heap[b]? = w.heap[b]? := by
    intro b hb hne
    rcases hG with ⟨b', c, e1, _, h1⟩ | ⟨h1, _⟩
    · exact h1.block b hb fun e => hne (by rw [e1, e]; rfl)
    · exact h1.block b hb (by simp)
  have hInF : ∀ j b, j < N → InF LV (upd GV k v') j b → InF LV GV j b ∨ (j = k ∧ w.heap.size ≤ b) := by
    intro j b hj hb
    rcases hb with hb | hb
    · exact .inl (.inl hb)
    · by_cases e : j = k
      · subst e
        rw [upd_same] at hb
        rcases hG with ⟨b', c, e1, e2, _⟩ | ⟨_, h2⟩
        · rw [e2] at hb
          exact .inl (.inr (by rw [e1]; exact hb))
        · exact .inr ⟨rfl, h2 b hb⟩
      · rw [upd_other _ _ _ e] at hb
        exact .inl (.inr hb)
  have hlt : ∀ j b, j < N → InF LV GV j b → b < w.heap.size := by
    intro j b hj hb
    rcases hb with hb | hb
    · exact ((H.ins j hj).lt b hb).2
    · exact ((H.gins j hj).lt b hb).2
  refine ⟨row_keep H.out fun b eb => hkeep b (H.out.lt b eb).2 fun e => (H.ne k hk b (.inr e)).1 ?_, row_keep H.gout fun b eb => hkeep b (H.gout.lt b eb).2 fun e => (H.ne k hk b (.inr e)).2 ?_, fun j hj => ?_, fun j hj => ?_, H.gh, fun j hj b hb => ?_, fun i j hi hj hij b hb hb2 => ?_, fun j hj b hb => ?_, H.hfar, H.hbase, ?_⟩
  · simpa [row, Value.ownBlock] using eb.symm
  · simpa [row, Value.ownBlock] using eb.symm
  · by_cases e : j = k
    · subst e
      rcases hG with ⟨b, c, e1, e2, h1⟩ | ⟨h1, _⟩
      · by_cases hb : (LV j).ownBlock = some b
        · have hn := hle b hb (by rw [e1]; rfl)
          have hi := H.ins j hj
          have hg := H.gins j hj
          refine ⟨hi.1, ?_⟩
          rcases hi.2 with ⟨hv, hz⟩ | ⟨r, c1, cur, hv, hbr, hr, hnc, hcm, hcs, htk⟩
          · exact .inl ⟨hv, hz⟩
          · have hrb : r = b := by rw [hv] at hb; simpa [Value.ownBlock] using hb
            subst hrb
            rw [e1] at hg
            rw [e2] at hown
            rcases hg.2 with ⟨hv2, _⟩ | ⟨r2, c2, cur2, hv2, _, hr2, hnc2, _, hcs2, htk2⟩
            · simp [row] at hv2
            · simp only [row, Value.slice.injEq, Option.some.injEq, Addr.mk.injEq, and_true, true_and] at hv2
              obtain ⟨rfl, rfl⟩ := hv2
              rcases hown.2 with ⟨hv3, _⟩ | ⟨r3, c3, cur3, hv3, _, hr3, hnc3, _, hcs3, htk3⟩
              · simp [row] at hv3
              · simp only [row, Value.slice.injEq, Option.some.injEq, Addr.mk.injEq, and_true, true_and] at hv3
                obtain ⟨rfl, rfl⟩ := hv3
                rw [hr] at hr2
                obtain rfl : cur = cur2 := by simpa using hr2
                refine .inr ⟨r, c1, cur3, hv, hbr, hr3, hnc, hcm, by omega, ?_⟩
                have hle2 : n j * s ≤ gn j * s := Nat.mul_le_mul_right _ hn
                have hle3 : n j * s ≤ (gn j + m) * s := Nat.mul_le_mul_right _ (by omega)
                have a1 : cur3.toList.take (n j * s) = (cur3.toList.take ((gn j + m) * s)).take (n j * s) := by rw [List.take_take, Nat.min_eq_left hle3]
                have a2 : cur.toList.take (n j * s) = (cur.toList.take (gn j * s)).take (n j * s) := by rw [List.take_take, Nat.min_eq_left hle2]
                rw [a1, htk3, ← htk, a2, htk2, List.take_append_of_le_length (by rw [hg.1]; exact hle2)]
        · exact row_keep (H.ins j hj) fun b' eb => h1.block b' ((H.ins j hj).lt b' eb).2 fun e => hb (by rw [eb, e])
      · exact row_keep (H.ins j hj) fun b' eb => h1.block b' ((H.ins j hj).lt b' eb).2 (by simp)
    · exact row_keep (H.ins j hj) fun b eb => hkeep b ((H.ins j hj).lt b eb).2 fun e2 => H.inj j k hj hk e b (.inl eb) (.inr e2)
  · by_cases e : j = k
    · subst e
      rw [upd_same, upd_same, upd_same]
      exact hown
    · rw [upd_other _ _ _ e, upd_other _ _ _ e, upd_other _ _ _ e]
      exact row_keep (H.gins j hj) fun b eb => hkeep b ((H.gins j hj).lt b eb).2 fun e2 => H.inj j k hj hk e b (.inr eb) (.inr e2)
  · rcases hInF j b hj hb with h1 | ⟨_, h1⟩
    · exact H.ne j hj b h1
    · have h2 := (H.out.lt g rfl).2
      have h3 := (H.gout.lt h rfl).2
      exact ⟨by omega, by omega⟩
  · rcases hInF i b hi hb with h1 | ⟨e1, h1⟩ <;> rcases hInF j b hj hb2 with h2 | ⟨e2, h2⟩
    · exact H.inj i j hi hj hij b h1 h2
    · have := hlt i b hi h1
      omega
    · have := hlt j b hj h2
      omega
    · exact hij (e1.trans e2.symm)
  · by_cases e : j = k
    · subst e
      rw [upd_same] at hb
      rcases hG with ⟨b', c, e1, e2, _⟩ | ⟨_, h2⟩
      · rw [e2] at hb
        exact H.far j hj b (by rw [e1]; exact hb)
      · exact .inr (Nat.le_trans H.mv.size (h2 b hb))
    · rw [upd_other _ _ _ e] at hb
      exact H.far j hj b hb
  · rcases hG with ⟨b', c, e1, e2, h1⟩ | ⟨h1, _⟩
    · refine H.mv.grown h1 fun r hr => ?_
      have hr' : b' = r := by simpa using hr
      subst hr'
      rcases H.far k hk b' (by rw [e1]; rfl) with h2 | h2
      · exact .inl ⟨k, hk, h2⟩
      · exact .inr h2
    · exact H.mv.grown h1 (by simp)
/-- What has grown is let go: the row itself stands for it. -/
theorem FG.back (H : FG To T base s g cg N h LV GV GC n gn xs ys w0 w) {k : Nat} (hk : k < N) : FG To T base s g cg N h LV (upd GV k (LV k)) GC n (upd gn k (n k)) xs (upd ys k (xs k)) w0 w := by
  have hI : ∀ j b, j < N → InF LV (upd GV k (LV k)) j b → InF LV GV j b := by
    intro j b hj hb
    rcases hb with hb | hb
    · exact .inl hb
    · by_cases e : j = k
      · subst e; rw [upd_same] at hb; exact .inl hb
      · rw [upd_other _ _ _ e] at hb; exact .inr hb
  refine ⟨H.out, H.gout, H.ins, fun j hj => ?_, H.gh, fun j hj b hb => H.ne j hj b (hI j b hj hb), fun i j hi hj hij b hb hb2 => H.inj i j hi hj hij b (hI i b hi hb) (hI j b hj hb2), fun j hj b hb => ?_, H.hfar, H.hbase, H.mv⟩
  · by_cases e : j = k
    · subst e; rw [upd_same, upd_same, upd_same]; exact H.ins j hj
    · rw [upd_other _ _ _ e, upd_other _ _ _ e, upd_other _ _ _ e]; exact H.gins j hj
  · by_cases e : j = k
    · subst e; rw [upd_same] at hb; exact .inl hb
    · rw [upd_other _ _ _ e] at hb; exact H.far j hj b hb
/-- The row of what they will have grown into is new, and empty. -/
theorem FL.start (H : FL To T base s g cg N LV n xs w) {w' : World} (hm : Moves (fun b => ∃ k, k < N ∧ (LV k).ownBlock = some b) w0 w) (hB : base ≤ w0.heap.size)
    (hown : w'.ownsRow w.heap.size To 1 (row w.heap.size N N) N ((List.range N).map fun _ => .slice none 0 0)) (hg : w.grownBy w' none) :
    FG To T base s g cg N w.heap.size LV (fun _ => .slice none 0 0) (fun _ => .slice none 0 0) n (fun _ => 0) xs (fun _ => []) w0 w' := by
  have hk : ∀ b, b < w.heap.size → w'.heap[b]? = w.heap[b]? := fun b hb => hg.block b hb (by simp)
  have hlow : ∀ k b, k < N → InF LV (fun _ => .slice none 0 0) k b → (LV k).ownBlock = some b := by
    intro k b hk hb
    rcases hb with hb | hb
    · exact hb
    · simp [Value.ownBlock] at hb
  have hsz := hm.size
  refine ⟨row_keep H.out fun b e => hk b (H.out.lt b e).2, ?_, fun k hk' => row_keep (H.ins k hk') fun b e => hk b ((H.ins k hk').lt b e).2, fun k _ => World.ownsRow_nil _ _ _ _, ?_, fun k hk' b hb => ⟨H.ne k hk' b (hlow k b hk' hb), ?_⟩, fun i j hi hj hij b hb hb2 => H.inj i j hi hj hij b (hlow i b hi hb) (hlow j b hj hb2), fun k _ b hb => by simp [Value.ownBlock] at hb, hsz, hB, hm.grown hg (by simp)⟩
  · refine ⟨hown.1, ?_⟩
    rcases hown.2 with h1 | ⟨r, c, cur, e, hb, hr⟩
    · exact .inl h1
    · exact .inr ⟨r, c, cur, e, by omega, hr⟩
  · have := H.lowg.2
    omega
  · have := ((H.ins k hk').lt b (hlow k b hk' hb)).2
    omega
end
/-- Marks of a row: those of its first m places. -/
def mks (M : Nat → Nat → List Value) (k m : Nat) : List Value := (List.range m).flatMap (M k)
theorem mks_succ (M : Nat → Nat → List Value) (k m : Nat) : mks M k (m + 1) = mks M k m ++ M k m := by simp [mks, List.range_succ]
theorem mks_zero (M : Nat → Nat → List Value) (k : Nat) : mks M k 0 = [] := rfl
theorem mks_len (M : Nat → Nat → List Value) (s : Nat) (hM : ∀ k i, (M k i).length = s) (k m : Nat) : (mks M k m).length = m * s := by
  induction m with
  | zero => simp [mks]
  | succ m ih => rw [mks_succ, List.length_append, ih, hM, Nat.succ_mul]
theorem mks_at (M : Nat → Nat → List Value) (s : Nat) (hM : ∀ k i, (M k i).length = s) (k m i j : Nat) (hi : i < m) (hj : j < s) : (mks M k m)[i * s + j]? = (M k i)[j]? := by
  induction m with
  | zero => omega
  | succ m ih =>
    rw [mks_succ]
    by_cases e : i < m
    · have h2 : (i + 1) * s ≤ m * s := Nat.mul_le_mul_right _ e
      rw [Nat.succ_mul] at h2
      rw [List.getElem?_append_left (by rw [mks_len M s hM]; omega)]
      exact ih e
    · obtain rfl : i = m := by omega
      rw [List.getElem?_append_right (by rw [mks_len M s hM]; omega), mks_len M s hM]
      congr 1
      omega
/-- The first i places of row k marked. -/
def upto (M : Nat → Nat → List Value) (s k i : Nat) (l : List Value) : List Value := mks M k i ++ l.drop (i * s)
theorem upto_zero (M : Nat → Nat → List Value) (s k : Nat) (l : List Value) : upto M s k 0 l = l := by simp [upto, mks]
theorem upto_all (M : Nat → Nat → List Value) (s k n : Nat) (l : List Value) (h : l.length = n * s) : upto M s k n l = mks M k n := by
  unfold upto
  rw [List.drop_eq_nil_of_le (by omega), List.append_nil]
/-- Rows below k marked, and i places of row k. -/
def partM (M : Nat → Nat → List Value) (s : Nat) (n : Nat → Nat) (k i : Nat) (xs : Nat → List Value) : Nat → List Value := fun j => if j < k then mks M j (n j) else if j = k then upto M s k i (xs k) else xs j
theorem partM_next (M : Nat → Nat → List Value) (s : Nat) (n : Nat → Nat) (k : Nat) (xs : Nat → List Value) (h : (xs k).length = n k * s) (j : Nat) : partM M s n (k + 1) 0 xs j = partM M s n k (n k) xs j := by
  unfold partM
  rcases Nat.lt_trichotomy j k with e | e | e
  · rw [if_pos (by omega), if_pos e]
  · subst e
    simp only [show j < j + 1 by omega, Nat.lt_irrefl, if_true, if_false]
    rw [upto_all _ _ _ _ _ h]
  · simp only [show ¬ j < k + 1 by omega, show ¬ j < k by omega, show ¬ j = k by omega, if_false]
    split
    · rename_i e2
      rw [upto_zero, e2]
    · rfl
theorem partM_start (M : Nat → Nat → List Value) (s : Nat) (n : Nat → Nat) (xs : Nat → List Value) (j : Nat) : partM M s n 0 0 xs j = xs j := by
  unfold partM
  rw [if_neg (by omega)]
  split
  · rename_i e; rw [upto_zero, e]
  · rfl
theorem partM_all (M : Nat → Nat → List Value) (s : Nat) (n : Nat → Nat) (N : Nat) (xs : Nat → List Value) (j : Nat) (hj : j < N) : partM M s n N 0 xs j = mks M j (n j) := by
  unfold partM
  rw [if_pos hj]
theorem partM_here (M : Nat → Nat → List Value) (s : Nat) (n : Nat → Nat) (k i : Nat) (xs : Nat → List Value) : partM M s n k i xs k = upto M s k i (xs k) := by
  unfold partM
  rw [if_neg (by omega), if_pos rfl]
/-- Size one: one place more is marked. -/
theorem upto_set (m : Nat → Nat → Value) (k i : Nat) (l : List Value) (h : i < l.length) : (upto (fun k i => [m k i]) 1 k i l).set i (m k i) = upto (fun k i => [m k i]) 1 k (i + 1) l := by
  have h2 : l.drop i = l[i] :: l.drop (i + 1) := List.drop_eq_getElem_cons h
  have h4 : (mks (fun k i => [m k i]) k i).length = i := by rw [mks_len _ 1 (by simp)]; omega
  unfold upto
  simp only [Nat.mul_one]
  rw [List.set_append_right _ _ (by omega), h4, Nat.sub_self, h2, List.set_cons_zero, mks_succ, List.append_assoc]
  rfl
theorem mks_one (m : Nat → Nat → Value) (k n i : Nat) (h : i < n) : (mks (fun k i => [m k i]) k n)[i]? = some (m k i) := by
  have := mks_at (fun k i => [m k i]) 1 (by simp) k n i 0 h (by omega)
  simpa using this
end FlT
namespace Go
open Go.RowKit FlT
set_option linter.unusedVariables false
theorem run_append_two {P : Program} (w : World) (base : Nat) (t ty e : TypeId) (i : TypeInfo) (z : Value) (size bytes : Nat) (ht : P.underlying t = some (.slice e)) (hi : P.info? e = some i) (hz : i.zero = some z)
    (hsize : i.size = size) (hby : i.bytes = bytes) (hzs : z.cells.size = size) (hsz : 0 < size)
    (v : Value) (n : Nat) (xs : List Value) (hown : w.ownsRow base e size v n xs)
    (ad : Addr) (m c : Nat) (hm : 0 < m) (news : List Value) (hl : news.length = m * size) (hnews : ∀ j u, news[j]? = some u → w.cell? (ad.add j) = some u) (h1 : ∀ u ∈ news, u.oneCell' = true)
    (h63 : n + m ≤ maxLen) (hbytes : (n + m) * bytes ≤ 140737488355328) (hbase : base ≤ w.heap.size) :
    ∃ v' w', (Builtin.append_ #[t, t] ty #[v, .slice (some ad) m c]).run P w = .ok v' w' ∧ Grown e base size v n xs m news v' w w' := by
  rcases hown.2 with ⟨rfl, rfl⟩ | ⟨g, cap, cur, rfl, hb, hg, hnc, hcm, hcs, htk⟩
  · have hx : xs = [] := List.eq_nil_of_length_eq_zero (by simpa using hown.1)
    subst hx
    obtain ⟨v', w', a, b, d, _⟩ := run_append_own (P := P) w w.heap.size t ty e i z size bytes ht hi hz hsize hby hzs hsz (.slice none 0 0) 0 [] (World.ownsRow_nil w _ e size) ad m c news hl hnews h1 h63 hbytes (Nat.le_refl _)
    refine ⟨v', w', a, own_mono b hbase, .inr ⟨by simpa [Value.ownBlock] using d, fun k hk => (b.lt k hk).1⟩⟩
  · by_cases hroom : n + m ≤ cap
    · obtain ⟨w', h2, h3, h4⟩ := run_append_fits (P := P) (w := w) base t ty e i size ht hi hsize g n cap xs hown ad m c news hl hnews h1 hroom
      exact ⟨_, w', h2, h3, .inl ⟨g, cap, rfl, rfl, h4⟩⟩
    · obtain ⟨v', w', h2, h3, h4⟩ := run_append_arg_grows (P := P) w t ty e i z size bytes ht hi hz hsize hby hzs hsz ⟨g, 0, none⟩ n cap xs hown.1 (hown.cells (g := g) rfl) ad m c news hl hnews (by omega) h63 hbytes
      exact ⟨v', w', h2, own_mono h3 hbase, .inr ⟨h4, fun b hb => (h3.lt b hb).1⟩⟩
theorem wpList_append_two {P : Program} {ops : Array Oper} {rest : List Oper} {o : Oper} {a : Act} {w : World} {Q : Exit → Act → World → Prop}
    (hg : o.guard = none) (s x : Operand) (t : TypeId) (hop : o.op = Op.call { callee := Callee.builtin Builtin.append, args := #[s, x], argTypes := #[t, t] })
    (base : Nat) (e : TypeId) (i : TypeInfo) (z : Value) (size bytes : Nat) (ht : P.underlying t = some (.slice e)) (hi : P.info? e = some i) (hz : i.zero = some z)
    (hsize : i.size = size) (hby : i.bytes = bytes) (hzs : z.cells.size = size) (hsz : 0 < size)
    (v : Value) (n : Nat) (xs : List Value) (hs : a.eval s = v) (hown : w.ownsRow base e size v n xs)
    (ad : Addr) (m c : Nat) (hm : 0 < m) (hx : a.eval x = .slice (some ad) m c) (news : List Value) (hl : news.length = m * size) (hnews : ∀ j u, news[j]? = some u → w.cell? (ad.add j) = some u) (h1 : ∀ u ∈ news, u.oneCell' = true)
    (h63 : n + m ≤ maxLen) (hbytes : (n + m) * bytes ≤ 140737488355328) (hbase : base ≤ w.heap.size)
    (hK : ∀ v' w', Grown e base size v n xs m news v' w w' → wpList P ops Q rest (a.put o.dst v') w') :
    wpList P ops Q (o :: rest) a w := by
  refine wpList_plain hg fun K hK' => ?_
  obtain ⟨v', w', hrun, h2⟩ := run_append_two (P := P) w base t o.type e i z size bytes ht hi hz hsize hby hzs hsz v n xs hown ad m c hm news hl hnews h1 h63 hbytes hbase
  unfold Oper.wp
  simp [execOp, hop, resolve, invoke, builtin, hs, hx, hrun, Result.andThen]
  exact hK' _ _ (hK _ _ h2)
end Go
