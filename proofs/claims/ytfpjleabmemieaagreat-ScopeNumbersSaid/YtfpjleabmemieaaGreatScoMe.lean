/- Both scopes side by side: what their calls leave of one another; mathematics alone. -/
/- step: a block opened, a block closed. -/
/- step: a name used. -/
import Derived.Test.YtfpjleabmemieaaGreatScoMa
import Derived.Test.YtfpjleabmemieaaGreatScoLa
set_option maxRecDepth 100000
namespace ScoT
open Go Go.RowKit
set_option linter.unusedVariables false
theorem Rel.length {l : List Rn} {bs : List Bk} (h : Rel l bs) {c : Nat} (hc : ∀ k ∈ bs, k.names.length ≤ c) : l.length ≤ bs.length * c := by
  induction h with
  | nil => simp
  | @snoc l l' bs k h hk ih =>
    have h1 := ih fun q hq => hc q (List.mem_append_left _ hq)
    have h2 := hc k (by simp)
    have h3 := hk.1
    rw [List.length_append, List.length_append, List.length_singleton, Nat.add_mul, Nat.one_mul]
    omega
/-- How both stand to one another. -/
structure RS (bs : List Bk) (l : List Rn) (deep c : Nat) : Prop where
  rel : Rel l bs
  sm : Small bs c
  eq : deep = bs.length
theorem RS.mono {bs : List Bk} {l : List Rn} {deep c c' : Nat} (h : RS bs l deep c) (hc : c ≤ c') : RS bs l deep c' := ⟨h.rel, h.sm.mono hc, h.eq⟩
theorem RS.len {bs : List Bk} {l : List Rn} {deep c : Nat} (h : RS bs l deep c) (hc : c ≤ 900) : l.length ≤ 1000000 := by
  have h1 := h.rel.length (c := c) fun k hk => (h.sm.2 k hk).1
  have h2 := h.sm.1
  have h3 : bs.length * c ≤ (c + 1) * c := Nat.mul_le_mul_right c h2
  have h4 : (c + 1) * c ≤ 901 * 900 := Nat.mul_le_mul (by omega) hc
  omega
end ScoT
namespace Go.Proofs.YtfpjleabmemieaaGreat
open Go.Instr Go.RowKit ScoT
set_option linter.unusedVariables false
/-- Both lie in memory, apart. -/
structure JJ (w : World) (n d : Nat) (tag : Nat → Tag) (A : Option Addr) (cap : Nat) (bs : List Bk) (Y : Nat → Prop) (v : Value) (l : List Rn) (deep : Nat) (W : World) : Prop where
  sc : SC W tag n n A cap bs
  rf : RF W w.heap.size Y d v l deep
  far : ∀ b, RefOf d v Y b → tag b = .none
  bel : Below w.heap.size w W
  nn : w.heap.size ≤ n
section
variable {w W W' : World} {n d : Nat} {tag tag' : Nat → Tag} {A A' : Option Addr} {cap cap' : Nat} {bs bs' : List Bk} {Y Y' : Nat → Prop} {v v' : Value} {l l' : List Rn} {deep deep' : Nat}
theorem none_low (h : SC W tag n n A cap bs) {B b : Nat} (hB : B ≤ n) (hb : b < B) : tag b = .none := by
  cases e : tag b <;> first | rfl | exact absurd (h.lt b (by rw [e]; simp)).1 (by omega)
theorem JJ.turn (h : JJ w n d tag A cap bs Y v l deep W) (h1 : SC W' tag' n n A' cap' bs') (ht : Turns W tag W' tag') : JJ w n d tag' A' cap' bs' Y v l deep W' :=
  ⟨h1, h.rf.keep ht.size fun b hb => (ht.out b (h.rf.old b hb).2 (h.far b hb)).1, fun b hb => (ht.out b (h.rf.old b hb).2 (h.far b hb)).2, h.bel.trans (ht.below h.bel.size fun b hb => none_low h.sc h.nn hb), h.nn⟩
theorem JJ.ref (h : JJ w n d tag A cap bs Y v l deep W) (h1 : RF W' w.heap.size Y' d v' l' deep') (hm : FlT.Moves (RefOf d v Y) W W') (hn : ∀ b, RefOf d v' Y' b → RefOf d v Y b ∨ W.heap.size ≤ b) : JJ w n d tag A cap bs Y' v' l' deep' W' := by
  have hsz := h.bel.size
  refine ⟨h.sc.keep hm.size fun b hb => hm.block b (h.sc.lt b hb).2 fun hr => hb (h.far b hr), h1, fun b hb => ?_, ⟨hm.os.trans h.bel.os, hm.tape.trans h.bel.tape, hm.output.trans h.bel.output, Nat.le_trans h.bel.size hm.size, fun b hb => ?_⟩, h.nn⟩
  · rcases hn b hb with h2 | h2
    · exact h.far b h2
    · exact h.sc.fresh h2
  · rw [hm.block b (by omega) fun hr => by have := (h.rf.old b hr).1; omega]
    exact h.bel.block b hb
theorem JJ.under (h : JJ w n d tag A cap bs Y v l deep W) (hb : Below W.heap.size W W') : JJ w n d tag A cap bs Y v l deep W' :=
  h.turn (h.sc.keep hb.size fun b hx => hb.block b (h.sc.lt b hx).2) (Turns.of_below hb)
/-- A block that belongs to neither. -/
def As (W : World) (tag : Nat → Tag) (d : Nat) (v : Value) (Y : Nat → Prop) (b : Nat) : Prop := b < W.heap.size ∧ tag b = .none ∧ ¬ RefOf d v Y b
theorem As.turn {b : Nat} (h : As W tag d v Y b) (ht : Turns W tag W' tag') : As W' tag' d v Y b ∧ W'.heap[b]? = W.heap[b]? :=
  ⟨⟨Nat.lt_of_lt_of_le h.1 ht.size, (ht.out b h.1 h.2.1).2, h.2.2⟩, (ht.out b h.1 h.2.1).1⟩
theorem As.ref {b : Nat} (h : As W tag d v Y b) (hm : FlT.Moves (RefOf d v Y) W W') (hn : ∀ b, RefOf d v' Y' b → RefOf d v Y b ∨ W.heap.size ≤ b) : As W' tag d v' Y' b ∧ W'.heap[b]? = W.heap[b]? :=
  ⟨⟨Nat.lt_of_lt_of_le h.1 hm.size, h.2.1, fun hr => by rcases hn b hr with h1 | h1; exact h.2.2 h1; have := h.1; omega⟩, hm.block b h.1 h.2.2⟩
theorem As.under {b : Nat} (h : As W tag d v Y b) (hb : Below W.heap.size W W') : As W' tag d v Y b ∧ W'.heap[b]? = W.heap[b]? := h.turn (Turns.of_below hb)
theorem JJ.fresh (h : JJ w n d tag A cap bs Y v l deep W) (hs : W.heap.size ≤ W'.heap.size) {b : Nat} (h1 : W.heap.size ≤ b) (h2 : b < W'.heap.size) : As W' tag d v Y b :=
  ⟨h2, h.sc.fresh h1, fun hr => by have := (h.rf.old b hr).2; omega⟩
theorem JJ.low (h : JJ w n d tag A cap bs Y v l deep W) {b : Nat} (hb : b < w.heap.size) : As W tag d v Y b :=
  ⟨Nat.lt_of_lt_of_le hb h.bel.size, none_low h.sc h.nn hb, fun hr => by have := (h.rf.old b hr).1; omega⟩
theorem in_turn {t : Ty} (h : In W (As W tag d v Y) t) (ht : Turns W tag W' tag') : In W' (As W' tag' d v Y) t :=
  h.keep (fun b hb => (hb.turn ht).1) fun p hp => World.cell?_of_block (hp.turn ht).2
theorem in_ref {t : Ty} (h : In W (As W tag d v Y) t) (hm : FlT.Moves (RefOf d v Y) W W') (hn : ∀ b, RefOf d v' Y' b → RefOf d v Y b ∨ W.heap.size ≤ b) : In W' (As W' tag d v' Y') t :=
  h.keep (fun b hb => (hb.ref hm hn).1) fun p hp => World.cell?_of_block (hp.ref hm hn).2
theorem in_under {t : Ty} (h : In W (As W tag d v Y) t) (hb : Below W.heap.size W W') : In W' (As W' tag d v Y) t := in_turn h (Turns.of_below hb)
theorem JJ.nds (h : JJ w n d tag A cap bs Y v l deep W) : ∀ k ∈ bs, (k.names.map Nm.name).Nodup := fun k hk => by
  obtain ⟨i, hi⟩ := List.getElem?_of_mem hk
  exact (h.sc.bk i k hi).nd
/-- What both tell of a name. -/
theorem tell_both {u : Bool} {x : ByteArray} {e : Ending} (hrel : Rel l bs) (hnd : ∀ k ∈ bs, (k.names.map Nm.name).Nodup) (hq : TellPost u x bs W e W') : ∃ t : Ty, e = .returned (.tuple #[t.val, .bool (lookR x l).2]) ∧ same t (lookR x l).1 = true ∧ InO 26 W' W.heap.size t := by
  unfold TellPost at hq
  rcases hrel.place hnd x with ⟨h1, h2⟩ | ⟨i, j, p, k, m, r, h1, h2, hk, hm, hr, hp, _⟩
  · rw [h1] at hq
    obtain ⟨rfl, hb⟩ := hq
    have e1 : lookR x l = (zeroTy, false) := by unfold lookR; rw [h2]
    rw [e1]
    exact ⟨zeroTy, rfl, same_refl _, In.zero _ _, Apt.leaf⟩
  · rw [h1] at hq
    obtain ⟨k', m', t', hk', hm', rfl, hs, hin, _⟩ := hq
    obtain rfl : k = k' := Option.some.inj (hk.symm.trans hk')
    obtain rfl : m = m' := Option.some.inj (hm.symm.trans hm')
    have e1 : lookR x l = (r.ty, true) := by unfold lookR; rw [h2]; simp only [hr]
    rw [e1]
    exact ⟨t', rfl, same_trans _ _ _ (same_symm _ _ hs) (same_symm _ _ hp.ty), hin⟩
theorem rel_use {x : ByteArray} (hrel : Rel l bs) (hnd : ∀ k ∈ bs, (k.names.map Nm.name).Nodup) : Rel (useR x l) (usedBs x bs) := by
  unfold useR usedBs
  rcases hrel.place hnd x with ⟨h1, h2⟩ | ⟨i, j, p, k, m, r, h1, h2, hk, hm, hr, hp, hu⟩
  · rw [h1, h2]; exact hrel
  · rw [h1, h2]; exact hu
theorem RS.use {c : Nat} {x : ByteArray} (h : RS bs l deep c) (hnd : ∀ k ∈ bs, (k.names.map Nm.name).Nodup) : RS (usedBs x bs) (useR x l) deep c :=
  ⟨rel_use h.rel hnd, h.sm.skel (skel_used x bs).symm, by rw [h.eq, ← skel_len (skel_used x bs)]⟩
/-- A type that is looked up belongs to neither. -/
theorem JJ.told (h : JJ w n d tag A cap bs Y v l deep W) {t : Ty} (ht : InO 26 W' W.heap.size t) (hs : W.heap.size ≤ W'.heap.size) : In W' (As W' tag d v Y) t :=
  ht.1.keep (fun b hb => h.fresh hs hb.1 hb.2.1) fun _ _ => rfl
/-- What the ref tells lies in its own blocks. -/
theorem RF.lookIn (h : RF W w.heap.size Y d v l deep) (x : ByteArray) : In W Y (lookR x l).1 := by
  unfold lookR
  cases placeR x l with
  | none => exact In.zero _ _
  | some p =>
    cases hp : l[p]? with
    | none => simp only [hp]; exact In.zero _ _
    | some r => simp only [hp]; exact h.tys r (List.mem_of_getElem? hp)
end
/-- Both, between two steps. -/
def JR (w : World) (n d c : Nat) (W : World) : Prop := ∃ tag A cap bs Y v l deep, JJ w n d tag A cap bs Y v l deep W ∧ RS bs l deep c
theorem JR.under {w W W' : World} {n d c : Nat} (h : JR w n d c W) (hb : Below W.heap.size W W') : JR w n d c W' := by
  obtain ⟨tag, A, cap, bs, Y, v, l, deep, h1, h2⟩ := h
  exact ⟨tag, A, cap, bs, Y, v, l, deep, h1.under hb, h2⟩
theorem JR.bel {w W : World} {n d c : Nat} (h : JR w n d c W) : Below w.heap.size w W := by
  obtain ⟨tag, A, cap, bs, Y, v, l, deep, h1, h2⟩ := h
  exact h1.bel
theorem JR.mono {w W : World} {n d c c' : Nat} (h : JR w n d c W) (hc : c ≤ c') : JR w n d c' W := by
  obtain ⟨tag, A, cap, bs, Y, v, l, deep, h1, h2⟩ := h
  exact ⟨tag, A, cap, bs, Y, v, l, deep, h1, h2.mono hc⟩
end Go.Proofs.YtfpjleabmemieaaGreat
namespace Go.Proofs.YtfpjleabmemieaaGreat
open Go.Instr Go.RowKit ScoT
set_option linter.unusedVariables false
set_option linter.unusedSimpArgs false
def dVal (op : Int) (name : ByteArray) (t : Ty) : Value := .agg #[.int .i64 op, .string name, .int .u8 t.kind, .string t.name, .slice t.addr t.els.length t.cap]
def dCells (op : Int) (name : ByteArray) (t : Ty) : Obj := .cells #[.int .i64 op, .string name, .int .u8 t.kind, .string t.name, .slice t.addr t.els.length t.cap] 28
theorem d_cells {W : World} {b : Nat} {op : Int} {name : ByteArray} {t : Ty} (h : W.heap[b]? = some (dCells op name t)) : W.cell? ⟨b, 0, none⟩ = some (.int .i64 op) ∧ W.cell? ⟨b, 1, none⟩ = some (.string name) ∧ W.cell? ⟨b, 2, none⟩ = some (.int .u8 t.kind) ∧ W.cell? ⟨b, 3, none⟩ = some (.string t.name) ∧ W.cell? ⟨b, 4, none⟩ = some (.slice t.addr t.els.length t.cap) := by
  unfold dCells at h
  refine ⟨?_, ?_, ?_, ?_, ?_⟩ <;> (unfold World.cell?; rw [h]; rfl)
theorem texts_of_own {W : World} {lo : Nat} {v : Value} {ts : List ByteArray} (h : W.ownsRow lo 9 1 v ts.length (strs ts)) : ∃ A c, v = .slice A ts.length c ∧ ∀ (i : Nat) (t : ByteArray), ts[i]? = some t → ∃ a, A = some ⟨a, 0, none⟩ ∧ W.cell? ⟨a, i, none⟩ = some (.string t) := by
  rcases h.2 with ⟨rfl, hx⟩ | ⟨g, c, cur, rfl, _, _, _, _, _, _⟩
  · refine ⟨none, 0, by rw [hx], fun i t hi => ?_⟩
    have := (List.getElem?_eq_some_iff.1 hi).1
    omega
  · refine ⟨_, c, rfl, fun i t hi => ⟨g, rfl, ?_⟩⟩
    have hl := (List.getElem?_eq_some_iff.1 hi).1
    have := h.cellAt i (by omega)
    rw [this]
    simp [strs, hi]
variable {w W : World} {n d c : Nat} {tag : Nat → Tag} {A : Option Addr} {cap : Nat} {bs : List Bk} {Y : Nat → Prop} {v : Value} {l : List Rn} {deep : Nat}
def StepPost (w : World) (n d c : Nat) (e : Ending) (W' : World) : Prop := e = .returned (.bool true) ∧ JR w n d c W'
set_option maxHeartbeats 2000000 in
theorem step_open (h : JJ w n d tag A cap bs Y v l deep W) (hr : RS bs l deep c) (hc : c ≤ 900) (op : Int) (hop : -9223372036854775808 ≤ op ∧ op ≤ 9223372036854775807) (name : ByteArray) (t : Ty) (hp : pick8 op = 0 ∨ pick8 op = 1) :
    Calls Tryz.prog 10 #[.pointer (some ⟨n, 0, none⟩), .pointer (some ⟨d, 0, none⟩), dVal op name t] W (StepPost w n d (c + 1)) := by
  have hb1 : Below W.heap.size W (W.alloc (dCells op name t)) := (Below.refl _ _).alloc (Nat.le_refl _) _
  have HJ := Lib.hid (h.under hb1)
  have HR := Lib.hid hr
  have HH := Lib.hid (And.intro hop hc)
  have hd1 : deep ≤ 1000000 := by have := hr.eq; have := hr.sm.1; omega
  have hbl : bs.length ≤ 1000000 := by have := hr.sm.1; omega
  clear h hr hop hc hb1
  unfold dVal
  rcases hp with hp | hp
  all_goals
    have HP := Lib.hid hp
    clear hp
    go_enter Tryz.func10, Tryz.ntmps10
    go_wp2_with (first
      | (go_at_call 22; (refine (Pick_any op _ HH.out.1).mono ?_; rintro e w1 ⟨rfl, hb⟩; rw [HP.out]; have HJ := Lib.hid (HJ.out.under hb); clear hb))
      | (go_at_call 19; (refine (Open_any HJ.out.sc hbl).mono ?_; rintro e w2 ⟨rfl, A2, c2, tag2, bb2, mb2, h2, t2⟩; have HJ := Lib.hid (HJ.out.turn h2 t2); clear h2 t2))
      | (go_at_call 23; (refine (ROpen_any HJ.out.rf hd1).mono ?_; rintro e w3 ⟨rfl, h3, _, m3⟩; have HJ := Lib.hid (HJ.out.ref h3 (m3.mono fun b hb => .inl hb) fun b hb => .inl hb); clear h3 m3)))
    go_ret
    exact ⟨rfl, _, _, _, _, _, _, _, _, HJ.out, HR.out.rel.open_ rfl, HR.out.sm.open_, by have := HR.out.eq; simp; omega⟩
set_option maxHeartbeats 2000000 in
theorem step_close_none (h : JJ w n d tag A cap [] Y v l 0 W) (hr : RS [] l 0 c) (hc : c ≤ 900) (op : Int) (hop : -9223372036854775808 ≤ op ∧ op ≤ 9223372036854775807) (name : ByteArray) (t : Ty) (hp : pick8 op = 2) :
    Calls Tryz.prog 10 #[.pointer (some ⟨n, 0, none⟩), .pointer (some ⟨d, 0, none⟩), dVal op name t] W (StepPost w n d (c + 1)) := by
  have hb1 : Below W.heap.size W (W.alloc (dCells op name t)) := (Below.refl _ _).alloc (Nat.le_refl _) _
  have HJ := Lib.hid (h.under hb1)
  have HR := Lib.hid hr
  have HH := Lib.hid (And.intro hop hc)
  have HST := Lib.hid (fun ww => SameTexts_any [] none none 0 0 ww (by simp) (fun i t hi => by simp at hi) (fun i t hi => by simp at hi))
  simp only [List.length_nil] at HST
  clear h hr hop hc hb1
  unfold dVal
  have HP := Lib.hid hp
  clear hp
  go_enter Tryz.func10, Tryz.ntmps10
  go_wp2_with (first
    | (go_at_call 22; (refine (Pick_any op _ HH.out.1).mono ?_; rintro e w1 ⟨rfl, hb⟩; rw [HP.out]; have HJ := Lib.hid (HJ.out.under hb); clear hb))
    | (go_at_call 16; (refine (Close_none HJ.out.sc).mono ?_; rintro e w2 ⟨rfl, rfl⟩))
    | (go_at_call 17; (refine (RClose_none HJ.out.rf).mono ?_; rintro e w3 ⟨rfl, rfl⟩))
    | (go_at_call 18; (refine (HST.out _).mono ?_; rintro e w4 ⟨rfl, hb⟩; have HJ := Lib.hid (HJ.out.under hb); clear hb)))
  go_ret
  exact ⟨rfl, _, _, _, _, _, _, _, _, HJ.out, HR.out.mono (Nat.le_succ c)⟩
set_option maxHeartbeats 2000000 in
theorem step_close {xs : List Bk} {k : Bk} (h : JJ w n d tag A cap (xs ++ [k]) Y v l deep W) (hr : RS (xs ++ [k]) l deep c) (hc : c ≤ 900) (op : Int) (hop : -9223372036854775808 ≤ op ∧ op ≤ 9223372036854775807) (name : ByteArray) (t : Ty) (hp : pick8 op = 2) :
    Calls Tryz.prog 10 #[.pointer (some ⟨n, 0, none⟩), .pointer (some ⟨d, 0, none⟩), dVal op name t] W (StepPost w n d (c + 1)) := by
  have hb1 : Below W.heap.size W (W.alloc (dCells op name t)) := (Below.refl _ _).alloc (Nat.le_refl _) _
  have hll := hr.len hc
  have hde : deep = xs.length + 1 := by have := hr.eq; simpa using this
  have hxl : xs.length ≤ 1000000 := by have := hr.sm.1; simp at this; omega
  have hkl : k.names.length ≤ 1000000 := by have := (hr.sm.2 k (by simp)).1; omega
  have hdl : deep ≤ 1000000 := by have := hr.sm.1; have := hr.eq; omega
  have hcl := hr.rel.close
  have ho : outs (xs.length + 1) l = left k.names := hcl.2
  have HJ := Lib.hid (h.under hb1)
  have HR := Lib.hid (And.intro hr (And.intro hcl.1 ho))
  have HH := Lib.hid (And.intro hop (And.intro hc hde))
  have hlo : (left k.names).length < 1000000 := by have := left_len k.names; have := (hr.sm.2 k (by simp)).1; omega
  clear h hr hop hc hb1 hcl ho
  unfold dVal
  have HP := Lib.hid hp
  clear hp
  go_enter Tryz.func10, Tryz.ntmps10
  go_wp2_with (first
    | (go_at_call 22; (refine (Pick_any op _ HH.out.1).mono ?_; rintro e w1 ⟨rfl, hb⟩; rw [HP.out]; have HJ := Lib.hid (HJ.out.under hb); clear hb))
    | (go_at_call 16; (refine (Close_any HJ.out.sc hxl hkl).mono ?_; rintro e w2 ⟨v2, A2, c2, rfl, ho2, hs2, ht2⟩; have HD : Hid (d < w1.heap.size) := Lib.hid HJ.out.rf.lt; have HO2 := Lib.hid ho2; have HJ := Lib.hid (HJ.out.turn hs2 ht2); clear ho2 hs2 ht2))
    | (go_at_call 17; go_loud (refine (RClose_any HH.out.2.2 HJ.out.rf hll hdl).mono ?_)
       rintro e w3 ⟨vL, vO, rfl, h3, ho3, m3, hf3⟩
       rw [HR.out.2.2] at ho3
       have hm3 : FlT.Moves (RefOf d v Y) w2 w3 := m3.mono fun b hb => .inl hb
       have ho2 := row_keep HO2.out fun b hb => m3.block b (HO2.out.lt b hb).2 (fun e => by have := (HO2.out.lt b hb).1; have := HD.out; omega)
       have HJ := Lib.hid (HJ.out.ref h3 hm3 fun b hb => by
         rcases hb with hb | hb | hb
         · exact .inl (.inl hb)
         · exact .inr (hf3 b hb)
         · exact .inl (.inr (.inr hb)))
       obtain ⟨a1, k1, hv1, q1⟩ := texts_of_own ho2
       obtain ⟨a2, k2, hv2, q2⟩ := texts_of_own ho3
       subst hv1 hv2
       have HST := Lib.hid (SameTexts_any (left k.names) a1 a2 k1 k2 w3 hlo q1 q2)
       clear h3 ho3 m3 hf3 hm3 ho2 q1 q2)
    | (go_at_call 18; (refine HST.out.mono ?_; rintro e w4 ⟨rfl, hb⟩; have HJ := Lib.hid (HJ.out.under hb); clear hb)))
  go_ret
  exact ⟨rfl, _, _, _, _, _, _, _, _, HJ.out, HR.out.2.1, (HR.out.1.sm.left.mono (Nat.le_succ c)), rfl⟩
end Go.Proofs.YtfpjleabmemieaaGreat
namespace Go.Proofs.YtfpjleabmemieaaGreat
open Go.Instr Go.RowKit ScoT
set_option linter.unusedVariables false
set_option linter.unusedSimpArgs false
section
variable {w W W' : World} {n d : Nat} {tag tag' : Nat → Tag} {A A' : Option Addr} {cap cap' : Nat} {bs bs' : List Bk} {Y Y' : Nat → Prop} {v v' : Value} {l l' : List Rn} {deep deep' : Nat}
theorem tell_weight {u : Bool} {x : ByteArray} {e : Ending} {c : Nat} (hsm : Small bs c) (hrel : Rel l bs) (hnd : ∀ k ∈ bs, (k.names.map Nm.name).Nodup) (hq : TellPost u x bs W e W') : ∃ t : Ty, e = .returned (.tuple #[t.val, .bool (lookR x l).2]) ∧ same t (lookR x l).1 = true ∧ InO 26 W' W.heap.size t ∧ weight t ≤ 50 := by
  unfold TellPost at hq
  rcases hrel.place hnd x with ⟨h1, h2⟩ | ⟨i, j, p, k, m, r, h1, h2, hk, hm, hr, hp, _⟩
  · rw [h1] at hq
    obtain ⟨rfl, hb⟩ := hq
    have e1 : lookR x l = (zeroTy, false) := by unfold lookR; rw [h2]
    rw [e1]
    exact ⟨zeroTy, rfl, same_refl _, ⟨In.zero _ _, Apt.leaf⟩, by decide⟩
  · rw [h1] at hq
    obtain ⟨k', m', t', hk', hm', rfl, hs, hin, _⟩ := hq
    obtain rfl : k = k' := Option.some.inj (hk.symm.trans hk')
    obtain rfl : m = m' := Option.some.inj (hm.symm.trans hm')
    have e1 : lookR x l = (r.ty, true) := by unfold lookR; rw [h2]; simp only [hr]
    rw [e1]
    exact ⟨t', rfl, same_trans _ _ _ (same_symm _ _ hs) (same_symm _ _ hp.ty), hin, by rw [same_weight _ _ hs]; exact (hsm.2 k (List.mem_of_getElem? hk)).2 m (List.mem_of_getElem? hm)⟩
theorem JJ.moves (h : JJ w n d tag A cap bs Y v l deep W) {S : Nat → Prop} (hm : FlT.Moves S W W') (hS : ∀ b, S b → tag b = .none ∧ ¬ RefOf d v Y b ∧ w.heap.size ≤ b) : JJ w n d tag A cap bs Y v l deep W' := by
  have hsz := h.bel.size
  refine ⟨h.sc.keep hm.size fun b hb => hm.block b (h.sc.lt b hb).2 fun hr => hb (hS b hr).1, h.rf.keep hm.size fun b hb => hm.block b (h.rf.old b hb).2 fun hr => (hS b hr).2.1 hb, h.far, ⟨hm.os.trans h.bel.os, hm.tape.trans h.bel.tape, hm.output.trans h.bel.output, Nat.le_trans h.bel.size hm.size, fun b hb => ?_⟩, h.nn⟩
  rw [hm.block b (by omega) fun hr => by have := (hS b hr).2.2; omega]
  exact h.bel.block b hb
end
theorem below_alloc (W : World) (o : Obj) : Below W.heap.size W (W.alloc o) := (Below.refl _ _).alloc (Nat.le_refl _) _
theorem new_cs3 (W : World) (v0 v1 v2 : Value) (T : TypeId) : (W.alloc (.cells #[v0, v1, v2] T)).heap[W.heap.size]? = some (.cells #[v0, v1, v2] T) := World.alloc_heap_new _ _
variable {w W : World} {n d c : Nat} {tag : Nat → Tag} {A : Option Addr} {cap : Nat} {bs : List Bk} {Y : Nat → Prop} {v : Value} {l : List Rn} {deep : Nat}
set_option maxHeartbeats 4000000 in
theorem step_use (h : JJ w n d tag A cap bs Y v l deep W) (hr : RS bs l deep c) (hc : c ≤ 900) (op : Int) (hop : -9223372036854775808 ≤ op ∧ op ≤ 9223372036854775807) (name : ByteArray) (t : Ty) (hp : pick8 op = 5) :
    Calls Tryz.prog 10 #[.pointer (some ⟨n, 0, none⟩), .pointer (some ⟨d, 0, none⟩), dVal op name t] W (StepPost w n d (c + 1)) := by
  have hb1 : Below W.heap.size W (W.alloc (dCells op name t)) := below_alloc _ _
  have hll := hr.len hc
  have hbl : bs.length ≤ 1000000 := by have := hr.sm.1; omega
  have hcop := hr.sm.cop
  have HJ := Lib.hid (h.under hb1)
  have HX : Hid (As (W.alloc (dCells op name t)) tag d v Y W.heap.size ∧ (W.alloc (dCells op name t)).heap[W.heap.size]? = some (dCells op name t)) := Lib.hid ⟨h.fresh hb1.size (Nat.le_refl _) (by simp), World.alloc_heap_new _ _⟩
  have HR := Lib.hid hr
  have HH := Lib.hid (And.intro hop (And.intro hc hcop))
  obtain ⟨x2, hx2⟩ : ∃ x2, (lookR name l).1 = x2 := ⟨_, rfl⟩
  obtain ⟨y2, hy2⟩ : ∃ y2, (lookR name l).2 = y2 := ⟨_, rfl⟩
  have hyy : (y2 == y2) = true := by simp
  have HXY := Lib.hid (And.intro hx2 hy2)
  have HND := Lib.hid h.nds
  clear h hr hop hc hb1 hcop hx2 hy2
  unfold dVal
  have HP := Lib.hid hp
  clear hp
  go_enter Tryz.func10, Tryz.ntmps10
  go_wp2_with (first
    | (go_at_call 22; refine (Pick_any op _ HH.out.1).mono ?_; rintro e w1 ⟨rfl, hb⟩; rw [HP.out]
       have HX := Lib.hid (And.intro (HX.out.1.under hb).1 ((HX.out.1.under hb).2.trans HX.out.2)); have f1 := (d_cells HX.out.2).2.1; have HJ := Lib.hid (HJ.out.under hb); clear hb)
    | (go_at_call 21; refine (Use_any name HJ.out.sc hbl HH.out.2.2).mono ?_; intro e w2 hq
       obtain ⟨_, hsc, htn⟩ := tell_used HJ.out.sc hq
       obtain ⟨t1, rfl, hs1, hin1, _⟩ := tell_weight HR.out.sm HR.out.rel HJ.out.nds hq
       have HIN := Lib.hid (HJ.out.told hin1 htn.size)
       have HX := Lib.hid (And.intro (HX.out.1.turn htn).1 ((HX.out.1.turn htn).2.trans HX.out.2))
       have HJ := Lib.hid (HJ.out.turn hsc htn)
       have HS1 := Lib.hid hs1
       have HBB := Lib.hid (below_alloc w2 (.cells #[.int .u8 t1.kind, .string t1.name, .slice t1.addr t1.els.length t1.cap] 26))
       have HX := Lib.hid (And.intro (HX.out.1.under HBB.out).1 ((HX.out.1.under HBB.out).2.trans HX.out.2))
       have HIN := Lib.hid (in_under HIN.out HBB.out)
       have HB1 := Lib.hid (And.intro (HJ.out.fresh (W' := w2.alloc (.cells #[.int .u8 t1.kind, .string t1.name, .slice t1.addr t1.els.length t1.cap] 26)) HBB.out.size (Nat.le_refl _) (by simp)) (new_cs3 w2 (.int .u8 t1.kind) (.string t1.name) (.slice t1.addr t1.els.length t1.cap) 26))
       have HJ := Lib.hid (HJ.out.under HBB.out)
       have f2 := (d_cells HX.out.2).2.1
       rw [HXY.out.2]
       clear hq hsc htn hs1 hin1 f1
       unfold Ty.val Ty.row)
    | (go_at_call 28; refine (RUse_any HJ.out.rf hll name).mono ?_; rintro e w3 ⟨rfl, h3, m3⟩
       have HIN := Lib.hid (in_ref HIN.out m3 fun b hb => .inl hb)
       have hB1 := HB1.out.1.ref m3 fun b hb => .inl hb
       obtain ⟨⟨r0, r1, r2⟩, _⟩ := cs3_of (hB1.2.trans HB1.out.2)
       have hl3 := RF.lookIn h3 name
       rw [lookR_use, HXY.out.1] at hl3
       have HL3 := Lib.hid hl3
       have HJ := Lib.hid (HJ.out.ref h3 m3 fun b hb => .inl hb)
       have q0 := (World.cell?_of_block (a := ⟨w2.heap.size, 0, none⟩) (w' := w3.alloc (.cells #[.int .u8 x2.kind, .string x2.name, .slice x2.addr x2.els.length x2.cap] 26)) (Below.heap_alloc _ _ _ hB1.1.1)).trans r0
       have q1 := (World.cell?_of_block (a := ⟨w2.heap.size, 1, none⟩) (w' := w3.alloc (.cells #[.int .u8 x2.kind, .string x2.name, .slice x2.addr x2.els.length x2.cap] 26)) (Below.heap_alloc _ _ _ hB1.1.1)).trans r1
       have q2 := (World.cell?_of_block (a := ⟨w2.heap.size, 2, none⟩) (w' := w3.alloc (.cells #[.int .u8 x2.kind, .string x2.name, .slice x2.addr x2.els.length x2.cap] 26)) (Below.heap_alloc _ _ _ hB1.1.1)).trans r2
       have HB3 := Lib.hid (below_alloc w3 (.cells #[.int .u8 x2.kind, .string x2.name, .slice x2.addr x2.els.length x2.cap] 26))
       have HST : Hid (Calls Tryz.prog 15 #[t1.val, x2.val] (w3.alloc (.cells #[.int .u8 x2.kind, .string x2.name, .slice x2.addr x2.els.length x2.cap] 26)) fun e w' => e = .returned (.bool true) ∧ Below (w3.alloc (.cells #[.int .u8 x2.kind, .string x2.name, .slice x2.addr x2.els.length x2.cap] 26)).heap.size (w3.alloc (.cells #[.int .u8 x2.kind, .string x2.name, .slice x2.addr x2.els.length x2.cap] 26)) w') := Lib.hid (by
         have := SameType_any t1 x2 _ _ _ (in_under HIN.out HB3.out) (HL3.out.keep (fun _ h => h) fun p hp => HB3.out.cell ((HJ.out.rf.far _ hp).2.1)) (fun b hb => hb.1) (fun b hb => Nat.lt_of_lt_of_le (HJ.out.rf.far b hb).2.1 HB3.out.size)
         rw [show same t1 x2 = true by have := HS1.out; rw [HXY.out.1] at this; exact this] at this
         exact this)
       have HJ := Lib.hid (HJ.out.under HB3.out)
       rw [HXY.out.1, HXY.out.2]
       clear h3 m3 hB1 r0 r1 r2 hl3 f2
       unfold Ty.val Ty.row
       unfold Ty.val Ty.row at HST)
    | (go_at_call 15; (refine HST.out.mono ?_; rintro e w4 ⟨rfl, hb⟩; have HJ := Lib.hid (HJ.out.under hb); clear hb)))
  go_ret
  exact ⟨rfl, _, _, _, _, _, _, _, _, HJ.out, (RS.use HR.out HND.out).mono (Nat.le_succ c)⟩
end Go.Proofs.YtfpjleabmemieaaGreat
