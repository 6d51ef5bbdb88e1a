/- Copies of trees that the call itself made: each list in a block of its own, no two in the same. -/
import Derived.Test.YtldedhfbpongmaaDoorNodF
import Derived.Test.YtldedhfbpongmaaDoorNodBc
import Derived.Deep.Onto
import Derived.Lib.SmallJoins
set_option maxRecDepth 100000
namespace Go
open Go.RowKit
set_option linter.unusedVariables false
/-- append onto a row of the call's own, nil or not: where the new row lies. -/
theorem run_append_far {P : Program} (w : World) (base : Nat) (t ty e : TypeId) (i : TypeInfo) (z : Value) (size bytes : Nat) (ht : P.underlying t = some (.slice e)) (hi : P.info? e = some i) (hz : i.zero = some z)
    (hsize : i.size = size) (hby : i.bytes = bytes) (hzs : z.cells.size = size) (hsz : 0 < size)
    (v : Value) (n : Nat) (xs : List Value) (hown : w.ownsRow base e size v n xs)
    (ao : Option Addr) (m c : Nat) (hnone : ao = none → m = 0 ∧ c = 0) (news : List Value) (hl : news.length = m * size) (hnews : ∀ ad, ao = some ad → ∀ j u, news[j]? = some u → w.cell? (ad.add j) = some u) (h1 : ∀ u ∈ news, u.oneCell' = true)
    (h63 : n + m ≤ maxLen) (hbytes : (n + m) * bytes ≤ 140737488355328) (hbase : base ≤ w.heap.size) :
    ∃ v' w', (Builtin.append_ #[t, t] ty #[v, .slice ao m c]).run P w = .ok v' w' ∧ w'.ownsRow base e size v' (n + m) (xs ++ news) ∧ w.grownBy w' v.ownBlock ∧ (∀ k, v'.ownBlock = some k → v.ownBlock = some k ∨ w.heap.size ≤ k) := by
  by_cases hv : v = .slice none 0 0
  · subst hv
    have hown' : w.ownsRow w.heap.size e size (.slice none 0 0) n xs := by
      refine ⟨hown.1, .inl ?_⟩
      rcases hown.2 with h | ⟨g, _, _, h, _⟩
      · exact h
      · cases h
    obtain ⟨v', w', a, b, d, _⟩ := run_append_own_any (P := P) w w.heap.size t ty e i z size bytes ht hi hz hsize hby hzs hsz _ n xs hown' ao m c hnone news hl hnews h1 h63 hbytes (Nat.le_refl _)
    exact ⟨v', w', a, b.mono hbase, d, fun k hk => .inr (b.lt k hk).1⟩
  · obtain ⟨g, c0, rfl, hb, hg⟩ := NodT.own_some hown hv
    obtain ⟨g', c', w', a, b, d, f⟩ := run_append_stack (P := P) w base t ty e i z size bytes ht hi hz hsize hby hzs hsz g n c0 xs hown ao m c hnone news hl hnews h1 h63 hbytes hbase
    refine ⟨_, w', a, b, d, fun k hk => ?_⟩
    have hk' : g' = k := by simpa [Value.ownBlock] using hk
    subst hk'
    rcases f with rfl | f
    · exact .inl rfl
    · exact .inr f
theorem wpList_append_far {P : Program} {ops : Array Oper} {rest : List Oper} {o : Oper} {a : Act} {w : World} {Q : Exit → Act → World → Prop}
    (hg : o.guard = none) (s x : Operand) (t : TypeId) (hop : o.op = Op.call { callee := Callee.builtin Builtin.append, args := #[s, x], argTypes := #[t, t] })
    (base : Nat) (e : TypeId) (i : TypeInfo) (z : Value) (size bytes : Nat) (ht : P.underlying t = some (.slice e)) (hi : P.info? e = some i) (hz : i.zero = some z)
    (hsize : i.size = size) (hby : i.bytes = bytes) (hzs : z.cells.size = size) (hsz : 0 < size)
    (v : Value) (n : Nat) (xs : List Value) (hs : a.eval s = v) (hown : w.ownsRow base e size v n xs)
    (ao : Option Addr) (m c : Nat) (hx : a.eval x = .slice ao m c) (hnone : ao = none → m = 0 ∧ c = 0) (news : List Value) (hl : news.length = m * size) (hnews : ∀ ad, ao = some ad → ∀ j u, news[j]? = some u → w.cell? (ad.add j) = some u) (h1 : ∀ u ∈ news, u.oneCell' = true)
    (h63 : n + m ≤ maxLen) (hbytes : (n + m) * bytes ≤ 140737488355328) (hbase : base ≤ w.heap.size)
    (hK : ∀ v' w', w'.ownsRow base e size v' (n + m) (xs ++ news) → w.grownBy w' v.ownBlock → (∀ k, v'.ownBlock = some k → v.ownBlock = some k ∨ w.heap.size ≤ k) → wpList P ops Q rest (a.put o.dst v') w') :
    wpList P ops Q (o :: rest) a w := by
  refine wpList_plain hg fun K hK' => ?_
  obtain ⟨v', w', hrun, h2, h3, h4⟩ := run_append_far (P := P) w base t o.type e i z size bytes ht hi hz hsize hby hzs hsz v n xs hown ao m c hnone news hl hnews h1 h63 hbytes hbase
  unfold Oper.wp
  simp [execOp, hop, resolve, invoke, builtin, hs, hx, hrun, Result.andThen]
  exact hK' _ _ (hK _ _ h2 h3 h4)
end Go
namespace NodT
open Go Go.RowKit
set_option linter.unusedVariables false
mutual
/-- The blocks that a tree's lists lie in. -/
def blks : Nd → List Nat | .mk _ _ _ _ A _ ks => A.toList.map Addr.block ++ blksL ks
def blksL : List Nd → List Nat | [] => [] | t :: ts => blks t ++ blksL ts
end
theorem blks_eq (t : Nd) : blks t = t.addr.toList.map Addr.block ++ blksL t.kids := by cases t; rfl
theorem blksL_append (a b : List Nd) : blksL (a ++ b) = blksL a ++ blksL b := by
  induction a with
  | nil => rfl
  | cons t ts ih => simp only [List.cons_append, blksL, ih, List.append_assoc]
theorem blksL_mem {ts : List Nd} {b : Nat} : b ∈ blksL ts ↔ ∃ t ∈ ts, b ∈ blks t := by
  induction ts with
  | nil => simp [blksL]
  | cons t ts ih => simp [blksL, ih]
/-- A tree that the call itself made. -/
inductive Own (w : World) (T : TypeId) (lo : Nat) : Nd → Prop
  | mk (x : Nd) (hf : Fits x) (hr : w.ownsRow lo T 5 (.slice x.addr x.kids.length x.cap) x.kids.length (cells x.kids)) (hk : ∀ u ∈ x.kids, Own w T lo u) : Own w T lo x
theorem Own.fits {w : World} {T : TypeId} {lo : Nat} {x : Nd} (h : Own w T lo x) : Fits x := by cases h; assumption
theorem Own.row {w : World} {T : TypeId} {lo : Nat} {x : Nd} (h : Own w T lo x) : w.ownsRow lo T 5 (.slice x.addr x.kids.length x.cap) x.kids.length (cells x.kids) := by cases h; assumption
theorem Own.kid {w : World} {T : TypeId} {lo : Nat} {x u : Nd} (h : Own w T lo x) (hu : u ∈ x.kids) : Own w T lo u := by cases h with | mk _ _ _ hk => exact hk u hu
theorem Own.isIn {w : World} {T : TypeId} {lo : Nat} {x : Nd} (h : Own w T lo x) : In w w.heap.size x := by
  induction h with
  | mk x hf hr hk ih => exact .mk x hf (lies_of_own hr) fun i u hu => ih u (List.mem_of_getElem? hu)
theorem row_block {w : World} {T : TypeId} {lo size n c : Nat} {A : Option Addr} {xs : List Value} (h : w.ownsRow lo T size (.slice A n c) n xs) {b : Nat} (hb : b ∈ A.toList.map Addr.block) : (Value.slice A n c).ownBlock = some b ∧ A = some ⟨b, 0, none⟩ := by
  rcases h.2 with ⟨h1, _⟩ | ⟨g, cap, cur, h1, _⟩
  · injection h1 with h1 _ _
    subst h1
    simp at hb
  · injection h1 with h1 _ _
    subst h1
    obtain rfl : b = g := by simpa using hb
    exact ⟨rfl, rfl⟩
theorem Own.lt {w : World} {T : TypeId} {lo : Nat} {x : Nd} (h : Own w T lo x) : ∀ b ∈ blks x, lo ≤ b ∧ b < w.heap.size := by
  induction h with
  | mk x hf hr hk ih =>
    intro b hb
    rw [blks_eq] at hb
    rcases List.mem_append.1 hb with hb | hb
    · exact hr.lt b (row_block hr hb).1
    · obtain ⟨u, hu, hbu⟩ := blksL_mem.1 hb
      exact ih u hu b hbu
theorem row_keep {w w' : World} {lo : Nat} {T : TypeId} {size n : Nat} {v : Value} {xs : List Value} (h : w.ownsRow lo T size v n xs) (hk : ∀ b, v.ownBlock = some b → w'.heap[b]? = w.heap[b]?) : w'.ownsRow lo T size v n xs := by
  refine ⟨h.1, ?_⟩
  rcases h.2 with h1 | ⟨g, cap, cur, rfl, hb, hg, hr⟩
  · exact .inl h1
  · exact .inr ⟨g, cap, cur, rfl, hb, (hk g rfl).trans hg, hr⟩
theorem own_addr {A : Option Addr} {n c b : Nat} (h : (Value.slice A n c).ownBlock = some b) : b ∈ A.toList.map Addr.block := by
  cases A with
  | none => simp [Value.ownBlock] at h
  | some a => obtain ⟨g, o, q⟩ := a; simp [Value.ownBlock] at h ⊢; simp [h]
theorem Own.keep {w w' : World} {T : TypeId} {lo : Nat} {x : Nd} (h : Own w T lo x) (hk : ∀ b ∈ blks x, w'.heap[b]? = w.heap[b]?) : Own w' T lo x := by
  induction h with
  | mk x hf hr hk' ih =>
    refine .mk x hf (row_keep hr fun b hb => hk b ?_) fun u hu => ih u hu fun b hb => hk b ?_
    · rw [blks_eq]
      exact List.mem_append_left _ (own_addr hb)
    · rw [blks_eq]
      exact List.mem_append_right _ (blksL_mem.2 ⟨u, hu, hb⟩)
theorem Own.mono {w : World} {T : TypeId} {lo lo' : Nat} {x : Nd} (h : Own w T lo x) (hl : lo' ≤ lo) : Own w T lo' x := by
  induction h with
  | mk x hf hr hk ih => exact .mk x hf (hr.mono hl) ih
theorem fin6_heap (w : World) (b : Nat) (v1 v2 v3 v4 v5 v6 : Value) (k : Nat) (hk : b + 2 ≤ k) : (fin6 w b v1 v2 v3 v4 v5 v6).heap[k]? = w.heap[k]? := by
  unfold fin6
  rw [Below.heap_setCell _ _ _ _ (by show k ≠ b + 1; omega), Below.heap_setCell _ _ _ _ (by show k ≠ b + 1; omega), Below.heap_setCell _ _ _ _ (by show k ≠ b + 1; omega), Below.heap_setCell _ _ _ _ (by show k ≠ b + 1; omega), Below.heap_setCell _ _ _ _ (by show k ≠ b + 1; omega), Below.heap_setCell _ _ _ _ (by show k ≠ b; omega)]
/-- A copy of a list, k kids of it done. -/
structure CL (T : TypeId) (ts xs : List Nd) (w : World) (k : Nat) (v : Value) (wr : World) : Prop where
  len : xs.length = k
  likes : ∀ (i : Nat) (t x : Nd), ts[i]? = some t → xs[i]? = some x → like t x = true
  own : wr.ownsRow w.heap.size T 5 v k (cells xs)
  each : ∀ x ∈ xs, Own wr T w.heap.size x
  nodup : (blksL xs).Nodup
  apart : ∀ g, v.ownBlock = some g → g ∉ blksL xs
  below : Below w.heap.size w wr
theorem CL.step {T : TypeId} {ts xs : List Nd} {w wr w1 w2 w3 : World} {k : Nat} {v v' : Value} {t x : Nd} (h : CL T ts xs w k v wr) (ht : ts[k]? = some t) (hl : like t x = true) (hx : Own w1 T wr.heap.size x) (hn : (blks x).Nodup) (hb1 : Below wr.heap.size wr w1)
    (hb2 : Below w1.heap.size w1 w2) (hown : w3.ownsRow w.heap.size T 5 v' (k + 1) (cells xs ++ x.cs)) (hg : w2.grownBy w3 v.ownBlock) (hv : ∀ g, v'.ownBlock = some g → v.ownBlock = some g ∨ w2.heap.size ≤ g) : CL T ts (xs ++ [x]) w (k + 1) v' w3 := by
  have s1 := hb1.size
  have s2 := hb2.size
  have s3 := hg.size
  have h1 := h.len
  have s0 := h.below.size
  have hvl : ∀ g, v.ownBlock = some g → w.heap.size ≤ g ∧ g < wr.heap.size := h.own.lt
  have hxs : ∀ b ∈ blksL xs, w.heap.size ≤ b ∧ b < wr.heap.size := fun b hb => by
    obtain ⟨u, hu, hbu⟩ := blksL_mem.1 hb
    exact (h.each u hu).lt b hbu
  refine ⟨by simp [h1], fun i t' x' hi hx' => ?_, ?_, fun y hy => ?_, ?_, fun g hgv hm => ?_, ?_⟩
  · rcases Nat.lt_or_ge i k with hlt | hge
    · rw [List.getElem?_append_left (by omega)] at hx'
      exact h.likes i t' x' hi hx'
    · have hik : i = k := by
        have := (List.getElem?_eq_some_iff.1 hx').1
        simp at this
        omega
      subst hik
      rw [List.getElem?_append_right (by omega), h1] at hx'
      simp at hx'
      subst hx'
      obtain rfl := Option.some.inj (ht.symm.trans hi)
      exact hl
  · rw [cells_append, cells_one]
    exact hown
  · rcases List.mem_append.1 hy with hy | hy
    · refine (h.each y hy).keep fun b hb => ?_
      have hbx : b ∈ blksL xs := blksL_mem.2 ⟨y, hy, hb⟩
      have := hxs b hbx
      exact ((hg.block b (by omega) (fun e => h.apart b e.symm hbx)).trans (hb2.block b (by omega))).trans (hb1.block b this.2)
    · obtain rfl := List.mem_singleton.1 hy
      refine (hx.keep fun b hb => ?_).mono s0
      have := hx.lt b hb
      exact (hg.block b (by omega) (fun e => by have := (hvl b e.symm).2; omega)).trans (hb2.block b this.2)
  · rw [blksL_append]
    refine List.nodup_append.2 ⟨h.nodup, by simpa [blksL] using hn, fun a ha b hb e => ?_⟩
    subst e
    have h1 := hxs a ha
    have h2 := hx.lt a (by simpa [blksL] using hb)
    omega
  · rw [blksL_append] at hm
    rcases List.mem_append.1 hm with hm | hm
    · rcases hv g hgv with e | e
      · exact h.apart g e hm
      · have := hxs g hm; omega
    · have h2 := hx.lt g (by simpa [blksL] using hm)
      rcases hv g hgv with e | e
      · have := (hvl g e).2; omega
      · omega
  · exact ((h.below.trans (hb1.mono (by omega))).trans (hb2.mono (by omega))).trans (below_of_grown hg (by omega) (fun g e => (hvl g e).1))
end NodT
namespace Go.Proofs.YtldedhfbpongmaaDoor
open Go.Instr Go.RowKit NodT
set_option linter.unusedVariables false
def CopyPost (t : Nd) (w : World) (e : Ending) (w' : World) : Prop := ∃ x : Nd, e = .returned x.val ∧ like t x = true ∧ Own w' 25 w.heap.size x ∧ (blks x).Nodup ∧ Below w.heap.size w w'
def CopyOf (t : Nd) : Prop := ∀ (w : World) (B : Nat), In w B t → B ≤ w.heap.size → many t ≤ 1000000 → Calls Tryd.prog 7 #[t.val] w (CopyPost t w)
def CopyLPost (ts : List Nd) (w : World) (e : Ending) (w' : World) : Prop := ∃ (v : Value) (xs : List Nd), e = .returned v ∧ CL 25 ts xs w ts.length v w'
set_option maxHeartbeats 1000000 in
theorem CopyNodes_of (ts : List Nd) (ih : ∀ t ∈ ts, CopyOf t) (hm : ∀ t ∈ ts, many t ≤ 1000000) (hl : ts.length ≤ 1000000) (A : Option Addr) (ca : Nat) (w : World) (B : Nat) (h1 : InL w B A ca ts) (hB : B ≤ w.heap.size) :
    Calls Tryd.prog 18 #[.slice A ts.length ca] w (CopyLPost ts w) := by
  obtain ⟨i0, hi, hz0, hz1, hz2⟩ := info_parts Tryd.infoNode
  have l1 := h1.len
  have l2 := h1.cap
  unfold maxLen at l2
  have HI := Lib.hid hi
  have HZ := Lib.hid (And.intro hz0 (And.intro hz1 hz2))
  clear hi hz0 hz1 hz2
  have hl1 : CL 25 ts [] w 0 (.slice none 0 0) w := ⟨rfl, fun i t x _ h => by simp at h, ⟨by simp [cells], .inl ⟨rfl, rfl⟩⟩, fun x h => by simp at h, by simp [blksL], fun g h => by simp [Value.ownBlock] at h, Below.refl _ _⟩
  go_enter Tryd.func18, Tryd.ntmps18
  go_wp2_with fail
  go_loopg [3, 4] ts.length (fun g s i wr => ∃ (k : Nat) (xs : List Nd), k ≤ ts.length ∧ g = ts.length - k ∧ i = .int .i64 k ∧ CL 25 ts xs w k s wr)
  case atStart => exact ⟨0, [], by omega, rfl, rfl, hl1⟩
  case round =>
    clear hl1
    obtain ⟨k, xs, hk, hgk, rfl, hX⟩ := hrel
    have HGK := Lib.hid hgk
    clear hgk
    have hBr : w.heap.size ≤ wr.heap.size := hX.below.size
    by_cases hlt : k < ts.length
    · obtain ⟨t, ht⟩ : ∃ t, ts[k]? = some t := ⟨_, List.getElem?_eq_getElem hlt⟩
      have i1 := h1.under (hX.below.mono hB)
      obtain ⟨ab, ao, ha, hab, c0, c1, c2, c3, c4⟩ := i1.at_ ht
      subst ha
      have j1 := i1.kid ht
      have HT := Lib.hid ht
      have HI2 := Lib.hid (ih t (List.mem_of_getElem? ht))
      have hmt := hm t (List.mem_of_getElem? ht)
      clear ht ih i1 h1 hm
      go_wp2_with fail
      refine (HI2.out _ B j1 (by omega) hmt).mono ?_
      rintro e w2 ⟨x, rfl, hlx, hx, hnx, hb2⟩
      have HO := Lib.hid (hX.own.kept (grown_of_below hb2 none) (Classical.em _))
      have hs2 := hb2.size
      unfold Nd.val Nd.row
      go_wp2_with (at_builtin; refine wpList_append_far rfl (.tmp 17) (.tmp 19) 23 rfl w.heap.size 25 i0 _ 5 64 Tryd.underlying23 HI.out HZ.out.1 HZ.out.2.1 HZ.out.2.2 rfl (by decide) _ k (cells xs) rfl ((HO.out.alloc _).alloc _) _ 1 1 rfl (fun h => by cases h) x.cs rfl ?c1 ?c2 ?c3 ?c4 ?c5 ?next)
      case c1 => exact fun ad had => by injection had with had; subst had; exact cells_new _ _ _ _ (by simp)
      case c2 => exact cs_oneCell x
      case c3 => unfold maxLen; omega
      case c4 => omega
      case c5 => simp; omega
      case next =>
        intro v3 w3 hown3 hg3 hfar
        have hnew := hX.step HT.out hlx hx hnx hb2 (((Below.refl _ _).alloc (Nat.le_refl _) _).alloc (by simp) _) hown3 hg3 (by simpa using hfar)
        clear hown3 hg3 hfar hX hx hb2 hlx hnx
        go_wp2_with fail
        go_roundg (ts.length - (k + 1))
        case rel => exact ⟨k + 1, _, by omega, rfl, by go_num, hnew⟩
        case measure => rw [HGK.out]; omega
    · have hkl : k = ts.length := by omega
      rw [hkl] at hX
      clear h1 hm ih
      go_wp2_with fail
      go_ret
      exact ⟨_, xs, rfl, hX⟩
theorem CopyNode_any : ∀ t, CopyOf t := by
  refine Nd.rose fun t ih => ?_
  intro w B h hB hm
  have hme := many_eq t
  have hll := length_le_manyL t.kids
  have HS := Lib.hid (CopyNodes_of t.kids ih (fun u hu => by have := manyL_mem hu; omega) (by omega))
  have HF := Lib.hid h.fits
  have HL := Lib.hid (like_eq t)
  have HM : Hid (t.kids.length ≤ 1000000) := by show _ ≤ _; omega
  clear ih hme hll hm
  unfold Nd.val Nd.row
  go_enter Tryd.func7, Tryd.ntmps7
  go_wp2_with fail
  refine (HS.out _ _ _ B ((h.list.alloc hB _).alloc (by simp; omega) _) (by simp; omega)).mono ?_
  rintro e w1 ⟨v, xs, rfl, hc⟩
  clear h HS
  obtain ⟨h1, h2, h3, h4, h5, h6, h7⟩ := hc
  obtain ⟨A, c, hv, hA, hAc, hcm⟩ : ∃ (A : Option Addr) (c : Nat), v = .slice A t.kids.length c ∧ (A = none → t.kids.length = 0 ∧ c = 0) ∧ t.kids.length ≤ c ∧ c ≤ maxLen := by
    rcases h3.2 with ⟨h0, h1⟩ | ⟨g, cap, cur, h0, _, _, h1, h2, _⟩
    · exact ⟨none, 0, by rw [h0, h1], fun _ => ⟨h1, rfl⟩, by omega, by simp [maxLen]⟩
    · exact ⟨_, _, h0, (fun h => nomatch h), h1, h2⟩
  subst hv
  have bb := (Blk5.new w 25 (.int .u8 t.kind) (.string t.text) (.int .i64 t.num) (.int .i64 t.place) (.slice t.addr t.kids.length t.cap)).under ((Below.refl _ _).alloc (by simp) (.cells #[.int .u8 0, .string ⟨#[]⟩, .int .i64 0, .int .i64 0, .slice none 0 0] 25)) (B := w.heap.size + 1) (by omega)
  obtain ⟨c0, c1, c2, c3, c4, f0, f1, f2, f3, f4⟩ := bb.under h7 (by simp; omega)
  have bz := Blk5.new (w.alloc (.cells #[.int .u8 t.kind, .string t.text, .int .i64 t.num, .int .i64 t.place, .slice t.addr t.kids.length t.cap] 25)) 25 (.int .u8 0) (.string ⟨#[]⟩) (.int .i64 0) (.int .i64 0) (.slice none 0 0)
  have bz1 : Blk5 w1 (w.heap.size + 1) (.int .u8 0) (.string ⟨#[]⟩) (.int .i64 0) (.int .i64 0) (.slice none 0 0) := by
    have := bz.under h7 (by simp)
    simpa using this
  obtain ⟨d0, d1, d2, d3, d4, g0, g1, g2, g3, g4⟩ := bz1
  clear bb bz
  have hs2 : (w.alloc (.cells #[.int .u8 t.kind, .string t.text, .int .i64 t.num, .int .i64 t.place, .slice t.addr t.kids.length t.cap] 25) |>.alloc (.cells #[.int .u8 0, .string ⟨#[]⟩, .int .i64 0, .int .i64 0, .slice none 0 0] 25)).heap.size = w.heap.size + 2 := by simp
  rw [hs2] at h3 h4
  have H1 := Lib.hid h1
  have H2 := Lib.hid h2
  have H3 := Lib.hid h3
  have H4 := Lib.hid h4
  have H5 := Lib.hid h5
  have H6 := Lib.hid h6
  have H7 := Lib.hid h7
  have HA := Lib.hid (And.intro hA (And.intro hAc hcm))
  have hz : w.heap.size + 1 < w1.heap.size := by have := h7.size; simp at this; omega
  clear h1 h2 h3 h4 h5 h6 h7 hA hAc hcm hs2
  go_wp2_with fail
  refine bodyPost_ret (v := (Nd.mk t.kind t.text t.num t.place A c xs).val) (by rw [val_mk, H1.out]; simp [results, Tryd.results7, go_sem, d0, d1, d2, d3, d4]) rfl ?_
  have hT := HF.out
  have e1 : xs.length = t.kids.length := H1.out
  generalize hv1 : Value.slice A t.kids.length c = v1
  have hk : ∀ b, b ∈ blks (Nd.mk t.kind t.text t.num t.place A c xs) → (fin6 w1 w.heap.size v1 (.int .u8 t.kind) (.string t.text) (.int .i64 t.num) (.int .i64 t.place) v1).heap[b]? = w1.heap[b]? := fun b hb => fin6_heap _ _ _ _ _ _ _ _ _ (by
    rw [blks_eq] at hb
    rcases List.mem_append.1 hb with hb | hb
    · exact (H3.out.lt b (row_block H3.out hb).1).1
    · obtain ⟨u, hu, hbu⟩ := blksL_mem.1 hb
      exact ((H4.out u hu).lt b hbu).1)
  show CopyPost t w _ (fin6 w1 w.heap.size v1 _ _ _ _ v1)
  refine ⟨_, rfl, by rw [like_mk]; simp [(likeL_iff _ _).2 ⟨e1.symm, H2.out⟩], ?_, ?_, ?_⟩
  · refine Own.mono (lo := w.heap.size + 2) ?_ (by omega)
    refine Own.keep (w := w1) ?_ hk
    exact .mk _ ⟨hT.kind, hT.text, hT.num, hT.place, by show xs.length ≤ c; have := HA.out.2.1; omega, HA.out.2.2, fun h => by show xs.length = 0 ∧ c = 0; have := HA.out.1 h; omega⟩ (by show w1.ownsRow _ _ _ (.slice A xs.length c) xs.length (cells xs); rw [e1]; exact H3.out) (fun u hu => H4.out u hu)
  · rw [blks_eq]
    refine List.nodup_append.2 ⟨?_, H5.out, fun a ha b hb e => ?_⟩
    · cases A <;> simp [Nd.addr]
    · subst e
      exact H6.out a (row_block H3.out ha).1 hb
  · exact fin6_below ((((Below.refl _ _).alloc (Nat.le_refl _) _).alloc (by simp) _).trans (H7.out.mono (by simp; omega))) _ _ _ _ _ _
end Go.Proofs.YtldedhfbpongmaaDoor
