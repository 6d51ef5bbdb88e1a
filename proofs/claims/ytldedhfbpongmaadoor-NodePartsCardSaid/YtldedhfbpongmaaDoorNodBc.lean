/- Bare: the copy without places. -/
import Derived.Test.YtldedhfbpongmaaDoorNodAr
import Derived.Test.YtldedhfbpongmaaDoorNodBb
set_option maxRecDepth 100000
namespace Go
open Go.RowKit
/-- append onto a row of the call's own, nil or not, of a slice that may be nil. -/
theorem wpList_append_own_any {P : Program} {ops : Array Oper} {rest : List Oper} {o : Oper} {a : Act} {w : World} {Q : Exit → Act → World → Prop}
    (hg : o.guard = none) (s x : Operand) (t : TypeId) (hop : o.op = Op.call { callee := Callee.builtin Builtin.append, args := #[s, x], argTypes := #[t, t] })
    (base : Nat) (e : TypeId) (i : TypeInfo) (z : Value) (size bytes : Nat) (ht : P.underlying t = some (.slice e)) (hi : P.info? e = some i) (hz : i.zero = some z)
    (hsize : i.size = size) (hby : i.bytes = bytes) (hzs : z.cells.size = size) (hsz : 0 < size)
    (v : Value) (n : Nat) (xs : List Value) (hs : a.eval s = v) (hown : w.ownsRow base e size v n xs)
    (ao : Option Addr) (m c : Nat) (hx : a.eval x = .slice ao m c) (hnone : ao = none → m = 0 ∧ c = 0) (news : List Value) (hl : news.length = m * size) (hnews : ∀ ad, ao = some ad → ∀ j u, news[j]? = some u → w.cell? (ad.add j) = some u) (h1 : ∀ u ∈ news, u.oneCell' = true)
    (h63 : n + m ≤ maxLen) (hbytes : (n + m) * bytes ≤ 140737488355328) (hbase : base ≤ w.heap.size)
    (hK : ∀ v' w', w'.ownsRow base e size v' (n + m) (xs ++ news) → w.grownBy w' v.ownBlock → (v' = .slice none 0 0 ↔ v = .slice none 0 0 ∧ m = 0) → wpList P ops Q rest (a.put o.dst v') w') :
    wpList P ops Q (o :: rest) a w := by
  refine wpList_plain hg fun K hK' => ?_
  obtain ⟨v', w', hrun, h2, h3, h4⟩ := run_append_own_any (P := P) w base t o.type e i z size bytes ht hi hz hsize hby hzs hsz v n xs hown ao m c hnone news hl hnews h1 h63 hbytes hbase
  unfold Oper.wp
  simp [execOp, hop, resolve, invoke, builtin, hs, hx, hrun, Result.andThen]
  exact hK' _ _ (hK _ _ h2 h3 h4)
end Go
namespace NodT
open Go Go.RowKit
set_option linter.unusedVariables false
/-- Pointers to spots. -/
def ptrs (es : List Sp) : List Value := es.map fun e => .pointer (some ⟨e.1.1, e.1.2, none⟩)
theorem ptrs_append (a b : List Sp) : ptrs (a ++ b) = ptrs a ++ ptrs b := by simp [ptrs]
theorem ptrs_length (a : List Sp) : (ptrs a).length = a.length := by simp [ptrs]
theorem ptrs_one (a : List Sp) : ∀ v ∈ ptrs a, v.oneCell' = true := by
  intro v hv
  obtain ⟨e, _, rfl⟩ := List.mem_map.1 hv
  rfl
def zb (w : World) (b : Nat) : Prop := Blk5 w b (.int .u8 0) (.string ⟨#[]⟩) (.int .i64 0) (.int .i64 0) (.slice none 0 0)
/-- Between two rounds. -/
structure BR (t : Nd) (w : World) (B TP : Nat) (wr : World) (gs n c : Nat) (T pend : List Sp) : Prop where
  bg : Bg wr w.heap.size B T pend
  root : ((w.heap.size, 0), t) ∈ T
  own : wr.ownsRow w.heap.size TP 1 (.slice (some ⟨gs, 0, none⟩) n c) n (ptrs pend)
  len : n = pend.length
  gsb : ∀ x ∈ T, x.1.1 ≠ gs
  gs1 : gs ≠ w.heap.size + 1 ∧ w.heap.size ≤ gs
  b1 : ∀ x ∈ T, x.1.1 ≠ w.heap.size + 1
  res : zb wr (w.heap.size + 1)
  bel : Below w.heap.size w wr
  sum : manyL (pend.map Prod.snd) ≤ many t
theorem Bg.keep {w w' : World} {base B : Nat} {T pend : List Sp} (h : Bg w base B T pend) (hs : w.heap.size ≤ w'.heap.size) (hlow : ∀ p : Addr, p.block < B → w'.cell? p = w.cell? p) (hk : ∀ x ∈ T, ∀ o, w'.cell? ⟨x.1.1, o, none⟩ = w.cell? ⟨x.1.1, o, none⟩ ∧ w'.frozen? ⟨x.1.1, o, none⟩ = w.frozen? ⟨x.1.1, o, none⟩) : Bg w' base B T pend := by
  obtain ⟨h1, h2, h3, h4, h5, h6, h7⟩ := h
  refine ⟨h1, h2, h3, fun e he => ?_, fun e he => (h5 e he).keep hlow, fun e he => ?_, fun e he hn => ?_⟩
  · obtain ⟨q1, q2, q3⟩ := h4 e he
    exact ⟨q1, by omega, q3⟩
  · obtain ⟨q1, q2⟩ := h6 e he
    exact ⟨q1.keep fun j _ => (hk e (h3 e he) _).1, fun j => ((hk e (h3 e he) _).2).trans (q2 j)⟩
  · exact (h7 e he hn).keep fun j _ => (hk e he _).1
theorem val_of_cs {w : World} {p : Nat × Nat} {t : Nd} {v0 v1 v2 v3 v4 : Value} (h : CsAt w p t.cs) (h0 : w.cell? ⟨p.1, p.2 + 0, none⟩ = some v0) (h1 : w.cell? ⟨p.1, p.2 + 1, none⟩ = some v1) (h2 : w.cell? ⟨p.1, p.2 + 2, none⟩ = some v2) (h3 : w.cell? ⟨p.1, p.2 + 3, none⟩ = some v3) (h4 : w.cell? ⟨p.1, p.2 + 4, none⟩ = some v4) : t.val = .agg #[v0, v1, v2, v3, v4] := by
  have e0 := h 0 _ rfl
  have e1 := h 1 _ rfl
  have e2 := h 2 _ rfl
  have e3 := h 3 _ rfl
  have e4 := h 4 _ rfl
  rw [h0] at e0; rw [h1] at e1; rw [h2] at e2; rw [h3] at e3; rw [h4] at e4
  injection e0 with e0; injection e1 with e1; injection e2 with e2; injection e3 with e3; injection e4 with e4
  subst e0 e1 e2 e3 e4
  rfl
end NodT
namespace Go.Proofs.YtldedhfbpongmaaDoor
open Go.Instr Go.RowKit NodT
set_option linter.unusedVariables false
theorem Tryd.infoPn : (Tryd.prog.info? 45).map (fun i => (i.zero, i.size, i.bytes)) = some (some (.pointer none), 1, 8) := by kernel_rfl
def BarePost (t : Nd) (w : World) (e : Ending) (w' : World) : Prop := ∃ t' : Nd, e = .returned t'.val ∧ In w' w'.heap.size t' ∧ same t t' = true ∧ zero t' = true ∧ Below w.heap.size w w'
theorem bare_start (t : Nd) (w : World) (B : Nat) (h : In w B t) (hB : B ≤ w.heap.size) :
    BR t w B 45 (((w.alloc (.cells #[.int .u8 t.kind, .string t.text, .int .i64 t.num, .int .i64 t.place, .slice t.addr t.kids.length t.cap] 25)).alloc (.cells #[.int .u8 0, .string ⟨#[]⟩, .int .i64 0, .int .i64 0, .slice none 0 0] 25)).alloc (.cells #[.pointer (some ⟨w.heap.size, 0, none⟩)] 45)) (w.heap.size + 1 + 1) 1 1 [((w.heap.size, 0), t)] [((w.heap.size, 0), t)] := by
  have hbel : Below w.heap.size w (((w.alloc (.cells #[.int .u8 t.kind, .string t.text, .int .i64 t.num, .int .i64 t.place, .slice t.addr t.kids.length t.cap] 25)).alloc (.cells #[.int .u8 0, .string ⟨#[]⟩, .int .i64 0, .int .i64 0, .slice none 0 0] 25)).alloc (.cells #[.pointer (some ⟨w.heap.size, 0, none⟩)] 45)) := (((Below.refl _ _).alloc (Nat.le_refl _) _).alloc (by simp) _).alloc (by simp; omega) _
  refine ⟨⟨by simp, by simp, by simp, fun e he => ?_, fun e he => ?_, fun e he => ?_, fun e he hn => absurd he hn⟩, by simp, ?_, by simp, fun x hx => ?_, ⟨by omega, by omega⟩, fun x hx => ?_, ?_, hbel, by simp [manyL]⟩
  · obtain rfl := List.mem_singleton.1 he
    exact ⟨Nat.le_refl _, by simp; omega, rfl⟩
  · obtain rfl := List.mem_singleton.1 he
    exact h.under (hbel.mono hB)
  · obtain rfl := List.mem_singleton.1 he
    refine ⟨fun j v hv => ?_, fun j => ?_⟩
    · have hj : j < 5 := (List.getElem?_eq_some_iff.1 hv).1
      rw [World.cell?_alloc_lt _ _ _ (by simp; omega), World.cell?_alloc_lt _ _ _ (by simp), World.cell?_alloc_new]
      simpa [Nd.cs, Nd.row] using hv
    · simp [go_sem]
  · have e1 : w.heap.size + 1 + 1 = ((w.alloc (.cells #[.int .u8 t.kind, .string t.text, .int .i64 t.num, .int .i64 t.place, .slice t.addr t.kids.length t.cap] 25)).alloc (.cells #[.int .u8 0, .string ⟨#[]⟩, .int .i64 0, .int .i64 0, .slice none 0 0] 25)).heap.size := by simp
    refine ⟨rfl, .inr ⟨_, 1, #[.pointer (some ⟨w.heap.size, 0, none⟩)], rfl, by omega, ?_, Nat.le_refl _, by simp [maxLen], by simp, by simp [ptrs]⟩⟩
    rw [e1]
    exact heap_alloc_new _ _
  · obtain rfl := List.mem_singleton.1 hx
    show w.heap.size ≠ _
    omega
  · obtain rfl := List.mem_singleton.1 hx
    show w.heap.size ≠ _
    omega
  · have hb : Below (w.heap.size + 1 + 1) ((w.alloc (.cells #[.int .u8 t.kind, .string t.text, .int .i64 t.num, .int .i64 t.place, .slice t.addr t.kids.length t.cap] 25)).alloc (.cells #[.int .u8 0, .string ⟨#[]⟩, .int .i64 0, .int .i64 0, .slice none 0 0] 25)) (((w.alloc (.cells #[.int .u8 t.kind, .string t.text, .int .i64 t.num, .int .i64 t.place, .slice t.addr t.kids.length t.cap] 25)).alloc (.cells #[.int .u8 0, .string ⟨#[]⟩, .int .i64 0, .int .i64 0, .slice none 0 0] 25)).alloc (.cells #[.pointer (some ⟨w.heap.size, 0, none⟩)] 45)) := (Below.refl _ _).alloc (by simp) _
    have h5 := Blk5.new (w.alloc (.cells #[.int .u8 t.kind, .string t.text, .int .i64 t.num, .int .i64 t.place, .slice t.addr t.kids.length t.cap] 25)) 25 (.int .u8 0) (.string ⟨#[]⟩) (.int .i64 0) (.int .i64 0) (.slice none 0 0)
    rw [show (w.alloc (.cells #[.int .u8 t.kind, .string t.text, .int .i64 t.num, .int .i64 t.place, .slice t.addr t.kids.length t.cap] 25)).heap.size = w.heap.size + 1 from by simp] at h5
    exact h5.under hb (by omega)
end Go.Proofs.YtldedhfbpongmaaDoor
