/- NodeGreat: the walk. -/
import Derived.Test.YtbiohbklefjfiaaDoorNodGa
import Derived.Test.YtbiohbklefjfiaaDoorRows
set_option maxRecDepth 100000
namespace NodT
open Go Go.RowKit
/-- What the outer loop keeps. -/
structure Gr (w : World) (wr : World) : Prop where
  ops : OpsAt 1 wr
  below : Below w.heap.size w wr
/-- The variable of the inner loop. -/
structure Gi (w : World) (g k : Nat) (x : Nd) (wr : World) : Prop where
  box : Blk5 wr g (.int .u8 x.kind) (.string x.text) (.int .i64 x.num) (.int .i64 x.place) (.slice x.addr x.kids.length x.cap)
  er : er x = nest k
  inx : InX wr g x
  lt : g < wr.heap.size
  ge : w.heap.size ≤ g
  gr : Gr w wr
theorem Gr.later {w a b : World} (h : Gr w a) (hb : Below a.heap.size a b) : Gr w b := ⟨h.ops.under hb, h.below.trans (hb.mono h.below.size)⟩
theorem Gi.start {w a b : World} (h : Gr w a) (hb : Below a.heap.size a b) : Gi w b.heap.size 0 (.mk 21 ⟨#[49]⟩ 0 0 none 0 []) (b.alloc (.cells #[.int .u8 21, .string ⟨#[49]⟩, .int .i64 0, .int .i64 0, .slice none 0 0] 25)) := by
  have h2 := h.later hb
  have h3 : Below b.heap.size b (b.alloc (.cells #[.int .u8 21, .string ⟨#[49]⟩, .int .i64 0, .int .i64 0, .slice none 0 0] 25)) := (Below.refl _ _).alloc (Nat.le_refl _) _
  exact ⟨Blk5.new _ _ _ _ _ _ _, rfl, InX.leaf _ _ _ _ (by decide) (by decide), by simp, h2.below.size, h2.later h3⟩
theorem Gi.step {w : World} {g k : Nat} {x : Nd} {a b : World} (h : Gi w g k x a) (hb : Below (a.alloc (.cells #[.int .u8 x.kind, .string x.text, .int .i64 x.num, .int .i64 x.place, .slice x.addr x.kids.length x.cap] 25)).heap.size (a.alloc (.cells #[.int .u8 x.kind, .string x.text, .int .i64 x.num, .int .i64 x.place, .slice x.addr x.kids.length x.cap] 25)) b) :
    Gi w g (k + 1) (.mk 26 ⟨#[45]⟩ 0 0 (some ⟨a.heap.size, 0, none⟩) 1 [x]) (put5 b g (.int .u8 26) (.string ⟨#[45]⟩) (.int .i64 0) (.int .i64 0) (.slice (some ⟨a.heap.size, 0, none⟩) 1 1)) := by
  have hsz : (a.alloc (.cells #[.int .u8 x.kind, .string x.text, .int .i64 x.num, .int .i64 x.place, .slice x.addr x.kids.length x.cap] 25)).heap.size = a.heap.size + 1 := by simp
  have hs := hb.size
  rw [hsz] at hs
  have hab : Below a.heap.size a b := ((Below.refl _ _).alloc (Nat.le_refl _) _).trans (hb.mono (by rw [hsz]; omega))
  have hlt := h.lt
  have hge := h.ge
  have hp : Below w.heap.size w (put5 b g (.int .u8 26) (.string ⟨#[45]⟩) (.int .i64 0) (.int .i64 0) (.slice (some ⟨a.heap.size, 0, none⟩) 1 1)) := put5_below ((h.gr.later hab).below) hge _ _ _ _ _
  refine ⟨(h.box.under hab hlt).put5 _ _ _ _ _, ?_, (h.inx.wrap hlt hb 26 ⟨#[45]⟩ (by decide) (by decide)).put _ _ _ _ _, by rw [put5_size]; omega, hge, ?_, hp⟩
  · show Nd.mk 26 ⟨#[45]⟩ 0 0 none 0 [NodT.er x] = _
    rw [h.er]
    rfl
  · obtain ⟨t, fr, ho⟩ := (h.gr.later hab).ops
    have hb' : Blk5 b g _ _ _ _ _ := h.box.under hab hlt
    refine ⟨t, fr, ?_⟩
    have hne : 1 ≠ g := by
      rintro rfl
      have c0 := hb'.c0
      rw [Lib.cell_of_heap ho] at c0
      simp [opsCells] at c0
    unfold put5
    rw [set_else _ _ _ _ _ hne, set_else _ _ _ _ _ hne, set_else _ _ _ _ _ hne, set_else _ _ _ _ _ hne, set_else _ _ _ _ _ hne]
    exact ho
end NodT
namespace NodT
open Go Go.RowKit
set_option linter.unusedVariables false
theorem setCells_list (g : Nat) (tn : TypeId) (post : List Value) : ∀ (vs pre old : List Value) (w : World), old.length = vs.length → w.heap[g]? = some (.cells (pre ++ old ++ post).toArray tn) → (w.setCells g pre.length vs).heap[g]? = some (.cells (pre ++ vs ++ post).toArray tn) := by
  intro vs
  induction vs with
  | nil =>
    intro pre old w hl h
    obtain rfl := List.eq_nil_of_length_eq_zero hl
    exact h
  | cons v vs ih =>
    intro pre old w hl h
    match old, hl with
    | o :: old, hl =>
      have h1 := set_heap w g pre.length v _ tn h
      have h2 : (pre ++ (o :: old) ++ post).toArray.setIfInBounds pre.length v = ((pre ++ [v]) ++ old ++ post).toArray := by
        apply Array.ext'
        rw [Array.toList_setIfInBounds]
        simp
      rw [h2] at h1
      have h3 := ih (pre ++ [v]) old _ (by simpa using hl) h1
      rw [List.length_append] at h3
      rw [World.setCells]
      have : pre ++ [v] ++ vs ++ post = pre ++ v :: vs ++ post := by simp
      rw [← this]
      exact h3
theorem setCells_below {a : World} {B g : Nat} (hB : B ≤ g) : ∀ (vs : List Value) (o : Nat) (w : World), Below B a w → Below B a (w.setCells g o vs) := by
  intro vs
  induction vs with
  | nil => intro o w h; exact h
  | cons v vs ih => intro o w h; exact ih (o + 1) _ (h.setCell (p := ⟨g, o, none⟩) hB v)
/-- A row of breaks, so many written. -/
structure Wd (w : World) (g N k : Nat) (wr : World) : Prop where
  row : ∃ rest : List Value, rest.length = (N - k) * 5 ∧ wr.heap[g]? = some (.cells (cells (List.replicate k brk) ++ rest).toArray 25)
  ge : w.heap.size ≤ g
  ops : 1 < w.heap.size
  gr : Gr w wr
theorem Wd.step {w a b : World} {g N k : Nat} (h : Wd w g N k a) (hk : k < N) (hb : Below a.heap.size a b) : Wd w g N (k + 1) (b.setCells g (k * 5) brk.cs) ∧ b.there g (k * 5) 5 := by
  obtain ⟨rest, hr, hh⟩ := h.row
  have hlt := lt_of_heap hh
  have hhb := (hb.block g hlt).trans hh
  have hlen : (cells (List.replicate k brk)).length = k * 5 := by rw [cells_length, List.length_replicate]
  have hmul : (N - k) * 5 = (N - (k + 1)) * 5 + 5 := by omega
  have hd : Below w.heap.size w b := (h.gr.later hb).below
  have hcs : brk.cs.length = 5 := rfl
  generalize hbk : brk.cs = bc at *
  have hrow : (b.setCells g (k * 5) bc).heap[g]? = some (.cells (cells (List.replicate (k + 1) brk) ++ rest.drop 5).toArray 25) := by
    have h1 : b.heap[g]? = some (.cells (cells (List.replicate k brk) ++ rest.take 5 ++ rest.drop 5).toArray 25) := by
      rw [List.append_assoc, List.take_append_drop]
      exact hhb
    have h2 := setCells_list g 25 (rest.drop 5) bc (cells (List.replicate k brk)) (rest.take 5) b (by rw [List.length_take, hr, hmul, hcs]; omega) h1
    rw [hlen] at h2
    have h3 : cells (List.replicate (k + 1) brk) = cells (List.replicate k brk) ++ bc := by rw [List.replicate_succ', cells_append, cells_one, hbk]
    rw [h3]
    exact h2
  have hbel : Below w.heap.size w (b.setCells g (k * 5) bc) := setCells_below h.ge _ _ _ hd
  have hop : OpsAt 1 (b.setCells g (k * 5) bc) := by
    have ho := (h.gr.later hb).ops
    have e1 := hbel.block 1 h.ops
    have e2 := hd.block 1 h.ops
    exact ho.block (e1.trans e2.symm)
  refine ⟨⟨⟨rest.drop 5, ?_, hrow⟩, h.ge, h.ops, hop, hbel⟩, ?_⟩
  · rw [List.length_drop, hr]; omega
  · intro j hj
    refine ⟨?_, Lib.frozen_of_heap hhb _⟩
    rw [Lib.cell_of_heap hhb, Array.getElem?_eq_getElem (by rw [List.size_toArray, List.length_append, hlen, hr]; omega)]
    rfl
theorem own_of_heap {w : World} {g N base : Nat} {e : TypeId} (hb : base ≤ g) (hm : N ≤ maxLen) (h : w.heap[g]? = some (.cells (cells (List.replicate N brk)).toArray e)) :
    w.ownsRow base e 5 (.slice (some ⟨g, 0, none⟩) N N) N (cells (List.replicate N brk)) := by
  have hl : (cells (List.replicate N brk)).length = N * 5 := by rw [cells_length]; simp
  exact ⟨hl, .inr ⟨g, N, _, rfl, hb, h, Nat.le_refl _, hm, by simp [hl], by simp [← hl]⟩⟩
theorem wide_in {w : World} {g c N base : Nat} {e : TypeId} (h : w.ownsRow base e 5 (.slice (some ⟨g, 0, none⟩) N c) N (cells (List.replicate N brk))) (hc : N ≤ c) (hm : c ≤ maxLen) : In w w.heap.size (.mk 9 ⟨#[]⟩ 0 0 (some ⟨g, 0, none⟩) c (List.replicate N brk)) := by
  have hl := lies_of_own h
  refine .mk _ ⟨by show 9 < 256; decide, by show (⟨#[]⟩ : ByteArray).size ≤ maxLen; decide, by show (-9223372036854775808 : Int) ≤ 0 ∧ (0 : Int) ≤ 9223372036854775807; decide, by show (-9223372036854775808 : Int) ≤ 0 ∧ (0 : Int) ≤ 9223372036854775807; decide, by show (List.replicate N brk).length ≤ c; simp; exact hc, hm, fun h => by cases h⟩ hl (fun i u hi => ?_)
  obtain rfl := List.eq_of_mem_replicate (List.mem_of_getElem? hi)
  exact Go.Proofs.YtbiohbklefjfiaaDoor.leaf_in _ _ _ _ (by decide) (by decide)
end NodT
namespace Go
open Go.RowKit
/-- append onto a row of the call's own, behind a guard that is met. -/
theorem wpList_append_wanted {P : Program} {ops : Array Oper} {rest : List Oper} {o : Oper} {a : Act} {w : World} {Q : Exit → Act → World → Prop}
    (hg : Region.wanted o (yielded ops a.tmps) = true) (s x : Operand) (t : TypeId) (hop : o.op = Op.call { callee := Callee.builtin Builtin.append, args := #[s, x], argTypes := #[t, t] })
    (base : Nat) (e : TypeId) (i : TypeInfo) (z : Value) (size bytes : Nat) (ht : P.underlying t = some (.slice e)) (hi : P.info? e = some i) (hz : i.zero = some z)
    (hsize : i.size = size) (hby : i.bytes = bytes) (hzs : z.cells.size = size) (hsz : 0 < size)
    (v : Value) (n : Nat) (xs : List Value) (hs : a.eval s = v) (hown : w.ownsRow base e size v n xs)
    (ao : Option Addr) (m c : Nat) (hx : a.eval x = .slice ao m c) (hnone : ao = none → m = 0 ∧ c = 0) (news : List Value) (hl : news.length = m * size) (hnews : ∀ ad, ao = some ad → ∀ j u, news[j]? = some u → w.cell? (ad.add j) = some u) (h1 : ∀ u ∈ news, u.oneCell' = true)
    (h63 : n + m ≤ maxLen) (hbytes : (n + m) * bytes ≤ 140737488355328) (hbase : base ≤ w.heap.size)
    (hK : ∀ v' w', w'.ownsRow base e size v' (n + m) (xs ++ news) → w.grownBy w' v.ownBlock → (v' = .slice none 0 0 ↔ v = .slice none 0 0 ∧ m = 0) → wpList P ops Q rest (a.put o.dst v') w') :
    wpList P ops Q (o :: rest) a w := by
  refine wpList_step fun K hK' => ?_
  rw [if_pos hg]
  obtain ⟨v', w', hrun, h2, h3, h4⟩ := run_append_own_any (P := P) w base t o.type e i z size bytes ht hi hz hsize hby hzs hsz v n xs hown ao m c hnone news hl hnews h1 h63 hbytes hbase
  unfold Oper.wp
  simp [execOp, hop, resolve, invoke, builtin, hs, hx, hrun, Result.andThen]
  exact hK' _ _ (hK v' w' h2 h3 h4)
end Go
