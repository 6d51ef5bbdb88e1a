/- Trees of nodes as they lie in memory, and what the document says of them: plain definitions and laws; nothing of the program. -/
import Derived.WalkKit
import Derived.Below
import Derived.Deep.Draws
set_option maxRecDepth 100000
namespace NodT
open Go Go.RowKit
set_option linter.unusedVariables false

/-- A tree: kind, text, number, place, where the kids lie, their room, the kids. -/
inductive Nd where
  | mk (k : Nat) (s : ByteArray) (n p : Int) (A : Option Addr) (cap : Nat) (kids : List Nd)

namespace Nd
def kind : Nd → Nat | mk k _ _ _ _ _ _ => k
def text : Nd → ByteArray | mk _ s _ _ _ _ _ => s
def num : Nd → Int | mk _ _ n _ _ _ _ => n
def place : Nd → Int | mk _ _ _ p _ _ _ => p
def addr : Nd → Option Addr | mk _ _ _ _ A _ _ => A
def cap : Nd → Nat | mk _ _ _ _ _ c _ => c
def kids : Nd → List Nd | mk _ _ _ _ _ _ ks => ks
def row (t : Nd) : Value := .slice t.addr t.kids.length t.cap
def cs (t : Nd) : List Value := [.int .u8 t.kind, .string t.text, .int .i64 t.num, .int .i64 t.place, t.row]
def val (t : Nd) : Value := .agg #[.int .u8 t.kind, .string t.text, .int .i64 t.num, .int .i64 t.place, t.row]
theorem eta (t : Nd) : mk t.kind t.text t.num t.place t.addr t.cap t.kids = t := by cases t; rfl
end Nd

/-- The kids lie in the world, below block B, from A on. -/
def Lies (w : World) (B : Nat) (A : Option Addr) (ks : List Nd) : Prop :=
  0 < ks.length → ∃ b o, A = some ⟨b, o, none⟩ ∧ b < B ∧ ∀ (i : Nat) (t : Nd), ks[i]? = some t → ∀ (j : Nat) (v : Value), t.cs[j]? = some v → w.cell? ⟨b, o + i * 5 + j, none⟩ = some v

/-- A node's own numbers are such as their types have. -/
structure Fits (t : Nd) : Prop where
  kind : t.kind < 256
  text : t.text.size ≤ maxLen
  num : -9223372036854775808 ≤ t.num ∧ t.num ≤ 9223372036854775807
  place : -9223372036854775808 ≤ t.place ∧ t.place ≤ 9223372036854775807
  len : t.kids.length ≤ t.cap
  cap : t.cap ≤ maxLen
  nil : t.addr = none → t.kids.length = 0 ∧ t.cap = 0

/-- The tree lies in the world, below block B. -/
inductive In (w : World) (B : Nat) : Nd → Prop
  | mk (t : Nd) (hf : Fits t) (hr : Lies w B t.addr t.kids) (hk : ∀ (i : Nat) (u : Nd), t.kids[i]? = some u → In w B u) : In w B t

section
variable {w w' : World} {B B' : Nat} {t u : Nd}
theorem In.fits (h : In w B t) : Fits t := by cases h; assumption
theorem In.rows (h : In w B t) : Lies w B t.addr t.kids := by cases h; assumption
theorem In.kid (h : In w B t) {i : Nat} (hi : t.kids[i]? = some u) : In w B u := by cases h with | mk _ _ _ hk => exact hk i u hi
theorem Lies.keep {A : Option Addr} {ks : List Nd} (h : Lies w B A ks) (hw : ∀ p : Addr, p.block < B → w'.cell? p = w.cell? p) : Lies w' B A ks := fun h0 => by
  obtain ⟨b, o, hA, hb, hc⟩ := h h0
  refine ⟨b, o, hA, hb, fun i t hi j v hv => ?_⟩
  rw [hw _ hb]
  exact hc i t hi j v hv
theorem In.keep (h : In w B t) (hw : ∀ p : Addr, p.block < B → w'.cell? p = w.cell? p) : In w' B t := by
  induction h with
  | mk t hf hr hk ih => exact .mk t hf (hr.keep hw) ih
theorem Lies.more {A : Option Addr} {ks : List Nd} (h : Lies w B A ks) (hB : B ≤ B') : Lies w B' A ks := fun h0 => by
  obtain ⟨b, o, hA, hb, hc⟩ := h h0
  exact ⟨b, o, hA, by omega, hc⟩
theorem In.more (h : In w B t) (hB : B ≤ B') : In w B' t := by
  induction h with
  | mk t hf hr hk ih => exact .mk t hf (hr.more hB) ih
theorem In.under (h : In w B t) (hb : Below B w w') : In w' B t := h.keep fun _ hp => hb.cell hp
theorem In.alloc (h : In w B t) (hB : B ≤ w.heap.size) (o : Obj) : In (w.alloc o) B t := h.keep fun p hp => World.cell?_alloc_lt w o p (by omega)
theorem In.setCell (h : In w B t) {p : Addr} (hB : B ≤ p.block) (v : Value) : In (w.setCell p v) B t :=
  h.keep fun q hq => World.cell?_setCell_other w p q v (fun e => by subst e; omega)
theorem In.drew (h : In w B t) : In w.drew B t := h.keep fun _ _ => rfl
theorem In.drewN (h : In w B t) (k : Nat) : In (w.drewN k) B t := h.keep fun _ _ => rfl

/-- The five cells of kid i. -/
theorem In.at_ (h : In w B t) {i : Nat} (hi : t.kids[i]? = some u) : ∃ b o, t.addr = some ⟨b, o, none⟩ ∧ b < B ∧
    w.cell? ⟨b, o + i * 5, none⟩ = some (.int .u8 u.kind) ∧ w.cell? ⟨b, o + i * 5 + 1, none⟩ = some (.string u.text) ∧ w.cell? ⟨b, o + i * 5 + 2, none⟩ = some (.int .i64 u.num) ∧
    w.cell? ⟨b, o + i * 5 + 3, none⟩ = some (.int .i64 u.place) ∧ w.cell? ⟨b, o + i * 5 + 4, none⟩ = some (.slice u.addr u.kids.length u.cap) := by
  have hl : i < t.kids.length := (List.getElem?_eq_some_iff.1 hi).1
  obtain ⟨b, o, hA, hb, hc⟩ := h.rows (by omega)
  have hc' := hc i u hi
  exact ⟨b, o, hA, hb, hc' 0 _ rfl, hc' 1 _ rfl, hc' 2 _ rfl, hc' 3 _ rfl, hc' 4 _ rfl⟩
end

mutual
/-- How many nodes. -/
def many : Nd → Nat | .mk _ _ _ _ _ _ ks => 1 + manyL ks
def manyL : List Nd → Nat | [] => 0 | t :: ts => many t + manyL ts
end
mutual
/-- How much a tree weighs: its nodes, and its texts, eight bytes as one. -/
def weigh : Nd → Nat | .mk _ s _ _ _ _ ks => 1 + s.size / 8 + weighL ks
def weighL : List Nd → Nat | [] => 0 | t :: ts => weigh t + weighL ts
end
mutual
/-- How deep. -/
def deep : Nd → Nat | .mk _ _ _ _ _ _ ks => deepL ks + 1
def deepL : List Nd → Nat | [] => 0 | t :: ts => max (deep t) (deepL ts)
end
mutual
/-- The same, but for places. -/
def same : Nd → Nd → Bool | .mk k s n _ _ _ ks, .mk k' s' n' _ _ _ ks' => k == k' && s.toList == s'.toList && n == n' && sameL ks ks'
def sameL : List Nd → List Nd → Bool | [], [] => true | t :: ts, u :: us => same t u && sameL ts us | _, _ => false
end
mutual
/-- The same, places too. -/
def like : Nd → Nd → Bool | .mk k s n p _ _ ks, .mk k' s' n' p' _ _ ks' => k == k' && s.toList == s'.toList && n == n' && p == p' && likeL ks ks'
def likeL : List Nd → List Nd → Bool | [], [] => true | t :: ts, u :: us => like t u && likeL ts us | _, _ => false
end

theorem many_eq (t : Nd) : many t = 1 + manyL t.kids := by cases t; rfl
theorem weigh_eq (t : Nd) : weigh t = 1 + t.text.size / 8 + weighL t.kids := by cases t; rfl
theorem deep_eq (t : Nd) : deep t = deepL t.kids + 1 := by cases t; rfl
theorem same_eq (t u : Nd) : same t u = (t.kind == u.kind && t.text.toList == u.text.toList && t.num == u.num && sameL t.kids u.kids) := by cases t; cases u; rfl
theorem like_eq (t u : Nd) : like t u = (t.kind == u.kind && t.text.toList == u.text.toList && t.num == u.num && t.place == u.place && likeL t.kids u.kids) := by cases t; cases u; rfl

theorem like_mk (t : Nd) (k : Nat) (s : ByteArray) (n p : Int) (A : Option Addr) (c : Nat) (ks : List Nd) : like t (.mk k s n p A c ks) = (t.kind == k && t.text.toList == s.toList && t.num == n && t.place == p && likeL t.kids ks) := by cases t; rfl
theorem same_mk (t : Nd) (k : Nat) (s : ByteArray) (n p : Int) (A : Option Addr) (c : Nat) (ks : List Nd) : same t (.mk k s n p A c ks) = (t.kind == k && t.text.toList == s.toList && t.num == n && sameL t.kids ks) := by cases t; rfl
theorem val_mk (k : Nat) (s : ByteArray) (n p : Int) (A : Option Addr) (c : Nat) (ks : List Nd) : (Nd.mk k s n p A c ks).val = .agg #[.int .u8 k, .string s, .int .i64 n, .int .i64 p, .slice A ks.length c] := rfl
theorem weigh_pos (t : Nd) : 1 ≤ weigh t := by rw [weigh_eq]; omega
theorem many_pos (t : Nd) : 1 ≤ many t := by rw [many_eq]; omega
mutual
theorem many_le_weigh : (t : Nd) → many t ≤ weigh t
  | .mk _ _ _ _ _ _ ks => by have := manyL_le_weighL ks; simp only [many, weigh]; omega
theorem manyL_le_weighL : (ts : List Nd) → manyL ts ≤ weighL ts
  | [] => Nat.le_refl _
  | t :: ts => by have := many_le_weigh t; have := manyL_le_weighL ts; simp only [manyL, weighL]; omega
end
theorem manyL_append (a b : List Nd) : manyL (a ++ b) = manyL a + manyL b := by
  induction a with
  | nil => simp [manyL]
  | cons t ts ih => simp only [List.cons_append, manyL, ih]; omega
theorem weighL_append (a b : List Nd) : weighL (a ++ b) = weighL a + weighL b := by
  induction a with
  | nil => simp [weighL]
  | cons t ts ih => simp only [List.cons_append, weighL, ih]; omega
theorem deepL_append (a b : List Nd) : deepL (a ++ b) = max (deepL a) (deepL b) := by
  induction a with
  | nil => simp [deepL]
  | cons t ts ih => simp only [List.cons_append, deepL, ih]; omega
theorem length_le_manyL (ts : List Nd) : ts.length ≤ manyL ts := by
  induction ts with
  | nil => simp
  | cons t ts ih => have := many_pos t; simp only [List.length_cons, manyL]; omega
theorem length_lt_many (t : Nd) : t.kids.length < many t := by have := length_le_manyL t.kids; rw [many_eq]; omega

/-- Induction over a tree: of its kids it holds. -/
theorem Nd.rose {P : Nd → Prop} (h : ∀ t : Nd, (∀ u ∈ t.kids, P u) → P t) : ∀ t, P t := by
  have key : ∀ (m : Nat) (t : Nd), SizeOf.sizeOf t ≤ m → P t := by
    intro m
    induction m with
    | zero => intro t ht; cases t; simp at ht
    | succ m ih =>
      intro t ht
      refine h t fun u hu => ih u ?_
      cases t with
      | mk k s n p A c ks =>
        have : u ∈ ks := hu
        have := List.sizeOf_lt_of_mem this
        simp at ht
        omega
  exact fun t => key _ t (Nat.le_refl _)

/-- A list of nodes as a slice. -/
structure InL (w : World) (B : Nat) (A : Option Addr) (cap : Nat) (ts : List Nd) : Prop where
  rows : Lies w B A ts
  len : ts.length ≤ cap
  nil : A = none → ts.length = 0 ∧ cap = 0
  cap : cap ≤ maxLen
  each : ∀ t ∈ ts, In w B t
theorem In.list {w : World} {B : Nat} {t : Nd} (h : In w B t) : InL w B t.addr t.cap t.kids :=
  ⟨h.rows, h.fits.len, h.fits.nil, h.fits.cap, fun u hu => by obtain ⟨i, hi⟩ := List.getElem?_of_mem hu; exact h.kid hi⟩
section
variable {w w' : World} {B B' : Nat} {A : Option Addr} {cap : Nat} {ts : List Nd} {u : Nd}
theorem InL.keep (h : InL w B A cap ts) (hw : ∀ p : Addr, p.block < B → w'.cell? p = w.cell? p) : InL w' B A cap ts := ⟨h.rows.keep hw, h.len, h.nil, h.cap, fun t ht => (h.each t ht).keep hw⟩
theorem InL.more (h : InL w B A cap ts) (hB : B ≤ B') : InL w B' A cap ts := ⟨h.rows.more hB, h.len, h.nil, h.cap, fun t ht => (h.each t ht).more hB⟩
theorem InL.under (h : InL w B A cap ts) (hb : Below B w w') : InL w' B A cap ts := h.keep fun _ hp => hb.cell hp
theorem InL.alloc (h : InL w B A cap ts) (hB : B ≤ w.heap.size) (o : Obj) : InL (w.alloc o) B A cap ts := h.keep fun p hp => World.cell?_alloc_lt w o p (by omega)
theorem InL.at_ (h : InL w B A cap ts) {i : Nat} (hi : ts[i]? = some u) : ∃ b o, A = some ⟨b, o, none⟩ ∧ b < B ∧
    w.cell? ⟨b, o + i * 5, none⟩ = some (.int .u8 u.kind) ∧ w.cell? ⟨b, o + i * 5 + 1, none⟩ = some (.string u.text) ∧ w.cell? ⟨b, o + i * 5 + 2, none⟩ = some (.int .i64 u.num) ∧
    w.cell? ⟨b, o + i * 5 + 3, none⟩ = some (.int .i64 u.place) ∧ w.cell? ⟨b, o + i * 5 + 4, none⟩ = some (.slice u.addr u.kids.length u.cap) := by
  have hl : i < ts.length := (List.getElem?_eq_some_iff.1 hi).1
  obtain ⟨b, o, hA, hb, hc⟩ := h.rows (by omega)
  have hc' := hc i u hi
  exact ⟨b, o, hA, hb, hc' 0 _ rfl, hc' 1 _ rfl, hc' 2 _ rfl, hc' 3 _ rfl, hc' 4 _ rfl⟩
theorem InL.kid (h : InL w B A cap ts) {i : Nat} (hi : ts[i]? = some u) : In w B u := h.each u (List.mem_of_getElem? hi)
theorem InL.at (h : InL w B A cap ts) {b o : Nat} (hA : A = some ⟨b, o, none⟩) {i : Nat} (hi : ts[i]? = some u) : b < B ∧
    w.cell? ⟨b, o + i * 5, none⟩ = some (.int .u8 u.kind) ∧ w.cell? ⟨b, o + i * 5 + 1, none⟩ = some (.string u.text) ∧ w.cell? ⟨b, o + i * 5 + 2, none⟩ = some (.int .i64 u.num) ∧
    w.cell? ⟨b, o + i * 5 + 3, none⟩ = some (.int .i64 u.place) ∧ w.cell? ⟨b, o + i * 5 + 4, none⟩ = some (.slice u.addr u.kids.length u.cap) := by
  subst hA
  obtain ⟨b', o', hA, hb, h'⟩ := h.at_ hi
  obtain ⟨rfl, rfl⟩ : b = b' ∧ o = o' := by simpa using hA
  exact ⟨hb, h'⟩
theorem InL.fits (h : InL w B A cap ts) {i : Nat} (hi : ts[i]? = some u) : Fits u := (h.kid hi).fits
theorem InL.some (h : InL w B A cap ts) (h0 : 0 < ts.length) : ∃ b o, A = some ⟨b, o, none⟩ := by
  obtain ⟨b, o, hA, _⟩ := h.rows h0
  exact ⟨b, o, hA⟩
end

theorem likeL_iff (ts us : List Nd) : likeL ts us = true ↔ ts.length = us.length ∧ ∀ (i : Nat) (t u : Nd), ts[i]? = some t → us[i]? = some u → like t u = true := by
  induction ts generalizing us with
  | nil => cases us <;> simp [likeL]
  | cons t ts ih =>
    cases us with
    | nil => simp [likeL]
    | cons u us =>
      simp only [likeL, Bool.and_eq_true, ih, List.length_cons]
      constructor
      · rintro ⟨h1, h2, h3⟩
        refine ⟨by omega, fun i t' u' => ?_⟩
        cases i with
        | zero => simp only [List.getElem?_cons_zero, Option.some.injEq]; rintro rfl rfl; exact h1
        | succ i => simpa using h3 i t' u'
      · rintro ⟨h1, h2⟩
        exact ⟨h2 0 t u rfl rfl, by omega, fun i t' u' h3 h4 => h2 (i + 1) t' u' (by simpa using h3) (by simpa using h4)⟩
theorem sameL_iff (ts us : List Nd) : sameL ts us = true ↔ ts.length = us.length ∧ ∀ (i : Nat) (t u : Nd), ts[i]? = some t → us[i]? = some u → same t u = true := by
  induction ts generalizing us with
  | nil => cases us <;> simp [sameL]
  | cons t ts ih =>
    cases us with
    | nil => simp [sameL]
    | cons u us =>
      simp only [sameL, Bool.and_eq_true, ih, List.length_cons]
      constructor
      · rintro ⟨h1, h2, h3⟩
        refine ⟨by omega, fun i t' u' => ?_⟩
        cases i with
        | zero => simp only [List.getElem?_cons_zero, Option.some.injEq]; rintro rfl rfl; exact h1
        | succ i => simpa using h3 i t' u'
      · rintro ⟨h1, h2⟩
        exact ⟨h2 0 t u rfl rfl, by omega, fun i t' u' h3 h4 => h2 (i + 1) t' u' (by simpa using h3) (by simpa using h4)⟩
end NodT
