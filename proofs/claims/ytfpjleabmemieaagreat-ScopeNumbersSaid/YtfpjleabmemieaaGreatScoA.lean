/- Scopes as they lie in memory, and the types in them: plain definitions and laws; nothing of the program. -/
import Derived.WalkKit
import Derived.Below
import Derived.WalkSmall
import Derived.MapKept
set_option maxRecDepth 100000
namespace ScoT
open Go Go.RowKit
set_option linter.unusedVariables false

/-- A type: kind, name, where its elements lie, their room, they. -/
inductive Ty where
  | mk (k : Nat) (s : ByteArray) (A : Option Addr) (cap : Nat) (es : List Ty)

namespace Ty
def kind : Ty → Nat | mk k _ _ _ _ => k
def name : Ty → ByteArray | mk _ s _ _ _ => s
def addr : Ty → Option Addr | mk _ _ A _ _ => A
def cap : Ty → Nat | mk _ _ _ c _ => c
def els : Ty → List Ty | mk _ _ _ _ es => es
def row (t : Ty) : Value := .slice t.addr t.els.length t.cap
def cs (t : Ty) : List Value := [.int .u8 t.kind, .string t.name, t.row]
def val (t : Ty) : Value := .agg #[.int .u8 t.kind, .string t.name, t.row]
theorem eta (t : Ty) : mk t.kind t.name t.addr t.cap t.els = t := by cases t; rfl
end Ty
/-- The zero type. -/
def zeroTy : Ty := .mk 0 ⟨#[]⟩ none 0 []

/-- The elements lie in the world, in blocks of S, from A on. -/
def Lies (w : World) (S : Nat → Prop) (A : Option Addr) (ks : List Ty) : Prop :=
  0 < ks.length → ∃ b o, A = some ⟨b, o, none⟩ ∧ S b ∧ ∀ (i : Nat) (t : Ty), ks[i]? = some t → ∀ (j : Nat) (v : Value), t.cs[j]? = some v → w.cell? ⟨b, o + i * 3 + j, none⟩ = some v

structure Fits (t : Ty) : Prop where
  kind : t.kind < 256
  name : t.name.size ≤ 281474976710656
  len : t.els.length ≤ t.cap
  cap : t.cap ≤ maxLen
  nil : t.addr = none → t.els.length = 0 ∧ t.cap = 0

/-- The type lies in the world, in blocks of S. -/
inductive In (w : World) (S : Nat → Prop) : Ty → Prop
  | mk (t : Ty) (hf : Fits t) (hr : Lies w S t.addr t.els) (hk : ∀ (i : Nat) (u : Ty), t.els[i]? = some u → In w S u) : In w S t

section
variable {w w' : World} {S S' : Nat → Prop} {t u : Ty}
theorem In.fits (h : In w S t) : Fits t := by cases h; assumption
theorem In.rows (h : In w S t) : Lies w S t.addr t.els := by cases h; assumption
theorem In.kid (h : In w S t) {i : Nat} (hi : t.els[i]? = some u) : In w S u := by cases h with | mk _ _ _ hk => exact hk i u hi
theorem Lies.keep {A : Option Addr} {ks : List Ty} (h : Lies w S A ks) (hS : ∀ b, S b → S' b) (hw : ∀ p : Addr, S p.block → w'.cell? p = w.cell? p) : Lies w' S' A ks := fun h0 => by
  obtain ⟨b, o, hA, hb, hc⟩ := h h0
  refine ⟨b, o, hA, hS b hb, fun i t hi j v hv => ?_⟩
  rw [hw _ hb]
  exact hc i t hi j v hv
theorem In.keep (h : In w S t) (hS : ∀ b, S b → S' b) (hw : ∀ p : Addr, S p.block → w'.cell? p = w.cell? p) : In w' S' t := by
  induction h with
  | mk t hf hr hk ih => exact .mk t hf (hr.keep hS hw) ih
theorem In.zero (w : World) (S : Nat → Prop) : In w S zeroTy :=
  .mk _ ⟨by decide, by decide, by decide, by decide, fun _ => by decide⟩ (fun h => absurd h (by decide)) (fun i u h => by simp [zeroTy, Ty.els] at h)
end

mutual
/-- The same: kind, name, elements. -/
def same : Ty → Ty → Bool | .mk k s _ _ es, u => k == u.kind && decide (s = u.name) && sameL es u.els
def sameL : List Ty → List Ty → Bool
  | [], us => us.isEmpty
  | _ :: _, [] => false
  | t :: ts, u :: us => same t u && sameL ts us
end
theorem same_eq (t u : Ty) : same t u = (t.kind == u.kind && decide (t.name = u.name) && sameL t.els u.els) := by cases t; simp only [same]; rfl
/-- Its elements are none. -/
def leaf (t : Ty) : Prop := t.els = []
theorem same_leaf {t u : Ty} (h : leaf t) (hk : u.kind = t.kind) (hn : u.name = t.name) (hu : leaf u) : same t u = true := by
  rw [same_eq, hk, hn, h, hu]; simp [sameL]

/-- A name: what it is, its type, whether it was used, where its meaning lies. -/
structure Nm where
  name : ByteArray
  ty : Ty
  used : Bool
  loc : Nat
/-- A block: where it lies, its row of names, its map, its names. -/
structure Bk where
  loc : Nat
  ord : Value
  mp : Nat
  names : List Nm

/-- What a block of memory is to a scope. -/
inductive Tag where
  | none | scope | row | typ
  | blk (i : Nat) | map (i : Nat) | ord (i : Nat) | mean (i j : Nat)
def Tag.mine (i : Nat) : Tag → Bool
  | .blk k => k == i
  | .map k => k == i
  | .ord k => k == i
  | .mean k _ => k == i
  | .typ => true
  | _ => false

/-- The map's entries. -/
def entsFrom : Nat → List Nm → List MapEntry
  | _, [] => []
  | c, n :: ns => { key := .string n.name, val := .pointer (some ⟨n.loc, 0, none⟩), born := c } :: entsFrom (c + 1) ns
def ents (l : List Nm) : Array MapEntry := (entsFrom 0 l).toArray
theorem entsFrom_append (c : Nat) (a b : List Nm) : entsFrom c (a ++ b) = entsFrom c a ++ entsFrom (c + a.length) b := by
  induction a generalizing c with
  | nil => simp [entsFrom]
  | cons n ns ih => simp only [List.cons_append, entsFrom, ih, List.length_cons]; congr 3; omega
theorem ents_push (l : List Nm) (n : Nm) : (ents l).push { key := .string n.name, val := .pointer (some ⟨n.loc, 0, none⟩), born := l.length } = ents (l ++ [n]) := by
  simp [ents, entsFrom_append, entsFrom]
/-- The first of a name, and its place. -/
def findN (s : ByteArray) : List Nm → Option Nat
  | [] => none
  | n :: ns => if n.name = s then some 0 else (findN s ns).map (· + 1)
theorem findYtfpjleabmemieaaGreatsome {s : ByteArray} {l : List Nm} {j : Nat} (h : findN s l = some j) : ∃ n, l[j]? = some n ∧ n.name = s := by
  induction l generalizing j with
  | nil => simp [findN] at h
  | cons n ns ih =>
    simp only [findN] at h
    split at h
    · rename_i hn
      cases h
      exact ⟨n, rfl, hn⟩
    · cases hf : findN s ns with
      | none => simp [hf] at h
      | some k =>
        simp only [hf, Option.map_some, Option.some.injEq] at h
        subst h
        obtain ⟨m, h1, h2⟩ := ih hf
        exact ⟨m, by simpa using h1, h2⟩
theorem findYtfpjleabmemieaaGreatnone {s : ByteArray} {l : List Nm} (h : findN s l = none) : ∀ n ∈ l, n.name ≠ s := by
  induction l with
  | nil => simp
  | cons n ns ih =>
    simp only [findN] at h
    split at h
    · simp at h
    · rename_i hn
      intro m hm
      rcases List.mem_cons.1 hm with rfl | hm
      · exact hn
      · exact ih (by cases hf : findN s ns with | none => rfl | some k => simp [hf] at h) m hm
theorem find_ents (s : ByteArray) (l : List Nm) (c i : Nat) : Instr.findNow .string (.string s) (entsFrom c l) i = some ((findN s l).bind fun j => (l[j]?).map fun n => (i + j, Value.pointer (some ⟨n.loc, 0, none⟩))) := by
  induction l generalizing c i with
  | nil => simp [entsFrom, Instr.findNow, findN]
  | cons n ns ih =>
    simp only [entsFrom, Instr.findNow, Instr.sameNow, findN]
    by_cases hn : n.name = s
    · have e : (s == n.name) = true := (Go.MapKept.bytes_beq _ _).2 hn.symm
      rw [if_pos hn, e]; simp
    · have hn' : (s == n.name) = false := by
        rw [← Bool.not_eq_true]; intro h; exact hn ((Go.MapKept.bytes_beq _ _).1 h).symm
      simp only [hn, hn']
      simp only [if_false, ih]
      cases hf : findN s ns with
      | none => simp
      | some j => simp; cases h : ns[j]? <;> simp <;> omega

section
variable (w : World) (tag : Nat → Tag) (n₀ : Nat)
/-- A name's meaning. -/
structure MeanAt (i j : Nat) (m : Nm) : Prop where
  c0 : w.cell? ⟨m.loc, 0, none⟩ = some (.int .u8 m.ty.kind)
  c1 : w.cell? ⟨m.loc, 1, none⟩ = some (.string m.ty.name)
  c2 : w.cell? ⟨m.loc, 2, none⟩ = some (.slice m.ty.addr m.ty.els.length m.ty.cap)
  c3 : w.cell? ⟨m.loc, 3, none⟩ = some (.bool m.used)
  fr : ∀ o, w.frozen? ⟨m.loc, o, none⟩ = false
  tg : tag m.loc = .mean i j
  ty : In w (fun b => tag b = .typ) m.ty
  sz : m.name.size ≤ 281474976710656
/-- A block. -/
structure BkAt (TS : TypeId) (i : Nat) (k : Bk) : Prop where
  c0 : w.cell? ⟨k.loc, 0, none⟩ = some k.ord
  c1 : w.cell? ⟨k.loc, 1, none⟩ = some (.map (some k.mp))
  fr : ∀ o, w.frozen? ⟨k.loc, o, none⟩ = false
  tg : tag k.loc = .blk i
  mp : w.heap[k.mp]? = some (.map (ents k.names) k.names.length)
  mt : tag k.mp = .map i
  own : w.ownsRow n₀ TS 1 k.ord k.names.length (k.names.map fun m => .string m.name)
  ot : ∀ b, k.ord.ownBlock = some b → tag b = .ord i
  ms : ∀ j m, k.names[j]? = some m → MeanAt w tag i j m
  nd : (k.names.map Nm.name).Nodup
/-- A block of cells that nothing else shares. -/
def Plain (b : Nat) : Prop := ∃ c t, w.heap[b]? = some (.cells c t (0, 0))
/-- A scope. -/
structure Scp (TS TP : TypeId) (s : Nat) (A : Option Addr) (cap : Nat) (bs : List Bk) : Prop where
  c0 : w.cell? ⟨s, 0, none⟩ = some (.slice A bs.length cap)
  c1 : w.cell? ⟨s, 1, none⟩ = some (.pointer (some ⟨s, 0, none⟩))
  fr : ∀ o, w.frozen? ⟨s, o, none⟩ = false
  tg : tag s = .scope
  own : w.ownsRow n₀ TP 1 (.slice A bs.length cap) bs.length (bs.map fun k => .pointer (some ⟨k.loc, 0, none⟩))
  rt : ∀ b, (Value.slice A bs.length cap).ownBlock = some b → tag b = .row
  bk : ∀ i k, bs[i]? = some k → BkAt w tag n₀ TS i k
  lt : ∀ b, tag b ≠ .none → n₀ ≤ b ∧ b < w.heap.size
  pl : ∀ b, tag b = .typ → Plain w b
end

section
variable {w w' : World} {tag tag' : Nat → Tag} {n₀ : Nat}
theorem Plain.keep {b : Nat} (h : Plain w b) (e : w'.heap[b]? = w.heap[b]?) : Plain w' b := by
  obtain ⟨c, t, h⟩ := h
  exact ⟨c, t, e.trans h⟩
theorem row_keep {lo : Nat} {T : TypeId} {size n : Nat} {v : Value} {xs : List Value} (h : w.ownsRow lo T size v n xs) (hk : ∀ b, v.ownBlock = some b → w'.heap[b]? = w.heap[b]?) : w'.ownsRow lo T size v n xs := by
  refine ⟨h.1, ?_⟩
  rcases h.2 with h1 | ⟨g, cap, cur, rfl, hb, hg, hr⟩
  · exact .inl h1
  · exact .inr ⟨g, cap, cur, rfl, hb, (hk g rfl).trans hg, hr⟩
theorem MeanAt.keep {i j : Nat} {m : Nm} (h : MeanAt w tag i j m) (hk : ∀ b, tag b = .mean i j ∨ tag b = .typ → w'.heap[b]? = w.heap[b]? ∧ tag' b = tag b) : MeanAt w' tag' i j m := by
  obtain ⟨c0, c1, c2, c3, fr, tg, ty, sz⟩ := h
  have e := (hk m.loc (.inl tg)).1
  have ec : ∀ o, w'.cell? ⟨m.loc, o, none⟩ = w.cell? ⟨m.loc, o, none⟩ := fun o => World.cell?_of_block e
  exact ⟨(ec _).trans c0, (ec _).trans c1, (ec _).trans c2, (ec _).trans c3, fun o => (World.frozen?_of_block (a := ⟨m.loc, o, none⟩) e).trans (fr o), (hk m.loc (.inl tg)).2.trans tg,
    ty.keep (fun b hb => (hk b (.inr hb)).2.trans hb) (fun p hp => World.cell?_of_block (hk p.block (.inr hp)).1), sz⟩
theorem BkAt.keep {TS : TypeId} {i : Nat} {k : Bk} (h : BkAt w tag n₀ TS i k) (hk : ∀ b, (tag b).mine i = true → w'.heap[b]? = w.heap[b]? ∧ tag' b = tag b) : BkAt w' tag' n₀ TS i k := by
  obtain ⟨c0, c1, fr, tg, mp, mt, own, ot, ms, nd⟩ := h
  have h1 := hk k.loc (by rw [tg]; simp [Tag.mine])
  have h2 := hk k.mp (by rw [mt]; simp [Tag.mine])
  have h3 : ∀ b, k.ord.ownBlock = some b → w'.heap[b]? = w.heap[b]? ∧ tag' b = tag b := fun b hb => hk b (by rw [ot b hb]; simp [Tag.mine])
  exact ⟨(World.cell?_of_block (a := ⟨k.loc, 0, none⟩) h1.1).trans c0, (World.cell?_of_block (a := ⟨k.loc, 1, none⟩) h1.1).trans c1, fun o => (World.frozen?_of_block (a := ⟨k.loc, o, none⟩) h1.1).trans (fr o), h1.2.trans tg, h2.1.trans mp, h2.2.trans mt,
    row_keep own fun b hb => (h3 b hb).1, fun b hb => (h3 b hb).2.trans (ot b hb), fun j m hj => (ms j m hj).keep fun b hb => hk b (by rcases hb with hb | hb <;> rw [hb] <;> simp [Tag.mine]), nd⟩
theorem Scp.keep {TS TP : TypeId} {s : Nat} {A : Option Addr} {cap : Nat} {bs : List Bk} (h : Scp w tag n₀ TS TP s A cap bs) (hs : w.heap.size ≤ w'.heap.size) (hk : ∀ b, tag b ≠ .none → w'.heap[b]? = w.heap[b]?) : Scp w' tag n₀ TS TP s A cap bs := by
  obtain ⟨c0, c1, fr, tg, own, rt, bk, lt, pl⟩ := h
  have h1 := hk s (by rw [tg]; simp)
  refine ⟨(World.cell?_of_block (a := ⟨s, 0, none⟩) h1).trans c0, (World.cell?_of_block (a := ⟨s, 1, none⟩) h1).trans c1, fun o => (World.frozen?_of_block (a := ⟨s, o, none⟩) h1).trans (fr o), tg, row_keep own fun b hb => hk b (by rw [rt b hb]; simp), rt, fun i k hi => (bk i k hi).keep fun b hb => ⟨hk b (fun e => by rw [e] at hb; simp [Tag.mine] at hb), rfl⟩, fun b hb => ⟨(lt b hb).1, Nat.lt_of_lt_of_le (lt b hb).2 hs⟩, fun b hb => (pl b hb).keep (hk b (by rw [hb]; simp))⟩
/-- A call on a scope: what it may turn. -/
structure Turns (w : World) (tag : Nat → Tag) (w' : World) (tag' : Nat → Tag) : Prop where
  calm : w'.os = w.os ∧ w'.tape = w.tape ∧ w'.output = w.output
  size : w.heap.size ≤ w'.heap.size
  out : ∀ b, b < w.heap.size → tag b = .none → w'.heap[b]? = w.heap[b]? ∧ tag' b = .none
theorem Turns.trans {w'' : World} {tag'' : Nat → Tag} (h : Turns w tag w' tag') (k : Turns w' tag' w'' tag'') : Turns w tag w'' tag'' :=
  ⟨⟨k.calm.1.trans h.calm.1, k.calm.2.1.trans h.calm.2.1, k.calm.2.2.trans h.calm.2.2⟩, Nat.le_trans h.size k.size, fun b hb ht => ⟨(k.out b (Nat.lt_of_lt_of_le hb h.size) (h.out b hb ht).2).1.trans (h.out b hb ht).1, (k.out b (Nat.lt_of_lt_of_le hb h.size) (h.out b hb ht).2).2⟩⟩
theorem Turns.refl (w : World) (tag : Nat → Tag) : Turns w tag w tag := ⟨⟨rfl, rfl, rfl⟩, Nat.le_refl _, fun _ _ h => ⟨rfl, h⟩⟩
theorem Turns.of_below (h : Below w.heap.size w w') : Turns w tag w' tag := ⟨⟨h.os, h.tape, h.output⟩, h.size, fun b hb ht => ⟨h.block b hb, ht⟩⟩
end
/-- What a call leaves below what is the scope's. -/
theorem Turns.below {w w' : World} {tag tag' : Nat → Tag} (h : Turns w tag w' tag') {B : Nat} (hB : B ≤ w.heap.size) (ht : ∀ b, b < B → tag b = .none) : Below B w w' :=
  ⟨h.calm.1, h.calm.2.1, h.calm.2.2, h.size, fun b hb => (h.out b (Nat.lt_of_lt_of_le hb hB) (ht b hb)).1⟩
end ScoT
