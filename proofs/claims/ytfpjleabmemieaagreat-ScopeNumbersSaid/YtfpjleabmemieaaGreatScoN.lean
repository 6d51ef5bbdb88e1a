/- awake. -/
import Derived.Test.YtfpjleabmemieaaGreatScoJ
import Derived.Test.YtfpjleabmemieaaGreatScoL
import Derived.Test.YtfpjleabmemieaaGreatScoM
set_option maxRecDepth 100000
namespace Go.Proofs.YtfpjleabmemieaaGreat
open Go.Instr Go.RowKit ScoT
set_option linter.unusedVariables false
theorem new_scope (w : World) : SC (w.alloc (.cells #[.slice none 0 0, .pointer (some ⟨w.heap.size, 0, none⟩)] 53)) (fun b => if b = w.heap.size then .scope else .none) w.heap.size w.heap.size none 0 [] := by
  have e := World.alloc_heap_new w (.cells #[.slice none 0 0, .pointer (some ⟨w.heap.size, 0, none⟩)] 53)
  refine ⟨by unfold World.cell?; rw [e]; rfl, by unfold World.cell?; rw [e]; rfl, fun o => by unfold World.frozen?; rw [e]; simp, by simp, World.ownsRow_nil _ _ _ _, fun b hb => by simp [Value.ownBlock] at hb, fun i k hi => by simp at hi, fun b hb => ?_, fun b hb => by split at hb <;> cases hb⟩
  by_cases h : b = w.heap.size
  · subst h; simp
  · simp [h] at hb
def kindTy (k : Nat) : Ty := .mk k ⟨#[]⟩ none 0 []
theorem kind_in (k : Nat) (hk : k < 256) (w : World) : In w (fun _ => False) (kindTy k) :=
  .mk _ ⟨hk, Nat.zero_le _, Nat.le_refl _, Nat.zero_le _, fun _ => ⟨rfl, rfl⟩⟩ (fun h => absurd h (Nat.lt_irrefl _)) (fun i u h => by simp [kindTy, Ty.els] at h)
theorem same_of_leaf {t u : Ty} (h : same t u = true) (hl : leaf t) : leaf u ∧ u.kind = t.kind := by
  rw [same_eq] at h
  simp only [Bool.and_eq_true, beq_iff_eq, decide_eq_true_eq] at h
  obtain ⟨⟨h1, _⟩, h3⟩ := h
  unfold leaf at hl ⊢
  rw [hl] at h3
  refine ⟨?_, h1.symm⟩
  cases hu : u.els with
  | nil => rfl
  | cons a b => rw [hu] at h3; simp [sameL] at h3
theorem len_of_own {w : World} {lo size : Nat} {e : TypeId} {v : Value} {xs : List Value} {n : Nat} (h : w.ownsRow lo e size v n xs) : ∃ A c, v = .slice A n c ∧ (n = 0 → True) := by
  rcases h.2 with ⟨rfl, rfl⟩ | ⟨g, c, cur, rfl, _⟩
  · exact ⟨none, 0, rfl, fun _ => trivial⟩
  · exact ⟨_, c, rfl, fun _ => trivial⟩
abbrev sA : ByteArray := ⟨#[97]⟩
abbrev sB : ByteArray := ⟨#[98]⟩
/-- A cell that is none of a scope's. -/
def Aside (tag : Nat → Tag) (W : World) (q : Nat) (v : Value) : Prop := tag q = .none ∧ W.cell? ⟨q, 0, none⟩ = some v
theorem keepB {w W W' : World} {tag tag' : Nat → Tag} (h : Below w.heap.size w W ∧ ∀ b, b < w.heap.size → tag b = .none) (ht : Turns W tag W' tag') : Below w.heap.size w W' ∧ ∀ b, b < w.heap.size → tag' b = .none :=
  ⟨h.1.trans (ht.below h.1.size h.2), fun b hb => (ht.out b (Nat.lt_of_lt_of_le hb h.1.size) (h.2 b hb)).2⟩
theorem Aside.turn {tag tag' : Nat → Tag} {W W' : World} {q : Nat} {v : Value} (h : Aside tag W q v) (ht : Turns W tag W' tag') : Aside tag' W' q v :=
  ⟨(ht.out q (World.block_lt_of_cell? _ _ h.2) h.1).2, (World.cell?_of_block (a := ⟨q, 0, none⟩) (ht.out q (World.block_lt_of_cell? _ _ h.2) h.1).1).trans h.2⟩
theorem kind_lit (k : Nat) (hk : k < 256) (w : World) : Calls Tryz.prog 5 #[.int .u8 (k : Int)] w fun e w' => e = .returned (kindTy k).val ∧ Below w.heap.size w w' := kind_any k hk w
theorem copiesK_leaf {t : Ty} (h : leaf t) : CopiesK t := fun w S hin _ => copied_leaf t w hin.fits h
section
variable {w : World} {tag : Nat → Tag} {n₀ s : Nat} {A : Option Addr} {cap : Nat}
/-- Declare of a kind in a block without the name. -/
theorem Declare_kind {k : Bk} {xs : List Bk} (h : SC w tag n₀ s A cap (xs ++ [k])) (name : ByteArray) (c : Nat) (hc : c < 256) (hf : findN name k.names = none) (hs : name.size ≤ 281474976710656) (hl : xs.length ≤ 1000000) (hkl : k.names.length ≤ 1000000) :
    Calls Tryz.prog 20 #[.pointer (some ⟨s, 0, none⟩), .string name, (kindTy c).val] w fun e w' => e = .returned (.int .i64 0) ∧ ∃ tag' t' m o, SC w' tag' n₀ s A cap (xs ++ [{ k with ord := o, names := k.names ++ [⟨name, t', false, m⟩] }]) ∧ leaf t' ∧ t'.kind = c ∧ Turns w tag w' tag' :=
  (Declare_once h name (kindTy c) hf hs hl hkl (fun _ => False) (kind_in c hc w) (fun _ h => h.elim) (copiesK_leaf rfl)).mono fun e w' ⟨he, tag', t', m, o, h1, h2, h3⟩ => ⟨he, tag', t', m, o, h1, (same_of_leaf h2 rfl).1, (same_of_leaf h2 rfl).2, h3⟩
end
abbrev B1 (bb mb m : Nat) (o : Value) (t : Ty) (u : Bool) : Bk := ⟨bb, o, mb, [⟨sA, t, u, m⟩]⟩
theorem cop2 {a b m1 m2 b1 b2 : Nat} {o1 o2 : Value} {t1 t2 : Ty} {n1 n2 : ByteArray} {u1 u2 : Bool} (h1 : leaf t1) (h2 : leaf t2) : ∀ k ∈ ([] ++ [(⟨a, o1, b1, [] ++ [⟨n1, t1, u1, m1⟩]⟩ : Bk)]) ++ [(⟨b, o2, b2, [] ++ [⟨n2, t2, u2, m2⟩]⟩ : Bk)], ∀ m ∈ k.names, Copies m.ty := by
  intro k hk m hm
  simp at hk
  rcases hk with rfl | rfl
  · simp at hm; subst hm; exact copies_leaf h1
  · simp at hm; subst hm; exact copies_leaf h2
theorem used_scope {W W' : World} {tag : Nat → Tag} {n₀ s : Nat} {A : Option Addr} {cap i j : Nat} {bs : List Bk} {k : Bk} {m : Nm} (h : SC W tag n₀ s A cap bs) (hi : bs[i]? = some k) (hj : k.names[j]? = some m) (hb : Below W.heap.size (after true W m.loc) W') : SC W' tag n₀ s A cap (useAt bs i j) ∧ Turns W tag W' tag := by
  have h1 := h.use hi hj
  have hsz : (W.setCell ⟨m.loc, 3, none⟩ (.bool true)).heap.size = W.heap.size := set_size _ _ _
  have hb' : Below (W.setCell ⟨m.loc, 3, none⟩ (.bool true)).heap.size (W.setCell ⟨m.loc, 3, none⟩ (.bool true)) W' := by rw [hsz]; exact hb
  exact ⟨h1.1.keep hb'.size (fun b hb => hb'.block b (h1.1.lt b hb).2), h1.2.trans (Turns.of_below hb')⟩
theorem use_two {W W' : World} {tag : Nat → Tag} {n₀ s : Nat} {A : Option Addr} {cap : Nat} {a b m1 m2 b1 b2 : Nat} {o1 o2 : Value} {t1 t2 : Ty} {u1 u2 : Bool} {e : Ending} (h : SC W tag n₀ s A cap (([] ++ [(⟨a, o1, b1, [] ++ [⟨sA, t1, u1, m1⟩]⟩ : Bk)]) ++ [(⟨b, o2, b2, [] ++ [⟨sA, t2, u2, m2⟩]⟩ : Bk)]))
    (hp : TellPost true sA (([] ++ [(⟨a, o1, b1, [] ++ [⟨sA, t1, u1, m1⟩]⟩ : Bk)]) ++ [(⟨b, o2, b2, [] ++ [⟨sA, t2, u2, m2⟩]⟩ : Bk)]) W e W') (hl : leaf t2) :
    ∃ t', e = .returned (.tuple #[t'.val, .bool true]) ∧ leaf t' ∧ t'.kind = t2.kind ∧ SC W' tag n₀ s A cap (([] ++ [(⟨a, o1, b1, [] ++ [⟨sA, t1, u1, m1⟩]⟩ : Bk)]) ++ [(⟨b, o2, b2, [⟨sA, t2, true, m2⟩]⟩ : Bk)]) ∧ Turns W tag W' tag := by
  have hs : seek sA (([] ++ [(⟨a, o1, b1, [] ++ [⟨sA, t1, u1, m1⟩]⟩ : Bk)]) ++ [(⟨b, o2, b2, [] ++ [⟨sA, t2, u2, m2⟩]⟩ : Bk)]) = some (1, 0) := by simp [seek, seekTo, findN]
  unfold TellPost at hp
  rw [hs] at hp
  obtain ⟨k, m, t', hi, hj, he, hsm, hin, hb⟩ := hp
  have hk : k = ⟨b, o2, b2, [] ++ [⟨sA, t2, u2, m2⟩]⟩ := by simpa using hi.symm
  subst hk
  have hm : m = ⟨sA, t2, u2, m2⟩ := by simpa using hj.symm
  subst hm
  obtain ⟨h1, h2⟩ := used_scope h hi hj hb
  exact ⟨t', he, (same_of_leaf hsm hl).1, (same_of_leaf hsm hl).2, h1, h2⟩
theorem look_one {W W' : World} {tag : Nat → Tag} {n₀ s : Nat} {A : Option Addr} {cap : Nat} {a m1 b1 : Nat} {o1 : Value} {t1 : Ty} {u1 : Bool} {e : Ending} (h : SC W tag n₀ s A cap ([] ++ [(⟨a, o1, b1, [] ++ [⟨sA, t1, u1, m1⟩]⟩ : Bk)]))
    (hp : TellPost false sA ([] ++ [(⟨a, o1, b1, [] ++ [⟨sA, t1, u1, m1⟩]⟩ : Bk)]) W e W') (hl : leaf t1) :
    ∃ t', e = .returned (.tuple #[t'.val, .bool true]) ∧ leaf t' ∧ t'.kind = t1.kind ∧ SC W' tag n₀ s A cap ([] ++ [(⟨a, o1, b1, [] ++ [⟨sA, t1, u1, m1⟩]⟩ : Bk)]) ∧ Turns W tag W' tag := by
  have hs : seek sA ([] ++ [(⟨a, o1, b1, [] ++ [⟨sA, t1, u1, m1⟩]⟩ : Bk)]) = some (0, 0) := by simp [seek, seekTo, findN]
  unfold TellPost at hp
  rw [hs] at hp
  obtain ⟨k, m, t', hi, hj, he, hsm, hin, hb⟩ := hp
  have hk : k = ⟨a, o1, b1, [] ++ [⟨sA, t1, u1, m1⟩]⟩ := by simpa using hi.symm
  subst hk
  have hm : m = ⟨sA, t1, u1, m1⟩ := by simpa using hj.symm
  subst hm
  have hb' : Below W.heap.size W W' := hb
  exact ⟨t', he, (same_of_leaf hsm hl).1, (same_of_leaf hsm hl).2, h.keep hb'.size (fun b hb => hb'.block b (h.lt b hb).2), Turns.of_below hb'⟩
theorem cop1 {a m1 b1 : Nat} {o1 : Value} {t1 : Ty} {n1 : ByteArray} {u1 : Bool} (h1 : leaf t1) : ∀ k ∈ [] ++ [(⟨a, o1, b1, [] ++ [⟨n1, t1, u1, m1⟩]⟩ : Bk)], ∀ m ∈ k.names, Copies m.ty := by
  intro k hk m hm
  simp at hk
  subst hk
  simp at hm; subst hm; exact copies_leaf h1
theorem sc_below {W W' : World} {tag : Nat → Tag} {n₀ s : Nat} {A : Option Addr} {cap : Nat} {bs : List Bk} (h : SC W tag n₀ s A cap bs) (hb : Below W.heap.size W W') : SC W' tag n₀ s A cap bs := h.keep hb.size (fun b hb' => hb.block b (h.lt b hb').2)
theorem alloc_below (w : World) (o : Obj) : Below w.heap.size w (w.alloc o) := (Below.refl _ _).alloc (Nat.le_refl _) _
theorem aside_new {tag : Nat → Tag} {W : World} {n₀ s : Nat} {A : Option Addr} {cap : Nat} {bs : List Bk} (h : SC W tag n₀ s A cap bs) (v a b : Value) (T : TypeId) : Aside tag (W.alloc (.cells #[v, a, b] T)) W.heap.size v :=
  ⟨h.fresh (Nat.le_refl _), by have e := World.alloc_heap_new W (.cells #[v, a, b] T); unfold World.cell?; rw [e]; rfl⟩
theorem one_text {W : World} {g : Nat} {t0 : ByteArray} (h : W.cell? ⟨g, 0, none⟩ = some (.string t0)) : ∀ (i : Nat) (t : ByteArray), [t0][i]? = some t → ∃ a, some (⟨g, 0, none⟩ : Addr) = some ⟨a, 0, none⟩ ∧ W.cell? ⟨a, i, none⟩ = some (.string t) := by
  intro i t hi
  cases i with
  | zero => simp at hi; subst hi; exact ⟨g, rfl, h⟩
  | succ i => simp at hi
set_option maxHeartbeats 4000000 in
theorem awake_any (w : World) : Calls Tryz.prog 6 #[] w fun e w' => e = .returned (.bool true) ∧ Below w.heap.size w w' := by
  have hk1 := kind_lit 1 (by decide)
  have hk2 := kind_lit 2 (by decide)
  have k1 := trivial
  have k2 := trivial
  have d1 := trivial
  have d2 := trivial
  have c1 := trivial
  have HK1 := Lib.hid hk1
  have HK2 := Lib.hid hk2
  clear hk1 hk2
  have HN := Lib.hid (new_scope w)
  have HB : Hid (Below w.heap.size w (w.alloc (.cells #[.slice none 0 0, .pointer (some ⟨w.heap.size, 0, none⟩)] 53)) ∧ ∀ b, b < w.heap.size → (if b = w.heap.size then Tag.scope else Tag.none) = .none) := Lib.hid ⟨(Below.refl _ _).alloc (Nat.le_refl _) _, fun b hb => by rw [if_neg (by omega)]⟩
  go_enter Tryz.func6, Tryz.ntmps6
  go_wp2_with (first
    | (go_at_call 7; refine (New_any _).mono ?_; rintro e w1 ⟨rfl, hw1⟩; rw [← hw1] at HN HB; clear hw1)
    | (go_at_call 19; refine (Open_any HN.out (by simp)).mono ?_; rintro e w2 ⟨rfl, A2, c2, tag2, bb2, mb2, h2, t2⟩; have HB := Lib.hid (keepB HB.out t2); have HN := Lib.hid h2; clear h2 t2)
    | (go_at_call 5; clear k1; refine (HK1.out _).mono ?_; rintro e w3 ⟨rfl, hb3⟩; have HB := Lib.hid (keepB HB.out (Turns.of_below (tag := _) hb3)); have HN := Lib.hid (HN.out.keep hb3.size (fun b hb => hb3.block b (HN.out.lt b hb).2)); clear hb3)
    | (go_at_call 5; clear k2; refine (HK2.out _).mono ?_; rintro e w3 ⟨rfl, hb3⟩; have HB := Lib.hid (keepB HB.out (Turns.of_below (tag := _) hb3)); have HN := Lib.hid (HN.out.keep hb3.size (fun b hb => hb3.block b (HN.out.lt b hb).2)); clear hb3)
    | (go_at_call 20; clear d1; refine (Declare_kind (c := 1) HN.out sA (by decide) rfl (by decide) (by simp) (by simp)).mono ?_; rintro e w4 ⟨rfl, tag4, t1, m1, o1, h4, hl1, hk1, ht4⟩; have HB := Lib.hid (keepB HB.out ht4); have HN := Lib.hid h4; have HL1 := Lib.hid (And.intro hl1 hk1); clear h4 hl1 hk1 ht4)
    | (go_at_call 20; clear d2; refine (Declare_kind (c := 2) HN.out sA (by decide) rfl (by decide) (by simp) (by simp)).mono ?_; rintro e w4 ⟨rfl, tag4, t2, m2, o2, h4, hl1, hk1, ht4⟩; have HB := Lib.hid (keepB HB.out ht4); have HN := Lib.hid h4; have HL2 := Lib.hid (And.intro hl1 hk1); clear h4 hl1 hk1 ht4)
    | (go_at_call 21; refine (Use_any sA HN.out (by simp) (cop2 HL1.out.1 HL2.out.1)).mono ?_; intro e w5 h5
       obtain ⟨t3, rfl, hl3, hk3, hs5, ht5⟩ := use_two HN.out h5 HL2.out.1
       have HB := Lib.hid (keepB HB.out ht5); have HN := Lib.hid hs5; have HL3 := Lib.hid (hk3.trans HL2.out.2); clear hl3 hk3 hs5 ht5 h5
       unfold Ty.val Ty.row)
    | (go_at_call 16; clear c1; refine (Close_any (sc_below HN.out (alloc_below _ _)) (by simp) (by simp)).mono ?_; rintro e w6 ⟨v6, A6, c6, rfl, ho6, hs6, ht6⟩
       obtain ⟨X6, y6, rfl, _⟩ := len_of_own (n := 0) ho6
       have HB := Lib.hid (keepB (keepB HB.out (Turns.of_below (tag := _) (alloc_below _ _))) ht6); have HA := Lib.hid ((aside_new HN.out _ _ _ _).turn ht6); have HN := Lib.hid hs6; clear ho6 hs6 ht6; have c2 := trivial)
    | (go_at_call 13; refine (Look_any sA HN.out (by simp) (cop1 HL1.out.1)).mono ?_; intro e w7 h7
       obtain ⟨t4, rfl, hl4, hk4, hs7, ht7⟩ := look_one HN.out h7 HL1.out.1
       have HB := Lib.hid (keepB HB.out ht7); have HA := Lib.hid (HA.out.turn ht7); have HN := Lib.hid hs7; have HL4 := Lib.hid (hk4.trans HL1.out.2); clear hl4 hk4 hs7 ht7 h7
       unfold Ty.val Ty.row)
    | (go_at_call 16; clear c2; refine (Close_any (xs := []) (sc_below HN.out (alloc_below _ _)) (by simp) (by simp)).mono ?_; rintro e w8 ⟨v8, A8, c8, rfl, ho8, hs8, ht8⟩
       obtain ⟨g8, y8, rfl⟩ := own_slice (n := 1) ho8 (by decide)
       have hm8 : w8.cell? ⟨g8, 0, none⟩ = some (.string sA) := ho8.cells (g := g8) rfl 0 _ rfl
       have HM := Lib.hid hm8
       have HB := Lib.hid (keepB (keepB HB.out (Turns.of_below (tag := _) (alloc_below _ _))) ht8); have HA := Lib.hid ((HA.out.turn (Turns.of_below (alloc_below _ _))).turn ht8); have HA2 := Lib.hid ((aside_new HN.out _ _ _ _).turn ht8); have HN := Lib.hid hs8; clear ho8 hs8 ht8 hm8; have k3 := trivial; have d3 := trivial)
    | (go_at_call 5; clear k3; refine (HK1.out _).mono ?_; rintro e w9 ⟨rfl, hb9⟩; have HM := Lib.hid ((hb9.cell (World.block_lt_of_cell? _ _ HM.out)).trans HM.out); have HA := Lib.hid (HA.out.turn (Turns.of_below hb9)); have HA2 := Lib.hid (HA2.out.turn (Turns.of_below hb9)); have HB := Lib.hid (keepB HB.out (Turns.of_below (tag := _) hb9)); have HN := Lib.hid (sc_below HN.out hb9); clear hb9)
    | (go_at_call 20; clear d3; refine (Declare_none HN.out sB (kindTy 1)).mono ?_; rintro e w10 ⟨rfl, hb10⟩
       have q8 : w10.cell? ⟨g8, 0, none⟩ = some (.string sA) := (hb10.cell (World.block_lt_of_cell? _ _ HM.out)).trans HM.out
       have q3 : w10.cell? ⟨w5.heap.size, 0, none⟩ = some (.int .u8 2) := by have := (HA.out.turn (Turns.of_below hb10)).2; rw [HL3.out] at this; exact this
       have q4 : w10.cell? ⟨w7.heap.size, 0, none⟩ = some (.int .u8 1) := by have := (HA2.out.turn (Turns.of_below hb10)).2; rw [HL4.out] at this; exact this
       have HB := Lib.hid (keepB HB.out (Turns.of_below (tag := _) hb10)); have HN := Lib.hid (sc_below HN.out hb10); have HM := Lib.hid q8; clear hb10 q8)
    | (go_at_call 18; refine (SameTexts_any [sA] (some ⟨g8, 0, none⟩) (some ⟨w10.heap.size, 0, none⟩) y8 1 _ (by simp) (one_text ?_) (one_text ?_)).mono ?_; rotate_left; rotate_left; rintro e w11 ⟨rfl, hb11⟩; have HB := Lib.hid (keepB HB.out (Turns.of_below (tag := _) ((alloc_below _ _).trans (hb11.mono (by simp))))); have HN := Lib.hid (sc_below HN.out ((alloc_below _ _).trans (hb11.mono (by simp)))); clear hb11)
    | (go_at_call 11; refine (Deep_any HN.out).mono ?_; rintro e w12 ⟨rfl, rfl⟩))
  · go_ret
    exact ⟨rfl, HB.out.1⟩
  · rw [World.cell?_alloc_lt _ _ _ (World.block_lt_of_cell? _ _ HM.out)]; exact HM.out
  · have e := World.alloc_heap_new w10 (.cells #[.string sA] 9)
    unfold World.cell?
    rw [e]
    rfl
end Go.Proofs.YtfpjleabmemieaaGreat
