import Derived.Test.YtldedhfbpongmaaDoorNodAa
set_option maxRecDepth 100000
namespace NodT
open Go
/-- What a row of questions takes of the kids; nothing, if one says no. -/
def stepQ (ps : List (Nd → Bool)) (K : List Nd) : Option (List Nd) := if fitsQ ps K then some (K.drop ps.length) else none
def isK (ks : List Nat) (t : Nd) : Bool := ks.contains t.kind
end NodT
namespace Go.Proofs.YtldedhfbpongmaaDoor
open Go.Instr Go.RowKit NodT
set_option linter.unusedVariables false
/-- What a step leaves: r: the kids that are left, or none: it fell. -/
def TakePost (r : Option (List Nd)) (t : Nd) (d : Int) (bl B : Nat) (w : World) (e : Ending) (w' : World) : Prop := match r with
  | some K => Took t d bl B K w e w'
  | none => Fell bl w e w'
theorem TookOr.post {ok : Bool} {t : Nd} {d : Int} {bl B : Nat} {K : List Nd} {w : World} {e : Ending} {w' : World} (h : TookOr ok t d bl B K w e w') : TakePost (if ok then some K else none) t d bl B w e w' := by
  rcases h with ⟨rfl, h⟩ | ⟨rfl, h⟩ <;> exact h
theorem grown_pre {a w w' : World} {bl : Nat} (hb : Below a.heap.size a w) (hg : w.grownBy w' (some bl)) : a.grownBy w' (some bl) :=
  ⟨hg.os.trans hb.os, hg.tape.trans hb.tape, hg.output.trans hb.output, Nat.le_trans hb.size hg.size, fun k hk hne => (hg.block k (Nat.lt_of_lt_of_le hk hb.size) hne).trans (hb.block k hk)⟩
theorem grown_trans' {a b c : World} {bl : Nat} (h : a.grownBy b (some bl)) (k : b.grownBy c (some bl)) : a.grownBy c (some bl) :=
  ⟨k.os.trans h.os, k.tape.trans h.tape, k.output.trans h.output, Nat.le_trans h.size k.size, fun i hi hne => (k.block i (Nat.lt_of_lt_of_le hi h.size) hne).trans (h.block i hi hne)⟩
theorem TakePost.pre {r : Option (List Nd)} {t : Nd} {d : Int} {bl B : Nat} {a w : World} {e : Ending} {w' : World} (hb : Below a.heap.size a w) (h : TakePost r t d bl B w e w') : TakePost r t d bl B a e w' := by
  cases r with
  | some K => exact ⟨h.1, grown_pre hb h.2.1, h.2.2⟩
  | none => exact ⟨h.1, grown_pre hb h.2⟩
theorem TakePost.prg {r : Option (List Nd)} {t : Nd} {d : Int} {bl B : Nat} {a w : World} {e : Ending} {w' : World} (hb : a.grownBy w (some bl)) (h : TakePost r t d bl B w e w') : TakePost r t d bl B a e w' := by
  cases r with
  | some K => exact ⟨h.1, grown_trans' hb h.2.1, h.2.2⟩
  | none => exact ⟨h.1, grown_trans' hb h.2⟩

theorem rest_any (t : Nd) (d : Int) (bl B base : Nat) (A : Option Addr) (c : Nat) (K : List Nd) (v : Value) (p : Nd → Bool) (w : World) (hlb : LookBox w bl t d A K.length c) (hin : InL w B A c K) (hbl : bl < base) (hBb : B ≤ bl) (hbw : base ≤ w.heap.size) (hq : Quest w base v p) :
    Calls Tryd.prog 47 #[.pointer (some ⟨bl, 0, none⟩), v] w (TakePost (if K.all p then some [] else none) t d bl B w) := by
  have hl := hin.len
  have hc := hin.cap
  unfold maxLen at hc
  have hT := times_any t d bl B base A c K v p (K.length : Int) (by omega) (by omega) w hlb hin hbl hBb hbw hq
  rw [Int.toNat_natCast, fitsQ_rep_all, List.drop_length] at hT
  have HT := Lib.hid hT
  obtain ⟨_, _, _, _, c4, _, _⟩ := hlb
  clear hT hq
  generalize hr : (if K.all p = true then some [] else none) = r
  have HR := Lib.hid hr
  clear hr
  go_enter Tryd.func47, Tryd.ntmps47
  go_wp2_with fail
  refine HT.out.mono ?_
  rintro e w1 (⟨hok, rfl, h⟩ | ⟨hok, rfl, h⟩)
  · have HOK := Lib.hid hok
    have H := Lib.hid h
    clear hok h
    go_wp2_with fail
    go_end0
    rw [← HR.out, HOK.out]
    exact ⟨rfl, H.out⟩
  · have HOK := Lib.hid hok
    have H := Lib.hid h
    clear hok h
    go_wp2_with fail
    refine ⟨rfl, ?_⟩
    rw [← HR.out, HOK.out]
    exact ⟨rfl, H.out⟩
theorem one_quest {w : World} {base : Nat} {v : Value} {p : Nd → Bool} (h : Quest w base v p) : ∀ (j : Nat) (x : Value) (y : Nd → Bool), [v][j]? = some x → [p][j]? = some y → Quest w base x y := fun i x y hx hy => by
  obtain rfl : i = 0 := by have := (List.getElem?_eq_some_iff.1 hx).1; simp at this; exact this
  obtain rfl : v = x := by simpa using hx
  obtain rfl : p = y := by simpa using hy
  exact h
/-- The row of questions, just laid. -/
theorem laid_vs (w : World) (vs : List Value) (T : TypeId) : ∀ (j : Nat) (v : Value), vs[j]? = some v → (w.alloc (.cells vs.toArray T)).cell? ⟨w.heap.size, j, none⟩ = some v := fun i x hx => by
  rw [World.cell?_alloc_new]
  simpa using hx
theorem Quest.alloc {w : World} {base : Nat} {v : Value} {p : Nd → Bool} (h : Quest w base v p) (o : Obj) : Quest (w.alloc o) base v p := h.keep (fun a _ h2 => World.cell?_alloc_lt _ _ _ h2) (by simp)
theorem LookBox.alloc {w : World} {b : Nat} {t : Nd} {d : Int} {A : Option Addr} {n cap : Nat} (h : LookBox w b t d A n cap) (o : Obj) : LookBox (w.alloc o) b t d A n cap := h.keep (heap_alloc_old _ _ h.lt)
/-- One question in a row of its own. -/
theorem next_one (t : Nd) (d : Int) (bl B base : Nat) (A : Option Addr) (c : Nat) (K : List Nd) (v : Value) (p : Nd → Bool) (w : World) (hlb : LookBox w bl t d A K.length c) (hin : InL w B A c K) (hbl : bl < base) (hBb : B ≤ bl) (hbw : base ≤ w.heap.size) (hq : Quest w base v p) :
    Calls Tryd.prog 48 #[.pointer (some ⟨bl, 0, none⟩), .slice (some ⟨w.heap.size, 0, none⟩) 1 1] (w.alloc (.cells #[v] 48)) (TakePost (stepQ [p] K) t d bl B w) :=
  (next_any t d bl B base A c K w.heap.size 1 [v] [p] (w.alloc (.cells #[v] 48)) (hlb.alloc _) (hin.alloc (by have := hlb.lt; omega) _) hbl hBb (by simp; omega) (laid_vs w [v] _) hbw (by simp) rfl (by simp) (by simp) (one_quest (hq.alloc _))).mono
    fun e w' h => (show TakePost (stepQ [p] K) t d bl B (w.alloc (.cells #[v] 48)) e w' from h.post).pre ((Below.refl _ _).alloc (Nat.le_refl _) _)
theorem perhaps_any (t : Nd) (d : Int) (bl B base : Nat) (A : Option Addr) (c : Nat) (K : List Nd) (bq : Nat) (p : Nd → Bool) (w : World) (hlb : LookBox w bl t d A K.length c) (hin : InL w B A c K) (hbl : bl < base) (hBb : B ≤ bl) (hbw : base ≤ w.heap.size) (hq : Quest w base (.func (.func 30) #[] #[.pointer (some ⟨bq, 0, none⟩)]) p) :
    Calls Tryd.prog 50 #[.pointer (some ⟨bl, 0, none⟩), .func (.func 30) #[] #[.pointer (some ⟨bq, 0, none⟩)]] w (TakePost (if K = [] then some [] else stepQ [p] K) t d bl B w) := by
  have hl := hin.len
  have hc := hin.cap
  unfold maxLen at hc
  have HN := Lib.hid (next_one t d bl B base A c K _ p w hlb hin hbl hBb hbw hq)
  have HLB := Lib.hid hlb
  have HIN := Lib.hid hin
  obtain ⟨_, _, _, _, c4, _, _⟩ := hlb
  clear hq hin
  generalize hr : (if K = [] then some [] else stepQ [p] K) = r
  have HR := Lib.hid hr
  clear hr
  by_cases hK : K = []
  · have HK := Lib.hid hK
    have h0 : ¬ 0 < K.length := by rw [hK]; simp
    clear hK
    go_enter Tryd.func50, Tryd.ntmps50
    go_wp2_with fail
    go_end0
    have e : TakePost r t d bl B w (.returned (.tuple #[])) w := by
      rw [← HR.out, if_pos HK.out]
      refine ⟨rfl, ⟨rfl, rfl, rfl, Nat.le_refl _, fun _ _ _ => rfl⟩, A, c, ?_, ?_⟩
      · have := HLB.out; rw [HK.out] at this; exact this
      · have := HIN.out; rw [HK.out] at this; exact this
    exact e
  · have HK := Lib.hid hK
    have h0 : 0 < K.length := List.length_pos_iff.2 hK
    clear hK
    have HE : Hid (r = stepQ [p] K) := by show _ = _; rw [← HR.out, if_neg HK.out]
    cases hs : stepQ [p] K with
    | some K' =>
      have HS := Lib.hid hs
      clear hs
      go_enter Tryd.func50, Tryd.ntmps50
      go_wp2_with fail
      have hn := HN.out
      rw [HS.out] at hn
      refine hn.mono ?_
      clear hn
      rintro e w1 ⟨rfl, h⟩
      have H := Lib.hid h
      clear h
      go_wp2_with fail
      go_end0
      rw [HE.out, HS.out]
      exact ⟨rfl, H.out⟩
    | none =>
      have HS := Lib.hid hs
      clear hs
      go_enter Tryd.func50, Tryd.ntmps50
      go_wp2_with fail
      have hn := HN.out
      rw [HS.out] at hn
      refine hn.mono ?_
      clear hn
      rintro e w1 ⟨rfl, h⟩
      have H := Lib.hid h
      clear h
      go_wp2_with fail
      refine ⟨rfl, ?_⟩
      rw [HE.out, HS.out]
      exact ⟨rfl, H.out⟩
end Go.Proofs.YtldedhfbpongmaaDoor
