import Derived.Test.YtldedhfbpongmaaDoorNodAb
set_option maxRecDepth 100000
namespace Go.Proofs.YtldedhfbpongmaaDoor
open Go.Instr Go.RowKit NodT
set_option linter.unusedVariables false
/-- Behind the making of a question over a literal row: the row, and the box that the closure holds. -/
def litAt (W : World) (s : Nat) (ks : List Nat) : World := (W.alloc (.cells (ks.map fun (k : Nat) => Value.int .u8 (k : Int)).toArray 22)).alloc (.cells #[.slice (some ⟨s, 0, none⟩) ks.length ks.length] 53)
def fnAt (s : Nat) : Value := .func (.func 30) #[] #[.pointer (some ⟨s + 1, 0, none⟩)]
theorem litAt_below (W : World) (s : Nat) (ks : List Nat) : Below W.heap.size W (litAt W s ks) := ((Below.refl _ _).alloc (Nat.le_refl _) _).alloc (by simp) _
theorem litAt_size (W : World) (s : Nat) (ks : List Nat) : (litAt W s ks).heap.size = W.heap.size + 1 + 1 := by simp [litAt]
theorem litAt_quest (W : World) (ks : List Nat) (base : Nat) (hb : base ≤ W.heap.size) (hl : ks.length ≤ 100) (hs : ∀ k ∈ ks, k < 256) : Quest (litAt W W.heap.size ks) base (fnAt W.heap.size) (isK ks) :=
  .inl ⟨W.heap.size + 1, W.heap.size, ks, rfl, KindsBoxAt.new W ks hl hs _ rfl, by rw [litAt_size]; omega, by omega, hb, rfl⟩
theorem Quest.lit {W : World} {base s : Nat} {ks : List Nat} {v : Value} {p : Nd → Bool} (h : Quest W base v p) : Quest (litAt W s ks) base v p := (h.alloc _).alloc _
section
variable (t : Nd) (d : Int) (bl B : Nat) (A : Option Addr) (c : Nat) (K : List Nd) (W : World)
theorem rest_lit (hlb : LookBox W bl t d A K.length c) (hin : InL W B A c K) (hBb : B ≤ bl) (ks : List Nat) (hl : ks.length ≤ 100) (hs : ∀ k ∈ ks, k < 256) :
    Calls Tryd.prog 47 #[.pointer (some ⟨bl, 0, none⟩), fnAt W.heap.size] (litAt W W.heap.size ks) (TakePost (if K.all (isK ks) then some [] else none) t d bl B W) :=
  (rest_any t d bl B W.heap.size A c K (fnAt W.heap.size) (isK ks) (litAt W W.heap.size ks) ((hlb.alloc _).alloc _) (hin.under ((litAt_below W _ ks).mono (by have := hlb.lt; omega))) hlb.lt hBb (by rw [litAt_size]; omega) (litAt_quest W ks _ (Nat.le_refl _) hl hs)).mono
    fun e w' h => h.pre (litAt_below W _ ks)
theorem perhaps_lit (hlb : LookBox W bl t d A K.length c) (hin : InL W B A c K) (hBb : B ≤ bl) (ks : List Nat) (hl : ks.length ≤ 100) (hs : ∀ k ∈ ks, k < 256) :
    Calls Tryd.prog 50 #[.pointer (some ⟨bl, 0, none⟩), fnAt W.heap.size] (litAt W W.heap.size ks) (TakePost (if K = [] then some [] else stepQ [isK ks] K) t d bl B W) :=
  (perhaps_any t d bl B W.heap.size A c K (W.heap.size + 1) (isK ks) (litAt W W.heap.size ks) ((hlb.alloc _).alloc _) (hin.under ((litAt_below W _ ks).mono (by have := hlb.lt; omega))) hlb.lt hBb (by rw [litAt_size]; omega) (litAt_quest W ks _ (Nat.le_refl _) hl hs)).mono
    fun e w' h => h.pre (litAt_below W _ ks)
theorem next_lit1 (hlb : LookBox W bl t d A K.length c) (hin : InL W B A c K) (hBb : B ≤ bl) (k1 : List Nat) (hl1 : k1.length ≤ 100) (hs1 : ∀ k ∈ k1, k < 256) :
    Calls Tryd.prog 48 #[.pointer (some ⟨bl, 0, none⟩), .slice (some ⟨W.heap.size + 1 + 1, 0, none⟩) 1 1] ((litAt W W.heap.size k1).alloc (.cells #[fnAt W.heap.size] 48)) (TakePost (stepQ [isK k1] K) t d bl B W) := by
  have h := next_one t d bl B W.heap.size A c K (fnAt W.heap.size) (isK k1) (litAt W W.heap.size k1) ((hlb.alloc _).alloc _) (hin.under ((litAt_below W _ k1).mono (by have := hlb.lt; omega))) hlb.lt hBb (by rw [litAt_size]; omega) (litAt_quest W k1 _ (Nat.le_refl _) hl1 hs1)
  rw [litAt_size] at h
  exact h.mono fun e w' h => h.pre (litAt_below W _ k1)
theorem two_quests {w : World} {base : Nat} {v v' : Value} {p p' : Nd → Bool} (h : Quest w base v p) (h' : Quest w base v' p') : ∀ (j : Nat) (x : Value) (y : Nd → Bool), [v, v'][j]? = some x → [p, p'][j]? = some y → Quest w base x y := fun i x y hx hy => by
  match i with
  | 0 => obtain rfl : v = x := by simpa using hx
         obtain rfl : p = y := by simpa using hy
         exact h
  | 1 => obtain rfl : v' = x := by simpa using hx
         obtain rfl : p' = y := by simpa using hy
         exact h'
  | i + 2 => simp at hx
theorem three_quests {w : World} {base : Nat} {v v' v2 : Value} {p p' p2 : Nd → Bool} (h : Quest w base v p) (h' : Quest w base v' p') (h2 : Quest w base v2 p2) : ∀ (j : Nat) (x : Value) (y : Nd → Bool), [v, v', v2][j]? = some x → [p, p', p2][j]? = some y → Quest w base x y := fun i x y hx hy => by
  match i with
  | 0 => obtain rfl : v = x := by simpa using hx
         obtain rfl : p = y := by simpa using hy
         exact h
  | 1 => obtain rfl : v' = x := by simpa using hx
         obtain rfl : p' = y := by simpa using hy
         exact h'
  | 2 => obtain rfl : v2 = x := by simpa using hx
         obtain rfl : p2 = y := by simpa using hy
         exact h2
  | i + 3 => simp at hx
theorem next_lit2 (hlb : LookBox W bl t d A K.length c) (hin : InL W B A c K) (hBb : B ≤ bl) (k1 k2 : List Nat) (hl1 : k1.length ≤ 100) (hs1 : ∀ k ∈ k1, k < 256) (hl2 : k2.length ≤ 100) (hs2 : ∀ k ∈ k2, k < 256) :
    Calls Tryd.prog 48 #[.pointer (some ⟨bl, 0, none⟩), .slice (some ⟨W.heap.size + 1 + 1 + 1 + 1, 0, none⟩) 2 2] ((litAt (litAt W W.heap.size k1) (W.heap.size + 1 + 1) k2).alloc (.cells #[fnAt W.heap.size, fnAt (W.heap.size + 1 + 1)] 48)) (TakePost (stepQ [isK k1, isK k2] K) t d bl B W) := by
  have q1 := litAt_quest W k1 W.heap.size (Nat.le_refl _) hl1 hs1
  have q2 := litAt_quest (litAt W W.heap.size k1) k2 W.heap.size (by rw [litAt_size]; omega) hl2 hs2
  have hsz := litAt_size W W.heap.size k1
  rw [hsz] at q2
  have q1' := Quest.lit (s := W.heap.size + 1 + 1) (ks := k2) q1
  have hb : Below W.heap.size W (litAt (litAt W W.heap.size k1) (W.heap.size + 1 + 1) k2) := (litAt_below W _ k1).trans ((litAt_below _ _ k2).mono (by rw [hsz]; omega))
  have hs2' := litAt_size (litAt W W.heap.size k1) (W.heap.size + 1 + 1) k2
  rw [hsz] at hs2'
  generalize litAt (litAt W W.heap.size k1) (W.heap.size + 1 + 1) k2 = W2 at *
  rw [← hs2']
  have hlt := hlb.lt
  exact (next_any t d bl B W.heap.size A c K W2.heap.size 2 [fnAt W.heap.size, fnAt (W.heap.size + 1 + 1)] [isK k1, isK k2] (W2.alloc (.cells #[fnAt W.heap.size, fnAt (W.heap.size + 1 + 1)] 48)) ((hlb.keep (hb.block _ hlt)).alloc _) ((hin.under (hb.mono (by omega))).alloc (by omega) _) hlt hBb (by simp; omega) (laid_vs W2 [fnAt W.heap.size, fnAt (W.heap.size + 1 + 1)] _) (by omega) (by simp) rfl (by simp) (by simp) (two_quests (q1'.alloc _) (q2.alloc _))).mono
    fun e w' h => (show TakePost (stepQ [isK k1, isK k2] K) t d bl B _ e w' from h.post).pre (hb.alloc (by omega) _)
theorem next_lit3 (hlb : LookBox W bl t d A K.length c) (hin : InL W B A c K) (hBb : B ≤ bl) (k1 k2 k3 : List Nat) (hl1 : k1.length ≤ 100) (hs1 : ∀ k ∈ k1, k < 256) (hl2 : k2.length ≤ 100) (hs2 : ∀ k ∈ k2, k < 256) (hl3 : k3.length ≤ 100) (hs3 : ∀ k ∈ k3, k < 256) :
    Calls Tryd.prog 48 #[.pointer (some ⟨bl, 0, none⟩), .slice (some ⟨W.heap.size + 1 + 1 + 1 + 1 + 1 + 1, 0, none⟩) 3 3] ((litAt (litAt (litAt W W.heap.size k1) (W.heap.size + 1 + 1) k2) (W.heap.size + 1 + 1 + 1 + 1) k3).alloc (.cells #[fnAt W.heap.size, fnAt (W.heap.size + 1 + 1), fnAt (W.heap.size + 1 + 1 + 1 + 1)] 48)) (TakePost (stepQ [isK k1, isK k2, isK k3] K) t d bl B W) := by
  have q1 := litAt_quest W k1 W.heap.size (Nat.le_refl _) hl1 hs1
  have q2 := litAt_quest (litAt W W.heap.size k1) k2 W.heap.size (by rw [litAt_size]; omega) hl2 hs2
  have hsz := litAt_size W W.heap.size k1
  rw [hsz] at q2
  have q1' := Quest.lit (s := W.heap.size + 1 + 1) (ks := k2) q1
  have hs2' := litAt_size (litAt W W.heap.size k1) (W.heap.size + 1 + 1) k2
  rw [hsz] at hs2'
  have q3 := litAt_quest (litAt (litAt W W.heap.size k1) (W.heap.size + 1 + 1) k2) k3 W.heap.size (by rw [hs2']; omega) hl3 hs3
  rw [hs2'] at q3
  have q1'' := Quest.lit (s := W.heap.size + 1 + 1 + 1 + 1) (ks := k3) q1'
  have q2'' := Quest.lit (s := W.heap.size + 1 + 1 + 1 + 1) (ks := k3) q2
  have hb2 : Below W.heap.size W (litAt (litAt W W.heap.size k1) (W.heap.size + 1 + 1) k2) := (litAt_below W _ k1).trans ((litAt_below _ _ k2).mono (by rw [hsz]; omega))
  have hb : Below W.heap.size W (litAt (litAt (litAt W W.heap.size k1) (W.heap.size + 1 + 1) k2) (W.heap.size + 1 + 1 + 1 + 1) k3) := hb2.trans ((litAt_below _ _ k3).mono (by rw [hs2']; omega))
  have hs3' := litAt_size (litAt (litAt W W.heap.size k1) (W.heap.size + 1 + 1) k2) (W.heap.size + 1 + 1 + 1 + 1) k3
  rw [hs2'] at hs3'
  clear q1 q2 q1' hb2 hs2' hsz
  generalize litAt (litAt (litAt W W.heap.size k1) (W.heap.size + 1 + 1) k2) (W.heap.size + 1 + 1 + 1 + 1) k3 = W2 at *
  rw [← hs3']
  have hlt := hlb.lt
  exact (next_any t d bl B W.heap.size A c K W2.heap.size 3 [fnAt W.heap.size, fnAt (W.heap.size + 1 + 1), fnAt (W.heap.size + 1 + 1 + 1 + 1)] [isK k1, isK k2, isK k3] (W2.alloc (.cells #[fnAt W.heap.size, fnAt (W.heap.size + 1 + 1), fnAt (W.heap.size + 1 + 1 + 1 + 1)] 48)) ((hlb.keep (hb.block _ hlt)).alloc _) ((hin.under (hb.mono (by omega))).alloc (by omega) _) hlt hBb (by simp; omega) (laid_vs W2 [fnAt W.heap.size, fnAt (W.heap.size + 1 + 1), fnAt (W.heap.size + 1 + 1 + 1 + 1)] _) (by omega) (by simp) rfl (by simp) (by simp) (three_quests (q1''.alloc _) (q2''.alloc _) (q3.alloc _))).mono
    fun e w' h => (show TakePost (stepQ [isK k1, isK k2, isK k3] K) t d bl B _ e w' from h.post).pre (hb.alloc (by omega) _)
theorem times_lit (hlb : LookBox W bl t d A K.length c) (hin : InL W B A c K) (hBb : B ≤ bl) (n : Int) (hn1 : -9223372036854775808 ≤ n) (hn2 : n ≤ 9223372036854775807) (ks : List Nat) (hl : ks.length ≤ 100) (hs : ∀ k ∈ ks, k < 256) :
    Calls Tryd.prog 51 #[.pointer (some ⟨bl, 0, none⟩), .int .i64 n, fnAt W.heap.size] (litAt W W.heap.size ks).drew (TakePost (stepQ (List.replicate n.toNat (isK ks)) K) t d bl B W) :=
  (times_any t d bl B W.heap.size A c K (fnAt W.heap.size) (isK ks) n hn1 hn2 (litAt W W.heap.size ks).drew ((hlb.alloc _).alloc _ |>.keep rfl) (hin.under ((litAt_below W _ ks).drew.mono (by have := hlb.lt; omega))) hlb.lt hBb (by show W.heap.size ≤ (litAt W W.heap.size ks).heap.size; rw [litAt_size]; omega) ((litAt_quest W ks _ (Nat.le_refl _) hl hs).keep (fun _ _ _ => rfl) (Nat.le_refl _))).mono
    fun e w' h => by
      have := h.post
      unfold stepQ
      rw [List.length_replicate]
      exact this.pre (litAt_below W _ ks).drew
theorem times_place (hlb : LookBox W bl t d A K.length c) (hin : InL W B A c K) (hBb : B ≤ bl) (n : Int) (hn1 : -9223372036854775808 ≤ n) (hn2 : n ≤ 9223372036854775807) :
    Calls Tryd.prog 51 #[.pointer (some ⟨bl, 0, none⟩), .int .i64 n, .func (.func 53) #[] #[]] W (TakePost (stepQ (List.replicate n.toNat placeB) K) t d bl B W) :=
  (times_any t d bl B W.heap.size A c K _ placeB n hn1 hn2 W hlb hin hlb.lt hBb (Nat.le_refl _) (.inr ⟨rfl, rfl⟩)).mono
    fun e w' h => by
      have := h.post
      unfold stepQ
      rw [List.length_replicate]
      exact this
end
theorem types_any (w : World) : Calls Tryd.prog 49 #[] w fun e w' => e = .returned (.func (.func 30) #[] #[.pointer (some ⟨w.heap.size + 1, 0, none⟩)]) ∧ (w.alloc (.cells #[.int .u8 7, .int .u8 8] 22)).alloc (.cells #[.slice (some ⟨w.heap.size, 0, none⟩) 2 2] 53) = w' := by
  go_enter Tryd.func49, Tryd.ntmps49
  go_wp2_with (go_at_call 24; refine (of_any _ _ _ _ _).mono ?_; rintro e w' ⟨rfl, rfl⟩)
  go_ret
  exact ⟨by simp, rfl⟩
theorem blocks_any (w : World) : Calls Tryd.prog 54 #[] w fun e w' => e = .returned (.func (.func 30) #[] #[.pointer (some ⟨w.heap.size + 1, 0, none⟩)]) ∧ (w.alloc (.cells #[.int .u8 9] 22)).alloc (.cells #[.slice (some ⟨w.heap.size, 0, none⟩) 1 1] 53) = w' := by
  go_enter Tryd.func54, Tryd.ntmps54
  go_wp2_with (go_at_call 24; refine (of_any _ _ _ _ _).mono ?_; rintro e w' ⟨rfl, rfl⟩)
  go_ret
  exact ⟨by simp, rfl⟩
theorem calls_any (w : World) : Calls Tryd.prog 52 #[] w fun e w' => e = .returned (.func (.func 30) #[] #[.pointer (some ⟨w.heap.size + 1, 0, none⟩)]) ∧ (w.alloc (.cells #[.int .u8 28] 22)).alloc (.cells #[.slice (some ⟨w.heap.size, 0, none⟩) 1 1] 53) = w' := by
  go_enter Tryd.func52, Tryd.ntmps52
  go_wp2_with (go_at_call 24; refine (of_any _ _ _ _ _).mono ?_; rintro e w' ⟨rfl, rfl⟩)
  go_ret
  exact ⟨by simp, rfl⟩
theorem statements_any (w : World) : Calls Tryd.prog 36 #[] w fun e w' => e = .returned (.func (.func 30) #[] #[.pointer (some ⟨w.heap.size + 1, 0, none⟩)]) ∧ (w.alloc (.cells #[.int .u8 9, .int .u8 10, .int .u8 11, .int .u8 12, .int .u8 13, .int .u8 14, .int .u8 15, .int .u8 17, .int .u8 18, .int .u8 19, .int .u8 20] 22)).alloc (.cells #[.slice (some ⟨w.heap.size, 0, none⟩) 11 11] 53) = w' := by
  go_enter Tryd.func36, Tryd.ntmps36
  go_wp2_with (go_at_call 24; refine (of_any _ _ _ _ _).mono ?_; rintro e w' ⟨rfl, rfl⟩)
  go_ret
  exact ⟨by simp, rfl⟩
theorem expressions_any (w : World) : Calls Tryd.prog 38 #[] w fun e w' => e = .returned (.func (.func 30) #[] #[.pointer (some ⟨w.heap.size + 1, 0, none⟩)]) ∧ (w.alloc (.cells #[.int .u8 21, .int .u8 22, .int .u8 23, .int .u8 24, .int .u8 25, .int .u8 26, .int .u8 27, .int .u8 28, .int .u8 29, .int .u8 30, .int .u8 31, .int .u8 32, .int .u8 33, .int .u8 35] 22)).alloc (.cells #[.slice (some ⟨w.heap.size, 0, none⟩) 14 14] 53) = w' := by
  go_enter Tryd.func38, Tryd.ntmps38
  go_wp2_with (go_at_call 24; refine (of_any _ _ _ _ _).mono ?_; rintro e w' ⟨rfl, rfl⟩)
  go_ret
  exact ⟨by simp, rfl⟩
end Go.Proofs.YtldedhfbpongmaaDoor
