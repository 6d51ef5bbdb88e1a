/- NodeGreat: nests of operators, wide rows; trees that avoid a block. -/
import Derived.Test.YtbiohbklefjfiaaDoorNodRi
import Derived.Test.YtbiohbklefjfiaaDoorNodBc
set_option maxRecDepth 100000
namespace NodT
open Go Go.RowKit
set_option linter.unusedVariables false
set_option linter.unusedSimpArgs false
def nest : Nat → Nd
  | 0 => T5 21 ⟨#[49]⟩ []
  | d + 1 => T5 26 ⟨#[45]⟩ [nest d]
def great (d : Nat) : Nd := T5 9 ⟨#[]⟩ [T5 17 ⟨#[]⟩ [nest d]]
def brk : Nd := .mk 18 ⟨#[]⟩ 0 0 none 0 []
theorem deep_T5 (k : Nat) (s : ByteArray) (t : Nd) : deep (T5 k s [t]) = deep t + 1 := by
  rw [deep_eq]
  show max (deep t) 0 + 1 = _
  omega
theorem deep_nest : ∀ d, deep (nest d) = d + 1 := by
  intro d
  induction d with
  | zero => rfl
  | succ d ih => rw [nest, deep_T5, ih]
theorem deep_great (d : Nat) : deep (great d) = d + 3 := by rw [great, deep_T5, deep_T5, deep_nest]
theorem many_T5 (k : Nat) (s : ByteArray) (t : Nd) : many (T5 k s [t]) = many t + 1 := by
  rw [many_eq]
  show 1 + (many t + 0) = _
  omega
theorem many_nest : ∀ d, many (nest d) = d + 1 := by
  intro d
  induction d with
  | zero => rfl
  | succ d ih => rw [nest, many_T5, ih]
theorem many_great (d : Nat) : many (great d) = d + 3 := by rw [great, many_T5, many_T5, many_nest]
theorem rg55 : rightB (great 55) = true := by kernel_rfl
theorem rg56 : rightB (great 56) = true := by kernel_rfl
theorem rg57 : rightB (great 57) = true := by kernel_rfl
theorem rg58 : rightB (great 58) = false := by kernel_rfl
theorem rg59 : rightB (great 59) = false := by kernel_rfl
theorem rg60 : rightB (great 60) = false := by kernel_rfl
theorem rg61 : rightB (great 61) = false := by kernel_rfl
theorem right_great (d : Nat) (h1 : 55 ≤ d) (h2 : d < 62) : rightB (great d) = decide ((d : Int) ≤ 57) := by
  have : d = 55 ∨ d = 56 ∨ d = 57 ∨ d = 58 ∨ d = 59 ∨ d = 60 ∨ d = 61 := by omega
  rcases this with rfl | rfl | rfl | rfl | rfl | rfl | rfl
  · rw [rg55]; rfl
  · rw [rg56]; rfl
  · rw [rg57]; rfl
  · rw [rg58]; rfl
  · rw [rg59]; rfl
  · rw [rg60]; rfl
  · rw [rg61]; rfl
theorem manyL_rep (n : Nat) (t : Nd) (h : many t = 1) : manyL (List.replicate n t) = n := by
  induction n with
  | zero => rfl
  | succ n ih => rw [List.replicate_succ]; simp only [manyL]; omega
theorem all_rep {α : Type} (n : Nat) (t : α) (p : α → Bool) (h : p t = true) : (List.replicate n t).all p = true := List.all_eq_true.2 fun x hx => by rw [List.eq_of_mem_replicate hx]; exact h
theorem many_wide (n : Nat) (A : Option Addr) (c : Nat) : many (.mk 9 ⟨#[]⟩ 0 0 A c (List.replicate n brk)) = 1 + n := by
  rw [many_eq]
  show 1 + manyL (List.replicate n brk) = _
  rw [manyL_rep n brk rfl]
theorem eats_nine (K : List Nd) : eats 9 0 K = (if K.all (isK [9, 10, 11, 12, 13, 14, 15, 17, 18, 19, 20]) then some [] else none) := rfl
theorem right_wide (n : Nat) (A : Option Addr) (c : Nat) : rightB (.mk 9 ⟨#[]⟩ 0 0 A c (List.replicate n brk)) = decide (1 + n ≤ 32768) := by
  unfold rightB allB
  rw [many_wide, okT_eq, okL_all]
  have h1 : (Nd.mk 9 ⟨#[]⟩ 0 0 A c (List.replicate n brk)).kids = List.replicate n brk := rfl
  have hk : (Nd.mk 9 ⟨#[]⟩ 0 0 A c (List.replicate n brk)).kind = 9 := rfl
  have hb : okT 9 (1 + 1) brk = true := by kernel_rfl
  rw [h1, hk, all_rep n brk (okT 9 (1 + 1)) hb]
  have h2 : locB 9 1 (.mk 9 ⟨#[]⟩ 0 0 A c (List.replicate n brk)) = true := by
    have h3 : kidsB (.mk 9 ⟨#[]⟩ 0 0 A c (List.replicate n brk)) = true := by
      unfold kidsB
      have h4 : eats 9 0 (List.replicate n brk) = some [] := by
        rw [eats_nine, all_rep n brk (isK [9, 10, 11, 12, 13, 14, 15, 17, 18, 19, 20]) rfl]
        rfl
      show (match eats 9 0 (List.replicate n brk) with | some [] => true | _ => false) = true
      rw [h4]
    unfold locB
    rw [h3]
    have h5 : (decide (1 ≤ 60) && (!((9 : Nat) == 35) || (9 : Nat) == 9) && decide ((0 : Int) ≤ 0) && textB 9 ⟨#[]⟩ && numB 9 0 && true) = true := by kernel_rfl
    exact h5
  rw [h2]
  simp
/-- A tree that lies in the world, none of its rows in block g. -/
def InX (w : World) (g : Nat) (t : Nd) : Prop := ∀ (w1 : World) (B : Nat), (∀ p : Addr, p.block < w.heap.size → p.block ≠ g → w1.cell? p = w.cell? p) → w.heap.size ≤ B → In w1 B t
theorem InX.in_ {w : World} {g : Nat} {t : Nd} (h : InX w g t) : In w w.heap.size t := h w _ (fun _ _ _ => rfl) (Nat.le_refl _)
theorem InX.later {w w' : World} {g : Nat} {t : Nd} (h : InX w g t) (hb : Below w.heap.size w w') : InX w' g t := fun w1 B hw hB =>
  h w1 B (fun p hp hne => (hw p (Nat.lt_of_lt_of_le hp hb.size) hne).trans (hb.cell hp)) (Nat.le_trans hb.size hB)
theorem InX.put {w : World} {g : Nat} {t : Nd} (h : InX w g t) (x0 x1 x2 x3 x4 : Value) : InX (put5 w g x0 x1 x2 x3 x4) g t := fun w1 B hw hB =>
  h w1 B (fun p hp hne => (hw p (by rw [put5_size]; exact hp) hne).trans (put5_cell _ _ _ _ _ _ _ _ hne)) (by rw [put5_size] at hB; exact hB)
theorem InX.leaf (w : World) (g : Nat) (k : Nat) (s : ByteArray) (hk : k < 256) (hs : s.size ≤ maxLen) : InX w g (.mk k s 0 0 none 0 []) := fun w1 B _ _ =>
  .mk _ ⟨hk, hs, by show (-9223372036854775808 : Int) ≤ 0 ∧ (0 : Int) ≤ 9223372036854775807; decide, by show (-9223372036854775808 : Int) ≤ 0 ∧ (0 : Int) ≤ 9223372036854775807; decide, Nat.le_refl _, Nat.zero_le _, fun _ => ⟨rfl, rfl⟩⟩ (fun h => by simp [Nd.kids] at h) (fun i u h => by simp [Nd.kids] at h)
/-- A tree of one kid, whose row is made of the kid's cells. -/
theorem InX.wrap {w w2 : World} {g : Nat} {x : Nd} {e : TypeId} (h : InX w g x) (hg : g < w.heap.size) (hb : Below (w.alloc (.cells x.cs.toArray e)).heap.size (w.alloc (.cells x.cs.toArray e)) w2) (k : Nat) (s : ByteArray) (hk : k < 256) (hs : s.size ≤ maxLen) :
    InX w2 g (.mk k s 0 0 (some ⟨w.heap.size, 0, none⟩) 1 [x]) := by
  intro w1 B hw hB
  have hsz : (w.alloc (.cells x.cs.toArray e)).heap.size = w.heap.size + 1 := by simp
  have hs2 := hb.size
  rw [hsz] at hs2
  have hrow : w2.heap[w.heap.size]? = some (.cells x.cs.toArray e) := (hb.block _ (by rw [hsz]; omega)).trans (heap_alloc_new _ _)
  have hbw : Below w.heap.size w w2 := ((Below.refl _ _).alloc (Nat.le_refl _) _).trans (hb.mono (by rw [hsz]; omega))
  refine .mk _ ⟨hk, hs, by show (-9223372036854775808 : Int) ≤ 0 ∧ (0 : Int) ≤ 9223372036854775807; decide, by show (-9223372036854775808 : Int) ≤ 0 ∧ (0 : Int) ≤ 9223372036854775807; decide, Nat.le_refl _, by show 1 ≤ maxLen; decide, fun h => by cases h⟩ ?_ ?_
  · intro h0
    refine ⟨w.heap.size, 0, rfl, by omega, fun i u hi j v hv => ?_⟩
    have hi0 : i = 0 ∧ u = x := by
      cases i with
      | zero => exact ⟨rfl, (Option.some.inj hi).symm⟩
      | succ i => simp [Nd.kids] at hi
    obtain ⟨rfl, rfl⟩ := hi0
    rw [hw ⟨w.heap.size, 0 + 0 * 5 + j, none⟩ (by show w.heap.size < _; omega) (by show w.heap.size ≠ g; omega), Lib.cell_of_heap hrow]
    simpa using hv
  · intro i u hi
    have hux : u = x := by
      cases i with
      | zero => exact (Option.some.inj hi).symm
      | succ i => simp [Nd.kids] at hi
    subst hux
    refine h w1 B (fun p hp hne => (hw p (Nat.lt_of_lt_of_le hp hbw.size) hne).trans (hbw.cell hp)) (Nat.le_trans hbw.size hB)
end NodT
