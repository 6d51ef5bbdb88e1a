/- Marks of tokens; what is set into a row of structs. -/
import Derived.Test.YthhfgjcdopkmgaaGreatDoorRows
import Derived.Test.YthhfgjcdopkmgaaGreatDoorFlA
import Derived.WalkKit
import Derived.WalkLawsBesides
import Derived.WalkSpells
import Derived.Below
import Derived.Outline
import Derived.Lib.Hide
import Derived.Handy
set_option maxRecDepth 100000
namespace FlT
open Go Go.RowKit
theorem row_cell {w : World} {base : Nat} {T : TypeId} {s g n c : Nat} {xs : List Value} (h : w.ownsRow base T s (.slice (some ⟨g, 0, none⟩) n c) n xs) (j : Nat) (hj : j < n * s) : ∃ u, w.cell? ⟨g, j, none⟩ = some u := by
  rw [h.cellAt j hj]
  exact ⟨_, List.getElem?_eq_getElem (by rw [h.1]; exact hj)⟩
theorem set_behind (A B : List Value) (m j : Nat) (v : Value) (h : A.length = m) : (A ++ B).set (m + j) v = A ++ B.set j v := by
  rw [List.set_append_right _ _ (by omega), h]
  congr 2
  omega
theorem drop_ge (l : List Value) (m s : Nat) (h : m + s ≤ l.length) : (l.drop m).length ≥ s := by simp; omega
theorem upto_set2 (M : Nat → Nat → List Value) (k i : Nat) (l : List Value) (a b : Value) (hM : M k i = [a, b]) (h : i * 2 + 2 ≤ l.length) (hL : ∀ k i, (M k i).length = 2 := by intros; rfl) :
    ((upto M 2 k i l).set (i * 2) a).set (i * 2 + 1) b = upto M 2 k (i + 1) l := by
  have hA := mks_len M 2 hL k i
  unfold upto
  rw [mks_succ, hM, show (i + 1) * 2 = i * 2 + 2 by omega, ← List.drop_drop]
  have hd := drop_ge l (i * 2) 2 h
  match hB : l.drop (i * 2), hd with
  | x :: y :: r, _ =>
    have e0 := set_behind (mks M k i) (x :: y :: r) (i * 2) 0 a hA
    rw [Nat.add_zero] at e0
    rw [e0, set_behind _ _ _ _ _ hA]
    simp
theorem upto_set3 (M : Nat → Nat → List Value) (k i : Nat) (l : List Value) (a b c : Value) (hM : M k i = [a, b, c]) (h : i * 3 + 3 ≤ l.length) (hL : ∀ k i, (M k i).length = 3 := by intros; rfl) :
    (((upto M 3 k i l).set (i * 3) a).set (i * 3 + 1) b).set (i * 3 + 2) c = upto M 3 k (i + 1) l := by
  have hA := mks_len M 3 hL k i
  unfold upto
  rw [mks_succ, hM, show (i + 1) * 3 = i * 3 + 3 by omega, ← List.drop_drop]
  have hd := drop_ge l (i * 3) 3 h
  match hB : l.drop (i * 3), hd with
  | x :: y :: z :: r, _ =>
    have e0 := set_behind (mks M k i) (x :: y :: z :: r) (i * 3) 0 a hA
    rw [Nat.add_zero] at e0
    rw [e0, set_behind _ _ _ _ _ hA, set_behind _ _ _ _ _ hA]
    simp
end FlT
namespace Go.Proofs.YthhfgjcdopkmgaaGreatDoor
open Go.Instr Go.RowKit FlT
set_option linter.unusedVariables false
set_option linter.unusedSimpArgs false
set_option maxHeartbeats 1000000 in
theorem mark_any (k i : Nat) (w : World) (hk : k < 1000000000) (hi : i < 1000000000) : Calls Tryz.prog 121 #[.int .i64 k, .int .i64 i] w fun e w' => e = .returned (.int .i64 ((1000003 * (k + 7) + i : Nat) : Int)) ∧ w = w' := by
  have e1 : ((1000003 * (k + 7) + i : Nat) : Int) = 1000003 * ((k : Int) + 7) + (i : Int) := by omega
  have k0 : (0 : Int) ≤ (k : Int) := by omega
  have k1 : (k : Int) < 1000000000 := by omega
  have i0 : (0 : Int) ≤ (i : Int) := by omega
  have i1 : (i : Int) < 1000000000 := by omega
  rw [e1]
  clear e1
  go_enter Tryz.func121, Tryz.ntmps121
  go_wp2_with fail
  go_ret
  exact ⟨rfl, rfl⟩
set_option maxHeartbeats 1000000 in
theorem markToken_any (k i : Nat) (w : World) (hk : k < 1000000000) (hi : i < 1000000000) : Calls Tryz.prog 124 #[.int .i64 k, .int .i64 i] w fun e w' => e = .returned (.agg #[.int .u8 0, .string ⟨#[]⟩, .int .i64 ((1000003 * (k + 7) + i : Nat) : Int)]) ∧ Below w.heap.size w w' := by
  go_enter Tryz.func124, Tryz.ntmps124
  go_wp2_with (go_at_call 121; refine (mark_any k i _ hk hi).mono ?_; rintro e w' ⟨rfl, rfl⟩)
  exact bodyPost_ret (v := .agg #[.int .u8 0, .string ⟨#[]⟩, .int .i64 ((1000003 * (k + 7) + i : Nat) : Int)]) (by simp [results, Tryz.results124, go_sem]) rfl ⟨rfl, (Below.refl _ _).alloc (Nat.le_refl _) _⟩
end Go.Proofs.YthhfgjcdopkmgaaGreatDoor
