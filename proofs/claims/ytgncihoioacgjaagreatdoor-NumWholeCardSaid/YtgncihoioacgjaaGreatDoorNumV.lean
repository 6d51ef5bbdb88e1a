import Derived.Test.YtgncihoioacgjaaGreatDoorNumM
import Derived.Laws.BytesString
import Derived.Laws.Cells
import Derived.Lib.SmallJoins
namespace Go.Proofs.YtgncihoioacgjaaGreatDoor
open Go.Instr Go.RowKit NumF
set_option linter.unusedVariables false
set_option maxHeartbeats 1000000
def dg (n : Nat) : UInt8 := (48 + n % 10).toUInt8
/-- A number's digits, of k + 1 at most. -/
def D : Nat → Nat → List UInt8
  | 0, n => [dg n]
  | k + 1, n => if n < 10 then [dg n] else D k (n / 10) ++ [dg n]
theorem conv_one (w : World) (c : Int) : (convert 76 9 (.slice (some ⟨w.heap.size, 0, none⟩) 1 1)).run Tryz.prog (w.alloc (.cells #[.int .u8 c] 5)) = .ok (.string ⟨#[UInt8.ofNat c.toNat]⟩) (w.alloc (.cells #[.int .u8 c] 5)) := by
  rw [run_convert_bytes_string (e := 5) _ _ _ _ _ _ Tryz.underlying76 Tryz.underlying5 Tryz.underlying9]
  rw [run_bytesToString _ _ _ _ [c]]
  · rfl
  · refine run_loadCells_list (w := w.alloc (.cells #[.int .u8 c] 5)) ⟨w.heap.size, 0, none⟩ [.int .u8 c] (fun j v hv => ?_)
    have hj : j = 0 := by
      cases j with
      | zero => rfl
      | succ j => simp at hv
    subst hj
    exact (World.cell?_alloc_new w #[.int .u8 c] 5 0).trans hv
theorem dg_eq (n : Nat) : UInt8.ofNat ((48 : Int) + (n : Int) % 10).toNat = dg n := by
  unfold dg
  have : ((48 : Int) + (n : Int) % 10).toNat = 48 + n % 10 := by omega
  rw [this]
theorem conv_dg (n : Nat) (w : World) : (convert 76 9 (.slice (some ⟨w.heap.size, 0, none⟩) 1 1)).run Tryz.prog (w.alloc (.cells #[.int .u8 (48 + (n : Int) % 10)] 5)) = .ok (.string ⟨#[dg n]⟩) (w.alloc (.cells #[.int .u8 (48 + (n : Int) % 10)] 5)) := by
  rw [conv_one, dg_eq]
theorem text_small (n : Nat) (h : n < 10) (w : World) : Calls Tryz.prog 27 #[.int .i64 (n : Int)] w fun e w' => e = .returned (.string ⟨#[dg n]⟩) ∧ Below w.heap.size w w' := by
  have h1 : (0 : Int) ≤ (n : Int) := by omega
  have hc := conv_dg n
  have hd : decide ((n : Int) < 10) = true := by simp; omega
  go_enter Tryz.func27, Tryz.ntmps27
  go_wp2_with fail
  go_ret
  exact ⟨rfl, by go_grown⟩
theorem ba_append (l r : List UInt8) : (⟨l.toArray⟩ : ByteArray) ++ ⟨r.toArray⟩ = ⟨(l ++ r).toArray⟩ := by
  have := Go.Joins.data_append ⟨l.toArray⟩ ⟨r.toArray⟩
  cases h : (⟨l.toArray⟩ : ByteArray) ++ ⟨r.toArray⟩ with | mk d =>
  rw [h] at this
  simp only at this
  cases d with | mk q => simp only at this; rw [this]
theorem text_great (n : Nat) (h : ¬ n < 10) (hm : n ≤ 9223372036854775807) (l : List UInt8) (hlen : l.length + 1 ≤ 9223372036854775807) (ih : ∀ w, Calls Tryz.prog 27 #[.int .i64 ((n / 10 : Nat) : Int)] w fun e w' => e = .returned (.string ⟨l.toArray⟩) ∧ Below w.heap.size w w') (w : World) :
    Calls Tryz.prog 27 #[.int .i64 (n : Int)] w fun e w' => e = .returned (.string ⟨(l ++ [dg n]).toArray⟩) ∧ Below w.heap.size w w' := by
  have h1 : (0 : Int) ≤ (n : Int) := by omega
  have hc := conv_dg n
  have hd : decide ((n : Int) < 10) = false := by simp; omega
  have IH := Lib.hid ih
  clear ih
  go_enter Tryz.func27, Tryz.ntmps27
  go_wp2_with (go_at_call 27; refine (IH.out _).mono ?_; rintro e w' ⟨rfl, hb⟩)
  go_ret
  exact ⟨by rw [← ba_append]; rfl, below_new hb⟩
theorem D_length (k n : Nat) : (D k n).length ≤ k + 1 := by
  induction k generalizing n with
  | zero => simp [D]
  | succ k ih =>
    unfold D
    split
    · simp
    · have := ih (n / 10); simp; omega
theorem text_any (k : Nat) (hk : k ≤ 100) : ∀ (n : Nat) (w : World), n < 10 ^ (k + 1) → n ≤ 9223372036854775807 → Calls Tryz.prog 27 #[.int .i64 (n : Int)] w fun e w' => e = .returned (.string ⟨(D k n).toArray⟩) ∧ Below w.heap.size w w' := by
  induction k with
  | zero => intro n w h _; exact text_small n (by simpa using h) w
  | succ k ih =>
    intro n w h hm
    by_cases hn : n < 10
    · have := text_small n hn w
      unfold D; rw [if_pos hn]; exact this
    · unfold D; rw [if_neg hn]
      have := D_length k (n / 10)
      refine text_great n hn hm _ (by omega) (fun w => ih (by omega) (n / 10) w ?_ (by omega)) w
      rw [Nat.pow_succ] at h
      omega
end Go.Proofs.YtgncihoioacgjaaGreatDoor
