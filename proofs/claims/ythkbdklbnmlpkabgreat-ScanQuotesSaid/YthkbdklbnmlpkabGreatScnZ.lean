/- Two digits in base 16. -/
import Derived.Test.YthkbdklbnmlpkabGreatScnX
import Derived.Laws.IdiomStrings
set_option maxRecDepth 100000
namespace ScnT
def dgs : ByteArray := ⟨#[48, 49, 50, 51, 52, 53, 54, 55, 56, 57, 97, 98, 99, 100, 101, 102]⟩
theorem dgs_at : ∀ n : Fin 16, dgs[n.val]'(by show n.val < 16; exact n.isLt) = digB (UInt8.ofNat n.val) := by decide
theorem nib : ∀ c : UInt8, c >>> 4 = UInt8.ofNat (c.toNat / 16) ∧ c &&& 15 = UInt8.ofNat (c.toNat % 16) := all256 (by decide)
end ScnT
namespace Go.Proofs.YthkbdklbnmlpkabGreat
open Go.Instr Go.RowKit ScnT
set_option linter.unusedVariables false
set_option maxHeartbeats 2000000 in
theorem inDigits16_any (c : UInt8) (w : World) : Calls Tryz.prog 17 #[.int .u8 c.toNat] w fun e w' => e = .returned (.string (mkS [92, 120, digB (c >>> 4), digB (c &&& 15)])) ∧ Below w.heap.size w w' := by
  have hlt := c.toNat_lt
  obtain ⟨n1, h1⟩ : ∃ n : Nat, c.toNat / 16 = n := ⟨_, rfl⟩
  obtain ⟨n2, h2⟩ : ∃ n : Nat, c.toNat % 16 = n := ⟨_, rfl⟩
  have l1 : n1 < 16 := by omega
  have l2 : n2 < 16 := by omega
  have l1' : (n1 : Int) < 16 := by omega
  have l2' : (n2 : Int) < 16 := by omega
  have q1 : (c.toNat : Int) / 16 = (n1 : Int) := by omega
  have q2 : (c.toNat : Int) % 16 = (n2 : Int) := by omega
  have HE : Hid (mkS [92, 120, digB (c >>> 4), digB (c &&& 15)] = ⟨[92, 120, dgs[n1]'(by show n1 < 16; exact l1), dgs[n2]'(by show n2 < 16; exact l2)].toArray⟩) := by
    show _ = _
    obtain ⟨x1, x2⟩ := nib c
    rw [x1, x2, h1, h2, ← dgs_at ⟨n1, l1⟩, ← dgs_at ⟨n2, l2⟩]
    rfl
  have hcv1 : (convert 35 9 (.slice (some ⟨w.heap.size, 0, none⟩) 4 4)).run Tryz.prog (w.alloc (.cells #[.int .u8 92, .int .u8 120, .int .u8 ((dgs[n1]'(by show n1 < 16; exact l1)).toNat : Int), .int .u8 ((dgs[n2]'(by show n2 < 16; exact l2)).toNat : Int)] 5)).drew = .ok (.string ⟨[92, 120, dgs[n1]'(by show n1 < 16; exact l1), dgs[n2]'(by show n2 < 16; exact l2)].toArray⟩) (w.alloc (.cells #[.int .u8 92, .int .u8 120, .int .u8 ((dgs[n1]'(by show n1 < 16; exact l1)).toNat : Int), .int .u8 ((dgs[n2]'(by show n2 < 16; exact l2)).toNat : Int)] 5)).drew := by
    refine run_convert_bytes_back _ _ _ _ ⟨w.heap.size, 0, none⟩ 4 [92, 120, _, _] Tryz.underlying35 Tryz.underlying5 Tryz.underlying9 fun j hj => ?_
    match j, hj with
    | 0, _ => simp [go_sem, Addr.add]
    | 1, _ => simp [go_sem, Addr.add]
    | 2, _ => simp [go_sem, Addr.add]
    | 3, _ => simp [go_sem, Addr.add]
  clear h1 h2
  unfold dgs at hcv1
  go_enter Tryz.func17, Tryz.ntmps17
  go_wp2_with fail
  go_region
  all_goals
    go_wp2_with fail
    go_ret
    exact ⟨by rw [HE.out]; rfl, ((Below.refl _ _).alloc (Nat.le_refl _) _).drew⟩
end Go.Proofs.YthkbdklbnmlpkabGreat
