/- markText: a text made of two numbers. -/
import Derived.Test.YtfpjleabmemieaaGreatRows
import Derived.Test.YtfpjleabmemieaaGreatFlA
import Derived.WalkKit
import Derived.WalkLawsBesides
import Derived.WalkSpells
import Derived.Below
import Derived.Outline
import Derived.Lib.Hide
import Derived.Handy
import Derived.Laws.IdiomStrings
set_option maxRecDepth 100000
namespace Go.Proofs.YtfpjleabmemieaaGreat
open Go.Instr Go.RowKit FlT
set_option linter.unusedVariables false
set_option linter.unusedSimpArgs false
def mkB (k i : Nat) : List UInt8 := [35, UInt8.ofNat k, UInt8.ofNat (k / 256), UInt8.ofNat (k / 65536), 47, UInt8.ofNat i, UInt8.ofNat (i / 256), UInt8.ofNat (i / 65536)]
def mkT (k i : Nat) : ByteArray := ⟨(mkB k i).toArray⟩
def mkV (k i : Nat) : Value := .string (mkT k i)
theorem ofNat_wrap (k : Nat) : IntKind.u8.wrap (k : Int) = ((UInt8.ofNat k).toNat : Int) := by rw [IntKind.wrap_u8]; simp
set_option maxHeartbeats 2000000 in
theorem markText_any (k i : Nat) (w : World) (hk : k < 1000000000) (hi : i < 1000000000) : Calls Tryz.prog 87 #[.int .i64 k, .int .i64 i] w fun e w' => e = .returned (.string (mkT k i)) ∧ Below w.heap.size w w' := by
  have g1 := ofNat_wrap k
  have g2 := ofNat_wrap (k / 256)
  have g3 := ofNat_wrap (k / 65536)
  have g4 := ofNat_wrap i
  have g5 := ofNat_wrap (i / 256)
  have g6 := ofNat_wrap (i / 65536)
  have k0 : (0 : Int) ≤ (k : Int) := by omega
  have k1 : (k : Int) < 1000000000 := by omega
  have i0 : (0 : Int) ≤ (i : Int) := by omega
  have i1 : (i : Int) < 1000000000 := by omega
  obtain ⟨b1, hb1⟩ : ∃ b, b = UInt8.ofNat k := ⟨_, rfl⟩
  obtain ⟨b2, hb2⟩ : ∃ b, b = UInt8.ofNat (k / 256) := ⟨_, rfl⟩
  obtain ⟨b3, hb3⟩ : ∃ b, b = UInt8.ofNat (k / 65536) := ⟨_, rfl⟩
  obtain ⟨b4, hb4⟩ : ∃ b, b = UInt8.ofNat i := ⟨_, rfl⟩
  obtain ⟨b5, hb5⟩ : ∃ b, b = UInt8.ofNat (i / 256) := ⟨_, rfl⟩
  obtain ⟨b6, hb6⟩ : ∃ b, b = UInt8.ofNat (i / 65536) := ⟨_, rfl⟩
  have hv : mkT k i = ⟨#[35, b1, b2, b3, 47, b4, b5, b6]⟩ := by subst hb1 hb2 hb3 hb4 hb5 hb6; rfl
  rw [hv]
  have e2 : ((k / 256 : Nat) : Int) = (k : Int) / 256 := by omega
  have e3 : ((k / 65536 : Nat) : Int) = (k : Int) / 65536 := by omega
  have e5 : ((i / 256 : Nat) : Int) = (i : Int) / 256 := by omega
  have e6 : ((i / 65536 : Nat) : Int) = (i : Int) / 65536 := by omega
  rw [e2] at g2
  rw [e3] at g3
  rw [e5] at g5
  rw [e6] at g6
  rw [← hb1] at g1
  rw [← hb2] at g2
  rw [← hb3] at g3
  rw [← hb4] at g4
  rw [← hb5] at g5
  rw [← hb6] at g6
  clear hv hb1 hb2 hb3 hb4 hb5 hb6 e2 e3 e5 e6
  have hcv : (convert 32 9 (.slice (some ⟨w.heap.size, 0, none⟩) 8 8)).run Tryz.prog (w.alloc (.cells #[.int .u8 35, .int .u8 (b1.toNat : Int), .int .u8 (b2.toNat : Int), .int .u8 (b3.toNat : Int), .int .u8 47, .int .u8 (b4.toNat : Int), .int .u8 (b5.toNat : Int), .int .u8 (b6.toNat : Int)] 5)) = .ok (.string ⟨#[35, b1, b2, b3, 47, b4, b5, b6]⟩) (w.alloc (.cells #[.int .u8 35, .int .u8 (b1.toNat : Int), .int .u8 (b2.toNat : Int), .int .u8 (b3.toNat : Int), .int .u8 47, .int .u8 (b4.toNat : Int), .int .u8 (b5.toNat : Int), .int .u8 (b6.toNat : Int)] 5)) := by
    refine run_convert_bytes_back _ _ _ _ ⟨w.heap.size, 0, none⟩ 8 [35, b1, b2, b3, 47, b4, b5, b6] Tryz.underlying32 Tryz.underlying5 Tryz.underlying9 fun j hj => ?_
    match j, hj with
    | 0, _ => simp [go_sem, Addr.add]
    | 1, _ => simp [go_sem, Addr.add]
    | 2, _ => simp [go_sem, Addr.add]
    | 3, _ => simp [go_sem, Addr.add]
    | 4, _ => simp [go_sem, Addr.add]
    | 5, _ => simp [go_sem, Addr.add]
    | 6, _ => simp [go_sem, Addr.add]
    | 7, _ => simp [go_sem, Addr.add]
  go_enter Tryz.func87, Tryz.ntmps87
  go_wp2_with fail
  go_ret
  exact ⟨rfl, (Below.refl _ _).alloc (Nat.le_refl _) _⟩
end Go.Proofs.YtfpjleabmemieaaGreat
