import Derived.Test.YtgncihoioacgjaaGreatDoorNumZd
import Derived.Test.YtgncihoioacgjaaGreatDoorNumW
import Derived.Lib.Bytealg
namespace Go.Proofs.YtgncihoioacgjaaGreatDoor
open Go.Instr Go.RowKit NumF
set_option linter.unusedVariables false
set_option maxHeartbeats 1000000
/-- The number of a text with a point, as strconv.ParseFloat tells it. -/
theorem pfp_of (s : ByteArray) (v : Nat) (w : World) (h : Calls Tryz.prog 95 #[.string s] w fun e w' => e = .returned (.tuple #[.float .f64 v, .int .i64 (s.size : Int), .nilIface]) ∧ Below w.heap.size w w') :
    Calls Tryz.prog 84 #[.string s, .int .i64 64] w fun e w' => e = .returned (.tuple #[.float .f64 v, .int .i64 (s.size : Int), .nilIface]) ∧ Below w.heap.size w w' := by
  have h := Lib.hid h
  go_enter Tryz.func84, Tryz.ntmps84
  go_wp2_with (first | (go_at_call 95; refine h.out.mono ?_; rintro e w' ⟨rfl, hb⟩))
  go_ret3
  exact ⟨rfl, hb⟩
theorem iPF_of (s : ByteArray) (v : Nat) (w : World) (h : Calls Tryz.prog 95 #[.string s] w fun e w' => e = .returned (.tuple #[.float .f64 v, .int .i64 (s.size : Int), .nilIface]) ∧ Below w.heap.size w w') :
    Calls Tryz.prog 63 #[.string s, .int .i64 64] w fun e w' => e = .returned (.tuple #[.float .f64 v, .nilIface]) ∧ Below w.heap.size w w' := by
  have h := Lib.hid (pfp_of s v w h)
  go_enter Tryz.func63, Tryz.ntmps63
  go_wp2_with (first | (go_at_call 84; refine h.out.mono ?_; rintro e w' ⟨rfl, hb⟩))
  go_ret2
  exact ⟨rfl, hb⟩
theorem PF_of (s : ByteArray) (v : Nat) (w : World) (h : Calls Tryz.prog 95 #[.string s] w fun e w' => e = .returned (.tuple #[.float .f64 v, .int .i64 (s.size : Int), .nilIface]) ∧ Below w.heap.size w w') :
    Calls Tryz.prog 44 #[.string s, .int .i64 64] w fun e w' => e = .returned (.tuple #[.float .f64 v, .nilIface]) ∧ Below w.heap.size w w' := by
  have h := Lib.hid (iPF_of s v w h)
  go_enter Tryz.func44, Tryz.ntmps44
  go_wp2_with (first | (go_at_call 63; refine h.out.mono ?_; rintro e w' ⟨rfl, hb⟩))
  go_ret2
  exact ⟨rfl, hb⟩
theorem Tabz.drewN {w : World} {pb po cap : Nat} (h : Tabz w pb po cap) (n : Nat) : Tabz (w.drewN n) pb po cap := ⟨h.base.drewN n, h.hun, h.h1, h.l1, h.h2, h.l2⟩
theorem ReadFloat_of (s A B : ByteArray) (k v : Nat) (hk : firstIdx s 46 = k) (hlt : k < s.size) (hA : s.extract 0 k = A) (hB : s.extract (k + 1) s.size = B) (hsz : s.size ≤ 40) (hAz : A.size ≤ 20) (hBz : B.size ≤ 20)
    (hw : ∀ w, Calls Tryz.prog 39 #[.string A] w fun e w' => e = .returned (.bool true) ∧ w = w') (hd : ∀ w, Calls Tryz.prog 43 #[.string B] w fun e w' => e = .returned (.bool true) ∧ w = w')
    (w : World) (pb po cap : Nat) (ht : Tabz w pb po cap) (hpf : ∀ w, Tabz w pb po cap → Calls Tryz.prog 95 #[.string s] w fun e w' => e = .returned (.tuple #[.float .f64 v, .int .i64 (s.size : Int), .nilIface]) ∧ Below w.heap.size w w') :
    Calls Tryz.prog 22 #[.string s] w fun e w' => e = .returned (.tuple #[.int .u64 (v : Int), .bool true]) ∧ Below w.heap.size w w' := by
  have hb := bits_run v
  have hc := sCut_yes s k hk hlt (by omega) w
  rw [hA, hB] at hc
  have hc := Lib.hid hc
  have hw := Lib.hid hw
  have hd := Lib.hid hd
  have hpf := Lib.hid (fun w h => PF_of s v w (hpf w h))
  have ht := Lib.hid ht
  have q : ¬ ((A.size : Int) + (B.size : Int) > 40) := by omega
  clear hA hB hk hlt hsz
  go_enter Tryz.func22, Tryz.ntmps22
  go_wp2_with (first | (go_at_call 42; refine hc.out.mono ?_; rintro e w' ⟨rfl, n, rfl⟩) | (go_at_call 39; refine (hw.out _).mono ?_; rintro e w' ⟨rfl, rfl⟩) | (go_at_call 43; refine (hd.out _).mono ?_; rintro e w' ⟨rfl, rfl⟩) | (go_at_call 44; refine (hpf.out _ (ht.out.drewN _)).mono ?_; rintro e w1 ⟨rfl, b1⟩))
  go_ret2
  exact ⟨rfl, below_step (below_drewN (Below.refl _ _) n) b1⟩
end Go.Proofs.YtgncihoioacgjaaGreatDoor
