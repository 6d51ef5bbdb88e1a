import Derived.Test.YtgncihoioacgjaaGreatDoorNumK
import Derived.Laws.Externs
namespace Go.Proofs.YtgncihoioacgjaaGreatDoor
open Go.Instr Go.RowKit NumF
set_option linter.unusedVariables false
set_option maxHeartbeats 1000000
theorem ibs_run (s : ByteArray) (w : World) : (callFunc 97 #[.string s, .int .u8 46]).run Tryz.prog w = .ok (.value (.int .i64 (firstIdx s 46))) w := by
  rw [run_callFunc_extern Tryz.func97 (by kernel_rfl) (by kernel_rfl) (by kernel_rfl) (show Extern.find Tryz.f97 = some Extern.BytealgIndexByte.indexByte by kernel_rfl), run_indexByte_string]
  rfl
theorem dot0 : (⟨#[46]⟩ : ByteArray)[0] = 46 := rfl
theorem IndexByte_dot (s : ByteArray) (w : World) : Calls Tryz.prog 90 #[.string s, .int .u8 46] w fun e w' => e = .returned (.int .i64 (firstIdx s 46)) ∧ w = w' := by
  have hr := ibs_run s
  go_enter Tryz.func90, Tryz.ntmps90
  go_wp2
  go_ret
  exact ⟨rfl, rfl⟩
theorem dot_is {s : ByteArray} (h : ([46] == s.toList) = true) : s = ⟨#[46]⟩ := by
  rw [Lib.toList_data] at h
  cases s with | mk d =>
  have := beq_iff_eq.1 h
  simp only at this
  cases d with | mk l => simp only at this; subst this; rfl
theorem firstIdx_dot : firstIdx ⟨#[46]⟩ 46 = 0 := by decide +kernel
set_option maxRecDepth 100000 in
/-- Where the first point is. -/
theorem Index_dot (s : ByteArray) (w : World) : Calls Tryz.prog 83 #[.string s, .string ⟨#[46]⟩] w fun e w' => e = .returned (.int .i64 (firstIdx s 46)) ∧ w = w' := by
  have hd := dot0
  cases hs : ([46] == s.toList)
  · go_enter Tryz.func83, Tryz.ntmps83
    go_wp2_with (first | (go_at_call 90; refine (IndexByte_dot _ _).mono ?_; rintro e w' ⟨rfl, rfl⟩))
    go_ret
    exact ⟨rfl, rfl⟩
  · obtain rfl := dot_is hs
    rw [firstIdx_dot]
    go_enter Tryz.func83, Tryz.ntmps83
    go_wp2
    go_ret
    exact ⟨rfl, rfl⟩
theorem slCut_yes (s : ByteArray) (k : Nat) (hk : firstIdx s 46 = k) (hlt : k < s.size) (hm : s.size ≤ 9223372036854775807) (w : World) :
    Calls Tryz.prog 62 #[.string s, .string ⟨#[46]⟩] w fun e w' => e = .returned (.tuple #[.string (s.extract 0 k), .string (s.extract (k + 1) s.size), .bool true]) ∧ ∃ n, w' = w.drewN n := by
  have hx := Index_dot s w
  rw [hk] at hx
  have hx := Lib.hid hx
  clear hk
  have hk0 : (0 : Int) ≤ (k : Int) := by omega
  have hk1 : (k : Int) ≤ (s.size : Int) := by omega
  have hk2 : (k : Int) + 1 ≤ (s.size : Int) := by omega
  go_enter Tryz.func62, Tryz.ntmps62
  go_wp2_with (first | (go_at_call 83; refine hx.out.mono ?_; rintro e w' ⟨rfl, rfl⟩))
  go_quiet (fail)
  go_wp2
  go_ret3
  exact ⟨rfl, _, rfl⟩
theorem sCut_yes (s : ByteArray) (k : Nat) (hk : firstIdx s 46 = k) (hlt : k < s.size) (hm : s.size ≤ 9223372036854775807) (w : World) :
    Calls Tryz.prog 42 #[.string s, .string ⟨#[46]⟩] w fun e w' => e = .returned (.tuple #[.string (s.extract 0 k), .string (s.extract (k + 1) s.size), .bool true]) ∧ ∃ n, w' = w.drewN n := by
  have hx := Lib.hid (slCut_yes s k hk hlt hm w)
  clear hk
  go_enter Tryz.func42, Tryz.ntmps42
  go_wp2_with (first | (go_at_call 62; refine hx.out.mono ?_; rintro e w' ⟨rfl, n, rfl⟩))
  go_ret3
  exact ⟨rfl, _, rfl⟩
end Go.Proofs.YtgncihoioacgjaaGreatDoor
