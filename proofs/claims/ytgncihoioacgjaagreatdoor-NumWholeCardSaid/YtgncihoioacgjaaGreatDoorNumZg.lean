import Derived.Test.YtgncihoioacgjaaGreatDoorNumZf
namespace Go.Proofs.YtgncihoioacgjaaGreatDoor
open Go.Instr Go.RowKit NumF
set_option linter.unusedVariables false
set_option maxHeartbeats 1000000
theorem exact_no0 (w : World) (d : Nat) (p : Int) (h6 : w.cell? ⟨6, 0, none⟩ = some (.int .u64 52)) (hd : ¬ d < 4503599627370496) (hd2 : d < 18446744073709551616) :
    Calls Tryz.prog 110 #[.int .u64 (d : Int), .int .i64 p, .bool false] w fun e w' => e = .returned (.tuple #[.float .f64 0, .bool false]) ∧ w = w' := exact_no w d p h6 (by omega) hd2
/-- Every text of digits, a point and one or two noughts reads as its number. -/
theorem atof_pos (l : List UInt8) (z n : Nat) (hz : z = 1 ∨ z = 2) (hl : l.length ≤ 16) (hd : ∀ c ∈ l, 48 ≤ c.toNat ∧ c.toNat ≤ 57) (hh : ∃ c r, l = c :: r ∧ 49 ≤ c.toNat) (hv : V10 l = n) (h1 : 1 ≤ n) (h2 : n < 9007199254740992)
    (w : World) (pb po cap : Nat) (ht : Tabz w pb po cap) : Calls Tryz.prog 95 #[.string (txt l z)] w fun e w' => e = .returned (.tuple #[.float .f64 (N n), .int .i64 ((txt l z).size : Int), .nilIface]) ∧ Below w.heap.size w w' := by
  have hx := txt_Txt l z n hz hl hd hh hv h1 h2
  rw [txt_size]
  rcases hz with rfl | rfl
  · by_cases hs : n * 10 < 4503599627370496
    · exact atof_exact _ _ 1 n _ hx (n * 10) (by omega) w ht.base.opt (exact_1 w pb po cap n ht.pw hs)
    · exact atof_scaled _ _ 1 n _ hx (n * 10) (by omega) w ht.base.opt (exact_no0 w (n * 10) _ ht.base.info hs (by omega)) (pf_1 w pb po cap ht (n * 10) n rfl h2 (by omega))
  · by_cases hs : n * 100 < 4503599627370496
    · exact atof_exact _ _ 2 n _ hx (n * 100) (by omega) w ht.base.opt (exact_2 w pb po cap n ht.pw hs)
    · exact atof_scaled _ _ 2 n _ hx (n * 100) (by omega) w ht.base.opt (exact_no0 w (n * 100) _ ht.base.info hs (by omega)) (pf_2 w pb po cap ht (n * 100) n rfl h2 (by omega))
theorem y1_0 : (⟨#[48, 46, 48]⟩ : ByteArray)[0] = 48 := rfl
theorem y1_1 : (⟨#[48, 46, 48]⟩ : ByteArray)[1] = 46 := rfl
theorem y1_2 : (⟨#[48, 46, 48]⟩ : ByteArray)[2] = 48 := rfl
theorem y2_0 : (⟨#[48, 46, 48, 48]⟩ : ByteArray)[0] = 48 := rfl
theorem y2_1 : (⟨#[48, 46, 48, 48]⟩ : ByteArray)[1] = 46 := rfl
theorem y2_2 : (⟨#[48, 46, 48, 48]⟩ : ByteArray)[2] = 48 := rfl
theorem y2_3 : (⟨#[48, 46, 48, 48]⟩ : ByteArray)[3] = 48 := rfl
set_option maxRecDepth 100000 in
theorem readFloat_z1 (w : World) : Calls Tryz.prog 100 #[.string ⟨#[48, 46, 48]⟩] w fun e w' => e = .returned (.tuple #[.int .u64 0, .int .i64 0, .bool false, .bool false, .bool false, .int .i64 3, .bool true]) ∧ w = w' := by
  have b0 := y1_0
  have b1 := y1_1
  have b2 := y1_2
  go_enter Tryz.func100, Tryz.ntmps100
  go_wp2_with (first | (go_at_call 85; refine (lower_46 _).mono ?_; rintro e w' ⟨rfl, rfl⟩))
  go_step3
  go_wp2_with (first | (go_at_call 85; refine (lower_46 _).mono ?_; rintro e w' ⟨rfl, rfl⟩))
  go_step3
  go_wp2_with (first | (go_at_call 85; refine (lower_46 _).mono ?_; rintro e w' ⟨rfl, rfl⟩))
  refine wp_loop_rounds 4 ?_
  rw [rounds_succ]
  go_wp2
  rw [rounds_succ]
  go_wp2
  rw [rounds_succ]
  go_wp2
  rw [rounds_succ]
  go_wp2
  rw [Exit.noGoto_ret]
  exact bodyPost_ret (v := .tuple #[.int .u64 0, .int .i64 0, .bool false, .bool false, .bool false, .int .i64 3, .bool true]) (by simp [results, Tryz.results100, go_sem]) rfl ⟨rfl, rfl⟩
set_option maxRecDepth 100000 in
theorem readFloat_z2 (w : World) : Calls Tryz.prog 100 #[.string ⟨#[48, 46, 48, 48]⟩] w fun e w' => e = .returned (.tuple #[.int .u64 0, .int .i64 0, .bool false, .bool false, .bool false, .int .i64 4, .bool true]) ∧ w = w' := by
  have b0 := y2_0
  have b1 := y2_1
  have b2 := y2_2
  have b3 := y2_3
  go_enter Tryz.func100, Tryz.ntmps100
  go_wp2_with (first | (go_at_call 85; refine (lower_46 _).mono ?_; rintro e w' ⟨rfl, rfl⟩))
  go_step3
  go_wp2_with (first | (go_at_call 85; refine (lower_46 _).mono ?_; rintro e w' ⟨rfl, rfl⟩))
  go_step3
  go_wp2_with (first | (go_at_call 85; refine (lower_46 _).mono ?_; rintro e w' ⟨rfl, rfl⟩))
  refine wp_loop_rounds 5 ?_
  rw [rounds_succ]
  go_wp2
  rw [rounds_succ]
  go_wp2
  rw [rounds_succ]
  go_wp2
  rw [rounds_succ]
  go_wp2
  rw [rounds_succ]
  go_wp2
  rw [Exit.noGoto_ret]
  exact bodyPost_ret (v := .tuple #[.int .u64 0, .int .i64 0, .bool false, .bool false, .bool false, .int .i64 4, .bool true]) (by simp [results, Tryz.results100, go_sem]) rfl ⟨rfl, rfl⟩
set_option maxRecDepth 100000 in
theorem atof_zero (s : ByteArray) (I : Int) (hpos : 0 < s.size) (h48 : s[0] = 48) (hr : ∀ w, Calls Tryz.prog 100 #[.string s] w fun e w' => e = .returned (.tuple #[.int .u64 0, .int .i64 0, .bool false, .bool false, .bool false, .int .i64 I, .bool true]) ∧ w = w')
    (w : World) (h5 : w.cell? ⟨5, 0, none⟩ = some (.bool true)) : Calls Tryz.prog 95 #[.string s] w fun e w' => e = .returned (.tuple #[.float .f64 0, .int .i64 I, .nilIface]) ∧ Below w.heap.size w w' := by
  have hsp := Lib.hid (special_any s hpos (by rw [h48]; decide) (by rw [h48]; decide) w)
  have hr := Lib.hid hr
  have hf : ∀ w, (callFunc 109 #[.int .u64 0]).run Tryz.prog w = .ok (.value (.float .f64 0)) w := ifrombits_run 0
  have ho : bits .or .u64 0 0 = 0 := by decide
  clear h48 hpos
  go_enter Tryz.func95, Tryz.ntmps95
  go_wp2_with (first | (go_at_call 99; refine hsp.out.mono ?_; rintro e w' ⟨rfl, rfl⟩) | (go_at_call 100; refine (hr.out _).mono ?_; rintro e w' ⟨rfl, rfl⟩) | (go_at_call 108; refine (b2u_no _).mono ?_; rintro e w' ⟨rfl, rfl⟩))
  go_ret3
  exact ⟨rfl, Below.refl _ _⟩
end Go.Proofs.YtgncihoioacgjaaGreatDoor
