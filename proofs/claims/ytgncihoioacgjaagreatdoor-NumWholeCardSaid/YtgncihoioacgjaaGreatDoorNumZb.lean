import Derived.Test.YtgncihoioacgjaaGreatDoorNumZa
import Derived.Lib.ItoaNum
namespace Go.Proofs.YtgncihoioacgjaaGreatDoor
open Go.Instr Go.RowKit NumF
set_option linter.unusedVariables false
set_option maxHeartbeats 1000000
theorem len_of (d b : Nat) (h1 : 2 ^ b ≤ d) (h2 : d < 2 ^ (b + 1)) (hb : b < 64) (w : World) : Calls Tryz.prog 116 #[.int .u64 (d : Int)] w fun e w' => e = .returned (.int .i64 ((b + 1 : Nat) : Int)) ∧ w = w' := by
  have h3 : 2 ^ (b + 1) ≤ 2 ^ 64 := Nat.pow_le_pow_right (by omega) (by omega)
  have h4 : d < 2 ^ 64 := by omega
  refine (Tryz.bits_Len64 (d : Int) w (by omega) (by omega)).mono ?_
  rintro e w' ⟨rfl, rfl⟩
  have hd0 : d ≠ 0 := by have := Nat.two_pow_pos b; omega
  obtain ⟨g1, g2, g3⟩ := Lib.bitLenAux_bounds 64 d h4 hd0
  have e1 : Lib.bitLen (d : Int).toNat = b + 1 := by
    rw [Int.toNat_natCast]; unfold Lib.bitLen
    have a1 : b < Lib.bitLenAux 64 d := (Nat.pow_lt_pow_iff_right (a := 2) (by omega)).1 (by omega)
    have a2 : Lib.bitLenAux 64 d - 1 < b + 1 := (Nat.pow_lt_pow_iff_right (a := 2) (by omega)).1 (by omega)
    omega
  rw [e1]; exact ⟨rfl, rfl⟩
theorem pack_mant (V k n : Nat) (h1 : 4503599627370496 ≤ V) (h2 : V < 9007199254740992) (hk : k ≤ 60) (hN : n = (1075 - k) * 4503599627370496 + (V - 4503599627370496)) (w : World) : Calls Tryz.prog 126 #[.int .u64 (V : Int), .int .i64 (-(k : Int))] w fun e w' => e = .returned (.tuple #[.float .f64 n, .nilIface]) ∧ w = w' := by
  obtain ⟨r, rfl⟩ : ∃ r, V = 4503599627370496 + r := ⟨V - 4503599627370496, by omega⟩
  rw [hN, Nat.add_sub_cancel_left]
  exact pack_any r k (by omega) hk w
theorem b2i_no (w : World) : Calls Tryz.prog 120 #[.bool false] w fun e w' => e = .returned (.int .i64 0) ∧ w = w' := b2i_any false w
theorem b2i_yes (w : World) : Calls Tryz.prog 120 #[.bool true] w fun e w' => e = .returned (.int .i64 1) ∧ w = w' := b2i_any true w
theorem pre1_below (w : World) (P Q : Int) : Below w.heap.size w (pre1 w P Q) := (Below.refl _ _).alloc (Nat.le_refl _) _
theorem u64_or0 (V : Nat) (h : V < 18446744073709551616) : bits .or .u64 0 (V : Int) = V := by
  have := u64_or_nat 0 V (by omega) h
  rw [Nat.zero_or] at this; exact this
theorem u64_or4 (V : Nat) (h : V < 4611686018427387904) : bits .or .u64 ((V : Int) * 4) 0 = (V : Int) * 4 := by
  have := u64_or_nat (V * 4) 0 (by omega) (by omega)
  rw [Nat.or_zero] at this
  rw [Int.natCast_mul] at this; exact this
theorem u64_and4 (V : Nat) (h : V < 4611686018427387904) : bits .and .u64 ((V : Int) * 4) 1 = 0 := by
  have := u64_and_nat (V * 4) 1 (by omega) (by omega)
  rw [Nat.and_one_is_mod, show V * 4 % 2 = 0 by omega] at this
  rw [Int.natCast_mul] at this; exact this
set_option maxRecDepth 100000 in
theorem pf_10_53 (w : World) (c0 : w.cell? ⟨10, 694, none⟩ = some (.int .u64 14757395258967641293)) (c1 : w.cell? ⟨10, 695, none⟩ = some (.int .u64 3689348814741910323)) (d a : Nat) (hd : d = a * 10) (ha : a < 9007199254740992) (h1 : 4503599627370496 ≤ d) (h2 : d < 9007199254740992) :
    Calls Tryz.prog 111 #[.int .u64 (d : Int), .int .i64 (-1), .int .u64 0] w fun e w' => e = .returned (.tuple #[.float .f64 (N a), .nilIface]) ∧ Below w.heap.size w w' := by
  have Hlen : Hid (∀ w, Calls Tryz.prog 116 #[.int .u64 (d : Int)] w fun e w' => e = .returned (.int .i64 53) ∧ w = w') := Lib.hid (fun w => len_of d 52 (by omega) (by omega) (by omega) w)
  obtain ⟨V, hV⟩ : ∃ V, V = a * 16 := ⟨_, rfl⟩
  obtain ⟨X, hX⟩ : ∃ X : Int, X = ((V * 1280 : Nat) : Int) := ⟨_, rfl⟩
  have hx : (d : Int) * 2048 = X := by omega
  have bX : 0 ≤ X := by omega
  have cX : X < 18446744073709551616 := by omega
  have hs := Lib.hid (prescale_1 w c0 c1)
  have hu := uscale_10 V (by omega) (by omega) (by omega) w
  rw [← hX] at hu
  have hu := Lib.hid hu
  have p2 := (pre_cells w 14757395258967641293 3689348814741910323).2.2
  have hm : min (1074 : Int) 4 = 4 := by decide
  have qa := u64_and4 V (by omega)
  clear c0 c1 hX
  unfold pre0 at hs
  obtain ⟨n, hn⟩ : ∃ n, n = N a := ⟨_, rfl⟩
  rw [← hn]
  by_cases hlt : V < 9007199254740992
  · have hN0 := mant_lo a 4 (by omega) (by omega)
    rw [← hn] at hN0
    have hW : V = V := rfl
    have hN : n = (1075 - 4) * 4503599627370496 + (V - 4503599627370496) := by rw [hN0, hV]
    have qc : decide ((V : Int) * 4 ≥ 36028797018963966) = false := by simp; omega

    have q5 := u64_or4 V (by omega)
    have q6 := u64_or0 V (by omega)
    have hp : Hid (∀ w, Calls Tryz.prog 126 #[.int .u64 (V : Int), .int .i64 (-4)] w fun e w' => e = .returned (.tuple #[.float .f64 n, .nilIface]) ∧ w = w') := Lib.hid (fun w => pack_mant V 4 n (by omega) (by omega) (by omega) (by omega) w)
    have hr := round_any V (by omega)
    have hr := Lib.hid hr
    clear hN hN0 hn hW hd hV h1 h2
    go_enter Tryz.func111, Tryz.ntmps111
    go_wp2_with fail
    refine (Hlen.out _).mono ?_
    rintro e w' ⟨rfl, rfl⟩
    go_wp2_with fail
    refine (l2_1 _).mono ?_
    rintro e w' ⟨rfl, rfl⟩
    go_wp2_with fail
    refine hs.out.mono ?_
    rintro e w' ⟨⟨v, rfl⟩, rfl⟩
    go_wp2_with fail
    refine hu.out.mono ?_
    rintro e w' ⟨rfl, n, rfl⟩
    go_wp2_with fail
    refine (unmin_53 _).mono ?_
    rintro e w' ⟨rfl, rfl⟩
    go_wp2_with fail
    refine (b2i_no _).mono ?_
    rintro e w' ⟨rfl, rfl⟩
    go_wp2_with fail
    refine (hr.out _).mono ?_
    rintro e w' ⟨rfl, rfl⟩
    go_wp2_with fail
    refine (hp.out _).mono ?_
    rintro e w' ⟨rfl, rfl⟩
    go_wp2_with fail
    go_ret2
    exact ⟨rfl, below_drewN (pre1_below _ _ _) _⟩
  · obtain ⟨W, hW⟩ : ∃ W, W = a * 8 := ⟨_, rfl⟩
    have hN0 := mant_hi a 3 (by omega) (by omega)
    rw [← hn] at hN0
    have hN : n = (1075 - 3) * 4503599627370496 + (W - 4503599627370496) := by rw [hN0, hW]
    have qc : decide ((V : Int) * 4 ≥ 36028797018963966) = true := by simp; omega
    have qs : (V : Int) * 4 / 2 = (W : Int) * 4 := by omega
    have q5 := u64_or4 W (by omega)
    have q6 := u64_or0 W (by omega)
    have hp : Hid (∀ w, Calls Tryz.prog 126 #[.int .u64 (W : Int), .int .i64 (-3)] w fun e w' => e = .returned (.tuple #[.float .f64 n, .nilIface]) ∧ w = w') := Lib.hid (fun w => pack_mant W 3 n (by omega) (by omega) (by omega) (by omega) w)
    have hr := round_any W (by omega)
    have hr := Lib.hid hr
    clear hN hN0 hn hW hd hV h1 h2
    go_enter Tryz.func111, Tryz.ntmps111
    go_wp2_with fail
    refine (Hlen.out _).mono ?_
    rintro e w' ⟨rfl, rfl⟩
    go_wp2_with fail
    refine (l2_1 _).mono ?_
    rintro e w' ⟨rfl, rfl⟩
    go_wp2_with fail
    refine hs.out.mono ?_
    rintro e w' ⟨⟨v, rfl⟩, rfl⟩
    go_wp2_with fail
    refine hu.out.mono ?_
    rintro e w' ⟨rfl, n, rfl⟩
    go_wp2_with fail
    refine (unmin_53 _).mono ?_
    rintro e w' ⟨rfl, rfl⟩
    go_wp2_with fail
    refine (b2i_yes _).mono ?_
    rintro e w' ⟨rfl, rfl⟩
    go_wp2_with fail
    refine (hr.out _).mono ?_
    rintro e w' ⟨rfl, rfl⟩
    go_wp2_with fail
    refine (hp.out _).mono ?_
    rintro e w' ⟨rfl, rfl⟩
    go_wp2_with fail
    go_ret2
    exact ⟨rfl, below_drewN (pre1_below _ _ _) _⟩
set_option maxRecDepth 100000 in
theorem pf_10_54 (w : World) (c0 : w.cell? ⟨10, 694, none⟩ = some (.int .u64 14757395258967641293)) (c1 : w.cell? ⟨10, 695, none⟩ = some (.int .u64 3689348814741910323)) (d a : Nat) (hd : d = a * 10) (ha : a < 9007199254740992) (h1 : 9007199254740992 ≤ d) (h2 : d < 18014398509481984) :
    Calls Tryz.prog 111 #[.int .u64 (d : Int), .int .i64 (-1), .int .u64 0] w fun e w' => e = .returned (.tuple #[.float .f64 (N a), .nilIface]) ∧ Below w.heap.size w w' := by
  have Hlen : Hid (∀ w, Calls Tryz.prog 116 #[.int .u64 (d : Int)] w fun e w' => e = .returned (.int .i64 54) ∧ w = w') := Lib.hid (fun w => len_of d 53 (by omega) (by omega) (by omega) w)
  obtain ⟨V, hV⟩ : ∃ V, V = a * 8 := ⟨_, rfl⟩
  obtain ⟨X, hX⟩ : ∃ X : Int, X = ((V * 1280 : Nat) : Int) := ⟨_, rfl⟩
  have hx : (d : Int) * 1024 = X := by omega
  have bX : 0 ≤ X := by omega
  have cX : X < 18446744073709551616 := by omega
  have hs := Lib.hid (prescale_1 w c0 c1)
  have hu := uscale_10 V (by omega) (by omega) (by omega) w
  rw [← hX] at hu
  have hu := Lib.hid hu
  have p2 := (pre_cells w 14757395258967641293 3689348814741910323).2.2
  have hm : min (1074 : Int) 3 = 3 := by decide
  have qa := u64_and4 V (by omega)
  clear c0 c1 hX
  unfold pre0 at hs
  obtain ⟨n, hn⟩ : ∃ n, n = N a := ⟨_, rfl⟩
  rw [← hn]
  by_cases hlt : V < 9007199254740992
  · have hN0 := mant_lo a 3 (by omega) (by omega)
    rw [← hn] at hN0
    have hW : V = V := rfl
    have hN : n = (1075 - 3) * 4503599627370496 + (V - 4503599627370496) := by rw [hN0, hV]
    have qc : decide ((V : Int) * 4 ≥ 36028797018963966) = false := by simp; omega

    have q5 := u64_or4 V (by omega)
    have q6 := u64_or0 V (by omega)
    have hp : Hid (∀ w, Calls Tryz.prog 126 #[.int .u64 (V : Int), .int .i64 (-3)] w fun e w' => e = .returned (.tuple #[.float .f64 n, .nilIface]) ∧ w = w') := Lib.hid (fun w => pack_mant V 3 n (by omega) (by omega) (by omega) (by omega) w)
    have hr := round_any V (by omega)
    have hr := Lib.hid hr
    clear hN hN0 hn hW hd hV h1 h2
    go_enter Tryz.func111, Tryz.ntmps111
    go_wp2_with fail
    refine (Hlen.out _).mono ?_
    rintro e w' ⟨rfl, rfl⟩
    go_wp2_with fail
    refine (l2_1 _).mono ?_
    rintro e w' ⟨rfl, rfl⟩
    go_wp2_with fail
    refine hs.out.mono ?_
    rintro e w' ⟨⟨v, rfl⟩, rfl⟩
    go_wp2_with fail
    refine hu.out.mono ?_
    rintro e w' ⟨rfl, n, rfl⟩
    go_wp2_with fail
    refine (unmin_53 _).mono ?_
    rintro e w' ⟨rfl, rfl⟩
    go_wp2_with fail
    refine (b2i_no _).mono ?_
    rintro e w' ⟨rfl, rfl⟩
    go_wp2_with fail
    refine (hr.out _).mono ?_
    rintro e w' ⟨rfl, rfl⟩
    go_wp2_with fail
    refine (hp.out _).mono ?_
    rintro e w' ⟨rfl, rfl⟩
    go_wp2_with fail
    go_ret2
    exact ⟨rfl, below_drewN (pre1_below _ _ _) _⟩
  · obtain ⟨W, hW⟩ : ∃ W, W = a * 4 := ⟨_, rfl⟩
    have hN0 := mant_hi a 2 (by omega) (by omega)
    rw [← hn] at hN0
    have hN : n = (1075 - 2) * 4503599627370496 + (W - 4503599627370496) := by rw [hN0, hW]
    have qc : decide ((V : Int) * 4 ≥ 36028797018963966) = true := by simp; omega
    have qs : (V : Int) * 4 / 2 = (W : Int) * 4 := by omega
    have q5 := u64_or4 W (by omega)
    have q6 := u64_or0 W (by omega)
    have hp : Hid (∀ w, Calls Tryz.prog 126 #[.int .u64 (W : Int), .int .i64 (-2)] w fun e w' => e = .returned (.tuple #[.float .f64 n, .nilIface]) ∧ w = w') := Lib.hid (fun w => pack_mant W 2 n (by omega) (by omega) (by omega) (by omega) w)
    have hr := round_any W (by omega)
    have hr := Lib.hid hr
    clear hN hN0 hn hW hd hV h1 h2
    go_enter Tryz.func111, Tryz.ntmps111
    go_wp2_with fail
    refine (Hlen.out _).mono ?_
    rintro e w' ⟨rfl, rfl⟩
    go_wp2_with fail
    refine (l2_1 _).mono ?_
    rintro e w' ⟨rfl, rfl⟩
    go_wp2_with fail
    refine hs.out.mono ?_
    rintro e w' ⟨⟨v, rfl⟩, rfl⟩
    go_wp2_with fail
    refine hu.out.mono ?_
    rintro e w' ⟨rfl, n, rfl⟩
    go_wp2_with fail
    refine (unmin_53 _).mono ?_
    rintro e w' ⟨rfl, rfl⟩
    go_wp2_with fail
    refine (b2i_yes _).mono ?_
    rintro e w' ⟨rfl, rfl⟩
    go_wp2_with fail
    refine (hr.out _).mono ?_
    rintro e w' ⟨rfl, rfl⟩
    go_wp2_with fail
    refine (hp.out _).mono ?_
    rintro e w' ⟨rfl, rfl⟩
    go_wp2_with fail
    go_ret2
    exact ⟨rfl, below_drewN (pre1_below _ _ _) _⟩
set_option maxRecDepth 100000 in
theorem pf_10_55 (w : World) (c0 : w.cell? ⟨10, 694, none⟩ = some (.int .u64 14757395258967641293)) (c1 : w.cell? ⟨10, 695, none⟩ = some (.int .u64 3689348814741910323)) (d a : Nat) (hd : d = a * 10) (ha : a < 9007199254740992) (h1 : 18014398509481984 ≤ d) (h2 : d < 36028797018963968) :
    Calls Tryz.prog 111 #[.int .u64 (d : Int), .int .i64 (-1), .int .u64 0] w fun e w' => e = .returned (.tuple #[.float .f64 (N a), .nilIface]) ∧ Below w.heap.size w w' := by
  have Hlen : Hid (∀ w, Calls Tryz.prog 116 #[.int .u64 (d : Int)] w fun e w' => e = .returned (.int .i64 55) ∧ w = w') := Lib.hid (fun w => len_of d 54 (by omega) (by omega) (by omega) w)
  obtain ⟨V, hV⟩ : ∃ V, V = a * 4 := ⟨_, rfl⟩
  obtain ⟨X, hX⟩ : ∃ X : Int, X = ((V * 1280 : Nat) : Int) := ⟨_, rfl⟩
  have hx : (d : Int) * 512 = X := by omega
  have bX : 0 ≤ X := by omega
  have cX : X < 18446744073709551616 := by omega
  have hs := Lib.hid (prescale_1 w c0 c1)
  have hu := uscale_10 V (by omega) (by omega) (by omega) w
  rw [← hX] at hu
  have hu := Lib.hid hu
  have p2 := (pre_cells w 14757395258967641293 3689348814741910323).2.2
  have hm : min (1074 : Int) 2 = 2 := by decide
  have qa := u64_and4 V (by omega)
  clear c0 c1 hX
  unfold pre0 at hs
  obtain ⟨n, hn⟩ : ∃ n, n = N a := ⟨_, rfl⟩
  rw [← hn]
  by_cases hlt : V < 9007199254740992
  · have hN0 := mant_lo a 2 (by omega) (by omega)
    rw [← hn] at hN0
    have hW : V = V := rfl
    have hN : n = (1075 - 2) * 4503599627370496 + (V - 4503599627370496) := by rw [hN0, hV]
    have qc : decide ((V : Int) * 4 ≥ 36028797018963966) = false := by simp; omega

    have q5 := u64_or4 V (by omega)
    have q6 := u64_or0 V (by omega)
    have hp : Hid (∀ w, Calls Tryz.prog 126 #[.int .u64 (V : Int), .int .i64 (-2)] w fun e w' => e = .returned (.tuple #[.float .f64 n, .nilIface]) ∧ w = w') := Lib.hid (fun w => pack_mant V 2 n (by omega) (by omega) (by omega) (by omega) w)
    have hr := round_any V (by omega)
    have hr := Lib.hid hr
    clear hN hN0 hn hW hd hV h1 h2
    go_enter Tryz.func111, Tryz.ntmps111
    go_wp2_with fail
    refine (Hlen.out _).mono ?_
    rintro e w' ⟨rfl, rfl⟩
    go_wp2_with fail
    refine (l2_1 _).mono ?_
    rintro e w' ⟨rfl, rfl⟩
    go_wp2_with fail
    refine hs.out.mono ?_
    rintro e w' ⟨⟨v, rfl⟩, rfl⟩
    go_wp2_with fail
    refine hu.out.mono ?_
    rintro e w' ⟨rfl, n, rfl⟩
    go_wp2_with fail
    refine (unmin_53 _).mono ?_
    rintro e w' ⟨rfl, rfl⟩
    go_wp2_with fail
    refine (b2i_no _).mono ?_
    rintro e w' ⟨rfl, rfl⟩
    go_wp2_with fail
    refine (hr.out _).mono ?_
    rintro e w' ⟨rfl, rfl⟩
    go_wp2_with fail
    refine (hp.out _).mono ?_
    rintro e w' ⟨rfl, rfl⟩
    go_wp2_with fail
    go_ret2
    exact ⟨rfl, below_drewN (pre1_below _ _ _) _⟩
  · obtain ⟨W, hW⟩ : ∃ W, W = a * 2 := ⟨_, rfl⟩
    have hN0 := mant_hi a 1 (by omega) (by omega)
    rw [← hn] at hN0
    have hN : n = (1075 - 1) * 4503599627370496 + (W - 4503599627370496) := by rw [hN0, hW]
    have qc : decide ((V : Int) * 4 ≥ 36028797018963966) = true := by simp; omega
    have qs : (V : Int) * 4 / 2 = (W : Int) * 4 := by omega
    have q5 := u64_or4 W (by omega)
    have q6 := u64_or0 W (by omega)
    have hp : Hid (∀ w, Calls Tryz.prog 126 #[.int .u64 (W : Int), .int .i64 (-1)] w fun e w' => e = .returned (.tuple #[.float .f64 n, .nilIface]) ∧ w = w') := Lib.hid (fun w => pack_mant W 1 n (by omega) (by omega) (by omega) (by omega) w)
    have hr := round_any W (by omega)
    have hr := Lib.hid hr
    clear hN hN0 hn hW hd hV h1 h2
    go_enter Tryz.func111, Tryz.ntmps111
    go_wp2_with fail
    refine (Hlen.out _).mono ?_
    rintro e w' ⟨rfl, rfl⟩
    go_wp2_with fail
    refine (l2_1 _).mono ?_
    rintro e w' ⟨rfl, rfl⟩
    go_wp2_with fail
    refine hs.out.mono ?_
    rintro e w' ⟨⟨v, rfl⟩, rfl⟩
    go_wp2_with fail
    refine hu.out.mono ?_
    rintro e w' ⟨rfl, n, rfl⟩
    go_wp2_with fail
    refine (unmin_53 _).mono ?_
    rintro e w' ⟨rfl, rfl⟩
    go_wp2_with fail
    refine (b2i_yes _).mono ?_
    rintro e w' ⟨rfl, rfl⟩
    go_wp2_with fail
    refine (hr.out _).mono ?_
    rintro e w' ⟨rfl, rfl⟩
    go_wp2_with fail
    refine (hp.out _).mono ?_
    rintro e w' ⟨rfl, rfl⟩
    go_wp2_with fail
    go_ret2
    exact ⟨rfl, below_drewN (pre1_below _ _ _) _⟩
set_option maxRecDepth 100000 in
theorem pf_10_56 (w : World) (c0 : w.cell? ⟨10, 694, none⟩ = some (.int .u64 14757395258967641293)) (c1 : w.cell? ⟨10, 695, none⟩ = some (.int .u64 3689348814741910323)) (d a : Nat) (hd : d = a * 10) (ha : a < 9007199254740992) (h1 : 36028797018963968 ≤ d) (h2 : d < 72057594037927936) :
    Calls Tryz.prog 111 #[.int .u64 (d : Int), .int .i64 (-1), .int .u64 0] w fun e w' => e = .returned (.tuple #[.float .f64 (N a), .nilIface]) ∧ Below w.heap.size w w' := by
  have Hlen : Hid (∀ w, Calls Tryz.prog 116 #[.int .u64 (d : Int)] w fun e w' => e = .returned (.int .i64 56) ∧ w = w') := Lib.hid (fun w => len_of d 55 (by omega) (by omega) (by omega) w)
  obtain ⟨V, hV⟩ : ∃ V, V = a * 2 := ⟨_, rfl⟩
  obtain ⟨X, hX⟩ : ∃ X : Int, X = ((V * 1280 : Nat) : Int) := ⟨_, rfl⟩
  have hx : (d : Int) * 256 = X := by omega
  have bX : 0 ≤ X := by omega
  have cX : X < 18446744073709551616 := by omega
  have hs := Lib.hid (prescale_1 w c0 c1)
  have hu := uscale_10 V (by omega) (by omega) (by omega) w
  rw [← hX] at hu
  have hu := Lib.hid hu
  have p2 := (pre_cells w 14757395258967641293 3689348814741910323).2.2
  have hm : min (1074 : Int) 1 = 1 := by decide
  have qa := u64_and4 V (by omega)
  clear c0 c1 hX
  unfold pre0 at hs
  obtain ⟨n, hn⟩ : ∃ n, n = N a := ⟨_, rfl⟩
  rw [← hn]
  by_cases hlt : V < 9007199254740992
  · have hN0 := mant_lo a 1 (by omega) (by omega)
    rw [← hn] at hN0
    have hW : V = V := rfl
    have hN : n = (1075 - 1) * 4503599627370496 + (V - 4503599627370496) := by rw [hN0, hV]
    have qc : decide ((V : Int) * 4 ≥ 36028797018963966) = false := by simp; omega

    have q5 := u64_or4 V (by omega)
    have q6 := u64_or0 V (by omega)
    have hp : Hid (∀ w, Calls Tryz.prog 126 #[.int .u64 (V : Int), .int .i64 (-1)] w fun e w' => e = .returned (.tuple #[.float .f64 n, .nilIface]) ∧ w = w') := Lib.hid (fun w => pack_mant V 1 n (by omega) (by omega) (by omega) (by omega) w)
    have hr := round_any V (by omega)
    have hr := Lib.hid hr
    clear hN hN0 hn hW hd hV h1 h2
    go_enter Tryz.func111, Tryz.ntmps111
    go_wp2_with fail
    refine (Hlen.out _).mono ?_
    rintro e w' ⟨rfl, rfl⟩
    go_wp2_with fail
    refine (l2_1 _).mono ?_
    rintro e w' ⟨rfl, rfl⟩
    go_wp2_with fail
    refine hs.out.mono ?_
    rintro e w' ⟨⟨v, rfl⟩, rfl⟩
    go_wp2_with fail
    refine hu.out.mono ?_
    rintro e w' ⟨rfl, n, rfl⟩
    go_wp2_with fail
    refine (unmin_53 _).mono ?_
    rintro e w' ⟨rfl, rfl⟩
    go_wp2_with fail
    refine (b2i_no _).mono ?_
    rintro e w' ⟨rfl, rfl⟩
    go_wp2_with fail
    refine (hr.out _).mono ?_
    rintro e w' ⟨rfl, rfl⟩
    go_wp2_with fail
    refine (hp.out _).mono ?_
    rintro e w' ⟨rfl, rfl⟩
    go_wp2_with fail
    go_ret2
    exact ⟨rfl, below_drewN (pre1_below _ _ _) _⟩
  · obtain ⟨W, hW⟩ : ∃ W, W = a * 1 := ⟨_, rfl⟩
    have hN0 := mant_hi a 0 (by omega) (by omega)
    rw [← hn] at hN0
    have hN : n = (1075 - 0) * 4503599627370496 + (W - 4503599627370496) := by rw [hN0, hW]
    have qc : decide ((V : Int) * 4 ≥ 36028797018963966) = true := by simp; omega
    have qs : (V : Int) * 4 / 2 = (W : Int) * 4 := by omega
    have q5 := u64_or4 W (by omega)
    have q6 := u64_or0 W (by omega)
    have hp : Hid (∀ w, Calls Tryz.prog 126 #[.int .u64 (W : Int), .int .i64 (0)] w fun e w' => e = .returned (.tuple #[.float .f64 n, .nilIface]) ∧ w = w') := Lib.hid (fun w => pack_mant W 0 n (by omega) (by omega) (by omega) (by omega) w)
    have hr := round_any W (by omega)
    have hr := Lib.hid hr
    clear hN hN0 hn hW hd hV h1 h2
    go_enter Tryz.func111, Tryz.ntmps111
    go_wp2_with fail
    refine (Hlen.out _).mono ?_
    rintro e w' ⟨rfl, rfl⟩
    go_wp2_with fail
    refine (l2_1 _).mono ?_
    rintro e w' ⟨rfl, rfl⟩
    go_wp2_with fail
    refine hs.out.mono ?_
    rintro e w' ⟨⟨v, rfl⟩, rfl⟩
    go_wp2_with fail
    refine hu.out.mono ?_
    rintro e w' ⟨rfl, n, rfl⟩
    go_wp2_with fail
    refine (unmin_53 _).mono ?_
    rintro e w' ⟨rfl, rfl⟩
    go_wp2_with fail
    refine (b2i_yes _).mono ?_
    rintro e w' ⟨rfl, rfl⟩
    go_wp2_with fail
    refine (hr.out _).mono ?_
    rintro e w' ⟨rfl, rfl⟩
    go_wp2_with fail
    refine (hp.out _).mono ?_
    rintro e w' ⟨rfl, rfl⟩
    go_wp2_with fail
    go_ret2
    exact ⟨rfl, below_drewN (pre1_below _ _ _) _⟩
set_option maxRecDepth 100000 in
theorem pf_10_57 (w : World) (c0 : w.cell? ⟨10, 694, none⟩ = some (.int .u64 14757395258967641293)) (c1 : w.cell? ⟨10, 695, none⟩ = some (.int .u64 3689348814741910323)) (d a : Nat) (hd : d = a * 10) (ha : a < 9007199254740992) (h1 : 72057594037927936 ≤ d) (h2 : d < 144115188075855872) :
    Calls Tryz.prog 111 #[.int .u64 (d : Int), .int .i64 (-1), .int .u64 0] w fun e w' => e = .returned (.tuple #[.float .f64 (N a), .nilIface]) ∧ Below w.heap.size w w' := by
  have Hlen : Hid (∀ w, Calls Tryz.prog 116 #[.int .u64 (d : Int)] w fun e w' => e = .returned (.int .i64 57) ∧ w = w') := Lib.hid (fun w => len_of d 56 (by omega) (by omega) (by omega) w)
  obtain ⟨V, hV⟩ : ∃ V, V = a * 1 := ⟨_, rfl⟩
  obtain ⟨X, hX⟩ : ∃ X : Int, X = ((V * 1280 : Nat) : Int) := ⟨_, rfl⟩
  have hx : (d : Int) * 128 = X := by omega
  have bX : 0 ≤ X := by omega
  have cX : X < 18446744073709551616 := by omega
  have hs := Lib.hid (prescale_1 w c0 c1)
  have hu := uscale_10 V (by omega) (by omega) (by omega) w
  rw [← hX] at hu
  have hu := Lib.hid hu
  have p2 := (pre_cells w 14757395258967641293 3689348814741910323).2.2
  have hm : min (1074 : Int) 0 = 0 := by decide
  have qa := u64_and4 V (by omega)
  clear c0 c1 hX
  unfold pre0 at hs
  obtain ⟨n, hn⟩ : ∃ n, n = N a := ⟨_, rfl⟩
  rw [← hn]
  by_cases hlt : V < 9007199254740992
  · have hN0 := mant_lo a 0 (by omega) (by omega)
    rw [← hn] at hN0
    have hW : V = V := rfl
    have hN : n = (1075 - 0) * 4503599627370496 + (V - 4503599627370496) := by rw [hN0, hV]
    have qc : decide ((V : Int) * 4 ≥ 36028797018963966) = false := by simp; omega

    have q5 := u64_or4 V (by omega)
    have q6 := u64_or0 V (by omega)
    have hp : Hid (∀ w, Calls Tryz.prog 126 #[.int .u64 (V : Int), .int .i64 (0)] w fun e w' => e = .returned (.tuple #[.float .f64 n, .nilIface]) ∧ w = w') := Lib.hid (fun w => pack_mant V 0 n (by omega) (by omega) (by omega) (by omega) w)
    have hr := round_any V (by omega)
    have hr := Lib.hid hr
    clear hN hN0 hn hW hd hV h1 h2
    go_enter Tryz.func111, Tryz.ntmps111
    go_wp2_with fail
    refine (Hlen.out _).mono ?_
    rintro e w' ⟨rfl, rfl⟩
    go_wp2_with fail
    refine (l2_1 _).mono ?_
    rintro e w' ⟨rfl, rfl⟩
    go_wp2_with fail
    refine hs.out.mono ?_
    rintro e w' ⟨⟨v, rfl⟩, rfl⟩
    go_wp2_with fail
    refine hu.out.mono ?_
    rintro e w' ⟨rfl, n, rfl⟩
    go_wp2_with fail
    refine (unmin_53 _).mono ?_
    rintro e w' ⟨rfl, rfl⟩
    go_wp2_with fail
    refine (b2i_no _).mono ?_
    rintro e w' ⟨rfl, rfl⟩
    go_wp2_with fail
    refine (hr.out _).mono ?_
    rintro e w' ⟨rfl, rfl⟩
    go_wp2_with fail
    refine (hp.out _).mono ?_
    rintro e w' ⟨rfl, rfl⟩
    go_wp2_with fail
    go_ret2
    exact ⟨rfl, below_drewN (pre1_below _ _ _) _⟩
  · omega
set_option maxRecDepth 100000 in
theorem pf_100_53 (w : World) (c0 : w.cell? ⟨10, 692, none⟩ = some (.int .u64 11805916207174113035)) (c1 : w.cell? ⟨10, 693, none⟩ = some (.int .u64 14019525496019259228)) (d a : Nat) (hd : d = a * 100) (ha : a < 9007199254740992) (h1 : 4503599627370496 ≤ d) (h2 : d < 9007199254740992) :
    Calls Tryz.prog 111 #[.int .u64 (d : Int), .int .i64 (-2), .int .u64 0] w fun e w' => e = .returned (.tuple #[.float .f64 (N a), .nilIface]) ∧ Below w.heap.size w w' := by
  have Hlen : Hid (∀ w, Calls Tryz.prog 116 #[.int .u64 (d : Int)] w fun e w' => e = .returned (.int .i64 53) ∧ w = w') := Lib.hid (fun w => len_of d 52 (by omega) (by omega) (by omega) w)
  obtain ⟨V, hV⟩ : ∃ V, V = a * 128 := ⟨_, rfl⟩
  obtain ⟨X, hX⟩ : ∃ X : Int, X = ((V * 1600 : Nat) : Int) := ⟨_, rfl⟩
  have hx : (d : Int) * 2048 = X := by omega
  have bX : 0 ≤ X := by omega
  have cX : X < 18446744073709551616 := by omega
  have hs := Lib.hid (prescale_2 w c0 c1)
  have hu := uscale_100 V (by omega) (by omega) (by omega) w
  rw [← hX] at hu
  have hu := Lib.hid hu
  have p2 := (pre_cells w 11805916207174113035 14019525496019259228).2.2
  have hm : min (1074 : Int) 7 = 7 := by decide
  have qa := u64_and4 V (by omega)
  clear c0 c1 hX
  unfold pre0 at hs
  obtain ⟨n, hn⟩ : ∃ n, n = N a := ⟨_, rfl⟩
  rw [← hn]
  by_cases hlt : V < 9007199254740992
  · have hN0 := mant_lo a 7 (by omega) (by omega)
    rw [← hn] at hN0
    have hW : V = V := rfl
    have hN : n = (1075 - 7) * 4503599627370496 + (V - 4503599627370496) := by rw [hN0, hV]
    have qc : decide ((V : Int) * 4 ≥ 36028797018963966) = false := by simp; omega

    have q5 := u64_or4 V (by omega)
    have q6 := u64_or0 V (by omega)
    have hp : Hid (∀ w, Calls Tryz.prog 126 #[.int .u64 (V : Int), .int .i64 (-7)] w fun e w' => e = .returned (.tuple #[.float .f64 n, .nilIface]) ∧ w = w') := Lib.hid (fun w => pack_mant V 7 n (by omega) (by omega) (by omega) (by omega) w)
    have hr := round_any V (by omega)
    have hr := Lib.hid hr
    clear hN hN0 hn hW hd hV h1 h2
    go_enter Tryz.func111, Tryz.ntmps111
    go_wp2_with fail
    refine (Hlen.out _).mono ?_
    rintro e w' ⟨rfl, rfl⟩
    go_wp2_with fail
    refine (l2_2 _).mono ?_
    rintro e w' ⟨rfl, rfl⟩
    go_wp2_with fail
    refine hs.out.mono ?_
    rintro e w' ⟨⟨v, rfl⟩, rfl⟩
    go_wp2_with fail
    refine hu.out.mono ?_
    rintro e w' ⟨rfl, n, rfl⟩
    go_wp2_with fail
    refine (unmin_53 _).mono ?_
    rintro e w' ⟨rfl, rfl⟩
    go_wp2_with fail
    refine (b2i_no _).mono ?_
    rintro e w' ⟨rfl, rfl⟩
    go_wp2_with fail
    refine (hr.out _).mono ?_
    rintro e w' ⟨rfl, rfl⟩
    go_wp2_with fail
    refine (hp.out _).mono ?_
    rintro e w' ⟨rfl, rfl⟩
    go_wp2_with fail
    go_ret2
    exact ⟨rfl, below_drewN (pre1_below _ _ _) _⟩
  · obtain ⟨W, hW⟩ : ∃ W, W = a * 64 := ⟨_, rfl⟩
    have hN0 := mant_hi a 6 (by omega) (by omega)
    rw [← hn] at hN0
    have hN : n = (1075 - 6) * 4503599627370496 + (W - 4503599627370496) := by rw [hN0, hW]
    have qc : decide ((V : Int) * 4 ≥ 36028797018963966) = true := by simp; omega
    have qs : (V : Int) * 4 / 2 = (W : Int) * 4 := by omega
    have q5 := u64_or4 W (by omega)
    have q6 := u64_or0 W (by omega)
    have hp : Hid (∀ w, Calls Tryz.prog 126 #[.int .u64 (W : Int), .int .i64 (-6)] w fun e w' => e = .returned (.tuple #[.float .f64 n, .nilIface]) ∧ w = w') := Lib.hid (fun w => pack_mant W 6 n (by omega) (by omega) (by omega) (by omega) w)
    have hr := round_any W (by omega)
    have hr := Lib.hid hr
    clear hN hN0 hn hW hd hV h1 h2
    go_enter Tryz.func111, Tryz.ntmps111
    go_wp2_with fail
    refine (Hlen.out _).mono ?_
    rintro e w' ⟨rfl, rfl⟩
    go_wp2_with fail
    refine (l2_2 _).mono ?_
    rintro e w' ⟨rfl, rfl⟩
    go_wp2_with fail
    refine hs.out.mono ?_
    rintro e w' ⟨⟨v, rfl⟩, rfl⟩
    go_wp2_with fail
    refine hu.out.mono ?_
    rintro e w' ⟨rfl, n, rfl⟩
    go_wp2_with fail
    refine (unmin_53 _).mono ?_
    rintro e w' ⟨rfl, rfl⟩
    go_wp2_with fail
    refine (b2i_yes _).mono ?_
    rintro e w' ⟨rfl, rfl⟩
    go_wp2_with fail
    refine (hr.out _).mono ?_
    rintro e w' ⟨rfl, rfl⟩
    go_wp2_with fail
    refine (hp.out _).mono ?_
    rintro e w' ⟨rfl, rfl⟩
    go_wp2_with fail
    go_ret2
    exact ⟨rfl, below_drewN (pre1_below _ _ _) _⟩
set_option maxRecDepth 100000 in
theorem pf_100_54 (w : World) (c0 : w.cell? ⟨10, 692, none⟩ = some (.int .u64 11805916207174113035)) (c1 : w.cell? ⟨10, 693, none⟩ = some (.int .u64 14019525496019259228)) (d a : Nat) (hd : d = a * 100) (ha : a < 9007199254740992) (h1 : 9007199254740992 ≤ d) (h2 : d < 18014398509481984) :
    Calls Tryz.prog 111 #[.int .u64 (d : Int), .int .i64 (-2), .int .u64 0] w fun e w' => e = .returned (.tuple #[.float .f64 (N a), .nilIface]) ∧ Below w.heap.size w w' := by
  have Hlen : Hid (∀ w, Calls Tryz.prog 116 #[.int .u64 (d : Int)] w fun e w' => e = .returned (.int .i64 54) ∧ w = w') := Lib.hid (fun w => len_of d 53 (by omega) (by omega) (by omega) w)
  obtain ⟨V, hV⟩ : ∃ V, V = a * 64 := ⟨_, rfl⟩
  obtain ⟨X, hX⟩ : ∃ X : Int, X = ((V * 1600 : Nat) : Int) := ⟨_, rfl⟩
  have hx : (d : Int) * 1024 = X := by omega
  have bX : 0 ≤ X := by omega
  have cX : X < 18446744073709551616 := by omega
  have hs := Lib.hid (prescale_2 w c0 c1)
  have hu := uscale_100 V (by omega) (by omega) (by omega) w
  rw [← hX] at hu
  have hu := Lib.hid hu
  have p2 := (pre_cells w 11805916207174113035 14019525496019259228).2.2
  have hm : min (1074 : Int) 6 = 6 := by decide
  have qa := u64_and4 V (by omega)
  clear c0 c1 hX
  unfold pre0 at hs
  obtain ⟨n, hn⟩ : ∃ n, n = N a := ⟨_, rfl⟩
  rw [← hn]
  by_cases hlt : V < 9007199254740992
  · have hN0 := mant_lo a 6 (by omega) (by omega)
    rw [← hn] at hN0
    have hW : V = V := rfl
    have hN : n = (1075 - 6) * 4503599627370496 + (V - 4503599627370496) := by rw [hN0, hV]
    have qc : decide ((V : Int) * 4 ≥ 36028797018963966) = false := by simp; omega

    have q5 := u64_or4 V (by omega)
    have q6 := u64_or0 V (by omega)
    have hp : Hid (∀ w, Calls Tryz.prog 126 #[.int .u64 (V : Int), .int .i64 (-6)] w fun e w' => e = .returned (.tuple #[.float .f64 n, .nilIface]) ∧ w = w') := Lib.hid (fun w => pack_mant V 6 n (by omega) (by omega) (by omega) (by omega) w)
    have hr := round_any V (by omega)
    have hr := Lib.hid hr
    clear hN hN0 hn hW hd hV h1 h2
    go_enter Tryz.func111, Tryz.ntmps111
    go_wp2_with fail
    refine (Hlen.out _).mono ?_
    rintro e w' ⟨rfl, rfl⟩
    go_wp2_with fail
    refine (l2_2 _).mono ?_
    rintro e w' ⟨rfl, rfl⟩
    go_wp2_with fail
    refine hs.out.mono ?_
    rintro e w' ⟨⟨v, rfl⟩, rfl⟩
    go_wp2_with fail
    refine hu.out.mono ?_
    rintro e w' ⟨rfl, n, rfl⟩
    go_wp2_with fail
    refine (unmin_53 _).mono ?_
    rintro e w' ⟨rfl, rfl⟩
    go_wp2_with fail
    refine (b2i_no _).mono ?_
    rintro e w' ⟨rfl, rfl⟩
    go_wp2_with fail
    refine (hr.out _).mono ?_
    rintro e w' ⟨rfl, rfl⟩
    go_wp2_with fail
    refine (hp.out _).mono ?_
    rintro e w' ⟨rfl, rfl⟩
    go_wp2_with fail
    go_ret2
    exact ⟨rfl, below_drewN (pre1_below _ _ _) _⟩
  · obtain ⟨W, hW⟩ : ∃ W, W = a * 32 := ⟨_, rfl⟩
    have hN0 := mant_hi a 5 (by omega) (by omega)
    rw [← hn] at hN0
    have hN : n = (1075 - 5) * 4503599627370496 + (W - 4503599627370496) := by rw [hN0, hW]
    have qc : decide ((V : Int) * 4 ≥ 36028797018963966) = true := by simp; omega
    have qs : (V : Int) * 4 / 2 = (W : Int) * 4 := by omega
    have q5 := u64_or4 W (by omega)
    have q6 := u64_or0 W (by omega)
    have hp : Hid (∀ w, Calls Tryz.prog 126 #[.int .u64 (W : Int), .int .i64 (-5)] w fun e w' => e = .returned (.tuple #[.float .f64 n, .nilIface]) ∧ w = w') := Lib.hid (fun w => pack_mant W 5 n (by omega) (by omega) (by omega) (by omega) w)
    have hr := round_any W (by omega)
    have hr := Lib.hid hr
    clear hN hN0 hn hW hd hV h1 h2
    go_enter Tryz.func111, Tryz.ntmps111
    go_wp2_with fail
    refine (Hlen.out _).mono ?_
    rintro e w' ⟨rfl, rfl⟩
    go_wp2_with fail
    refine (l2_2 _).mono ?_
    rintro e w' ⟨rfl, rfl⟩
    go_wp2_with fail
    refine hs.out.mono ?_
    rintro e w' ⟨⟨v, rfl⟩, rfl⟩
    go_wp2_with fail
    refine hu.out.mono ?_
    rintro e w' ⟨rfl, n, rfl⟩
    go_wp2_with fail
    refine (unmin_53 _).mono ?_
    rintro e w' ⟨rfl, rfl⟩
    go_wp2_with fail
    refine (b2i_yes _).mono ?_
    rintro e w' ⟨rfl, rfl⟩
    go_wp2_with fail
    refine (hr.out _).mono ?_
    rintro e w' ⟨rfl, rfl⟩
    go_wp2_with fail
    refine (hp.out _).mono ?_
    rintro e w' ⟨rfl, rfl⟩
    go_wp2_with fail
    go_ret2
    exact ⟨rfl, below_drewN (pre1_below _ _ _) _⟩
set_option maxRecDepth 100000 in
theorem pf_100_55 (w : World) (c0 : w.cell? ⟨10, 692, none⟩ = some (.int .u64 11805916207174113035)) (c1 : w.cell? ⟨10, 693, none⟩ = some (.int .u64 14019525496019259228)) (d a : Nat) (hd : d = a * 100) (ha : a < 9007199254740992) (h1 : 18014398509481984 ≤ d) (h2 : d < 36028797018963968) :
    Calls Tryz.prog 111 #[.int .u64 (d : Int), .int .i64 (-2), .int .u64 0] w fun e w' => e = .returned (.tuple #[.float .f64 (N a), .nilIface]) ∧ Below w.heap.size w w' := by
  have Hlen : Hid (∀ w, Calls Tryz.prog 116 #[.int .u64 (d : Int)] w fun e w' => e = .returned (.int .i64 55) ∧ w = w') := Lib.hid (fun w => len_of d 54 (by omega) (by omega) (by omega) w)
  obtain ⟨V, hV⟩ : ∃ V, V = a * 32 := ⟨_, rfl⟩
  obtain ⟨X, hX⟩ : ∃ X : Int, X = ((V * 1600 : Nat) : Int) := ⟨_, rfl⟩
  have hx : (d : Int) * 512 = X := by omega
  have bX : 0 ≤ X := by omega
  have cX : X < 18446744073709551616 := by omega
  have hs := Lib.hid (prescale_2 w c0 c1)
  have hu := uscale_100 V (by omega) (by omega) (by omega) w
  rw [← hX] at hu
  have hu := Lib.hid hu
  have p2 := (pre_cells w 11805916207174113035 14019525496019259228).2.2
  have hm : min (1074 : Int) 5 = 5 := by decide
  have qa := u64_and4 V (by omega)
  clear c0 c1 hX
  unfold pre0 at hs
  obtain ⟨n, hn⟩ : ∃ n, n = N a := ⟨_, rfl⟩
  rw [← hn]
  by_cases hlt : V < 9007199254740992
  · have hN0 := mant_lo a 5 (by omega) (by omega)
    rw [← hn] at hN0
    have hW : V = V := rfl
    have hN : n = (1075 - 5) * 4503599627370496 + (V - 4503599627370496) := by rw [hN0, hV]
    have qc : decide ((V : Int) * 4 ≥ 36028797018963966) = false := by simp; omega

    have q5 := u64_or4 V (by omega)
    have q6 := u64_or0 V (by omega)
    have hp : Hid (∀ w, Calls Tryz.prog 126 #[.int .u64 (V : Int), .int .i64 (-5)] w fun e w' => e = .returned (.tuple #[.float .f64 n, .nilIface]) ∧ w = w') := Lib.hid (fun w => pack_mant V 5 n (by omega) (by omega) (by omega) (by omega) w)
    have hr := round_any V (by omega)
    have hr := Lib.hid hr
    clear hN hN0 hn hW hd hV h1 h2
    go_enter Tryz.func111, Tryz.ntmps111
    go_wp2_with fail
    refine (Hlen.out _).mono ?_
    rintro e w' ⟨rfl, rfl⟩
    go_wp2_with fail
    refine (l2_2 _).mono ?_
    rintro e w' ⟨rfl, rfl⟩
    go_wp2_with fail
    refine hs.out.mono ?_
    rintro e w' ⟨⟨v, rfl⟩, rfl⟩
    go_wp2_with fail
    refine hu.out.mono ?_
    rintro e w' ⟨rfl, n, rfl⟩
    go_wp2_with fail
    refine (unmin_53 _).mono ?_
    rintro e w' ⟨rfl, rfl⟩
    go_wp2_with fail
    refine (b2i_no _).mono ?_
    rintro e w' ⟨rfl, rfl⟩
    go_wp2_with fail
    refine (hr.out _).mono ?_
    rintro e w' ⟨rfl, rfl⟩
    go_wp2_with fail
    refine (hp.out _).mono ?_
    rintro e w' ⟨rfl, rfl⟩
    go_wp2_with fail
    go_ret2
    exact ⟨rfl, below_drewN (pre1_below _ _ _) _⟩
  · obtain ⟨W, hW⟩ : ∃ W, W = a * 16 := ⟨_, rfl⟩
    have hN0 := mant_hi a 4 (by omega) (by omega)
    rw [← hn] at hN0
    have hN : n = (1075 - 4) * 4503599627370496 + (W - 4503599627370496) := by rw [hN0, hW]
    have qc : decide ((V : Int) * 4 ≥ 36028797018963966) = true := by simp; omega
    have qs : (V : Int) * 4 / 2 = (W : Int) * 4 := by omega
    have q5 := u64_or4 W (by omega)
    have q6 := u64_or0 W (by omega)
    have hp : Hid (∀ w, Calls Tryz.prog 126 #[.int .u64 (W : Int), .int .i64 (-4)] w fun e w' => e = .returned (.tuple #[.float .f64 n, .nilIface]) ∧ w = w') := Lib.hid (fun w => pack_mant W 4 n (by omega) (by omega) (by omega) (by omega) w)
    have hr := round_any W (by omega)
    have hr := Lib.hid hr
    clear hN hN0 hn hW hd hV h1 h2
    go_enter Tryz.func111, Tryz.ntmps111
    go_wp2_with fail
    refine (Hlen.out _).mono ?_
    rintro e w' ⟨rfl, rfl⟩
    go_wp2_with fail
    refine (l2_2 _).mono ?_
    rintro e w' ⟨rfl, rfl⟩
    go_wp2_with fail
    refine hs.out.mono ?_
    rintro e w' ⟨⟨v, rfl⟩, rfl⟩
    go_wp2_with fail
    refine hu.out.mono ?_
    rintro e w' ⟨rfl, n, rfl⟩
    go_wp2_with fail
    refine (unmin_53 _).mono ?_
    rintro e w' ⟨rfl, rfl⟩
    go_wp2_with fail
    refine (b2i_yes _).mono ?_
    rintro e w' ⟨rfl, rfl⟩
    go_wp2_with fail
    refine (hr.out _).mono ?_
    rintro e w' ⟨rfl, rfl⟩
    go_wp2_with fail
    refine (hp.out _).mono ?_
    rintro e w' ⟨rfl, rfl⟩
    go_wp2_with fail
    go_ret2
    exact ⟨rfl, below_drewN (pre1_below _ _ _) _⟩
set_option maxRecDepth 100000 in
theorem pf_100_56 (w : World) (c0 : w.cell? ⟨10, 692, none⟩ = some (.int .u64 11805916207174113035)) (c1 : w.cell? ⟨10, 693, none⟩ = some (.int .u64 14019525496019259228)) (d a : Nat) (hd : d = a * 100) (ha : a < 9007199254740992) (h1 : 36028797018963968 ≤ d) (h2 : d < 72057594037927936) :
    Calls Tryz.prog 111 #[.int .u64 (d : Int), .int .i64 (-2), .int .u64 0] w fun e w' => e = .returned (.tuple #[.float .f64 (N a), .nilIface]) ∧ Below w.heap.size w w' := by
  have Hlen : Hid (∀ w, Calls Tryz.prog 116 #[.int .u64 (d : Int)] w fun e w' => e = .returned (.int .i64 56) ∧ w = w') := Lib.hid (fun w => len_of d 55 (by omega) (by omega) (by omega) w)
  obtain ⟨V, hV⟩ : ∃ V, V = a * 16 := ⟨_, rfl⟩
  obtain ⟨X, hX⟩ : ∃ X : Int, X = ((V * 1600 : Nat) : Int) := ⟨_, rfl⟩
  have hx : (d : Int) * 256 = X := by omega
  have bX : 0 ≤ X := by omega
  have cX : X < 18446744073709551616 := by omega
  have hs := Lib.hid (prescale_2 w c0 c1)
  have hu := uscale_100 V (by omega) (by omega) (by omega) w
  rw [← hX] at hu
  have hu := Lib.hid hu
  have p2 := (pre_cells w 11805916207174113035 14019525496019259228).2.2
  have hm : min (1074 : Int) 4 = 4 := by decide
  have qa := u64_and4 V (by omega)
  clear c0 c1 hX
  unfold pre0 at hs
  obtain ⟨n, hn⟩ : ∃ n, n = N a := ⟨_, rfl⟩
  rw [← hn]
  by_cases hlt : V < 9007199254740992
  · have hN0 := mant_lo a 4 (by omega) (by omega)
    rw [← hn] at hN0
    have hW : V = V := rfl
    have hN : n = (1075 - 4) * 4503599627370496 + (V - 4503599627370496) := by rw [hN0, hV]
    have qc : decide ((V : Int) * 4 ≥ 36028797018963966) = false := by simp; omega

    have q5 := u64_or4 V (by omega)
    have q6 := u64_or0 V (by omega)
    have hp : Hid (∀ w, Calls Tryz.prog 126 #[.int .u64 (V : Int), .int .i64 (-4)] w fun e w' => e = .returned (.tuple #[.float .f64 n, .nilIface]) ∧ w = w') := Lib.hid (fun w => pack_mant V 4 n (by omega) (by omega) (by omega) (by omega) w)
    have hr := round_any V (by omega)
    have hr := Lib.hid hr
    clear hN hN0 hn hW hd hV h1 h2
    go_enter Tryz.func111, Tryz.ntmps111
    go_wp2_with fail
    refine (Hlen.out _).mono ?_
    rintro e w' ⟨rfl, rfl⟩
    go_wp2_with fail
    refine (l2_2 _).mono ?_
    rintro e w' ⟨rfl, rfl⟩
    go_wp2_with fail
    refine hs.out.mono ?_
    rintro e w' ⟨⟨v, rfl⟩, rfl⟩
    go_wp2_with fail
    refine hu.out.mono ?_
    rintro e w' ⟨rfl, n, rfl⟩
    go_wp2_with fail
    refine (unmin_53 _).mono ?_
    rintro e w' ⟨rfl, rfl⟩
    go_wp2_with fail
    refine (b2i_no _).mono ?_
    rintro e w' ⟨rfl, rfl⟩
    go_wp2_with fail
    refine (hr.out _).mono ?_
    rintro e w' ⟨rfl, rfl⟩
    go_wp2_with fail
    refine (hp.out _).mono ?_
    rintro e w' ⟨rfl, rfl⟩
    go_wp2_with fail
    go_ret2
    exact ⟨rfl, below_drewN (pre1_below _ _ _) _⟩
  · obtain ⟨W, hW⟩ : ∃ W, W = a * 8 := ⟨_, rfl⟩
    have hN0 := mant_hi a 3 (by omega) (by omega)
    rw [← hn] at hN0
    have hN : n = (1075 - 3) * 4503599627370496 + (W - 4503599627370496) := by rw [hN0, hW]
    have qc : decide ((V : Int) * 4 ≥ 36028797018963966) = true := by simp; omega
    have qs : (V : Int) * 4 / 2 = (W : Int) * 4 := by omega
    have q5 := u64_or4 W (by omega)
    have q6 := u64_or0 W (by omega)
    have hp : Hid (∀ w, Calls Tryz.prog 126 #[.int .u64 (W : Int), .int .i64 (-3)] w fun e w' => e = .returned (.tuple #[.float .f64 n, .nilIface]) ∧ w = w') := Lib.hid (fun w => pack_mant W 3 n (by omega) (by omega) (by omega) (by omega) w)
    have hr := round_any W (by omega)
    have hr := Lib.hid hr
    clear hN hN0 hn hW hd hV h1 h2
    go_enter Tryz.func111, Tryz.ntmps111
    go_wp2_with fail
    refine (Hlen.out _).mono ?_
    rintro e w' ⟨rfl, rfl⟩
    go_wp2_with fail
    refine (l2_2 _).mono ?_
    rintro e w' ⟨rfl, rfl⟩
    go_wp2_with fail
    refine hs.out.mono ?_
    rintro e w' ⟨⟨v, rfl⟩, rfl⟩
    go_wp2_with fail
    refine hu.out.mono ?_
    rintro e w' ⟨rfl, n, rfl⟩
    go_wp2_with fail
    refine (unmin_53 _).mono ?_
    rintro e w' ⟨rfl, rfl⟩
    go_wp2_with fail
    refine (b2i_yes _).mono ?_
    rintro e w' ⟨rfl, rfl⟩
    go_wp2_with fail
    refine (hr.out _).mono ?_
    rintro e w' ⟨rfl, rfl⟩
    go_wp2_with fail
    refine (hp.out _).mono ?_
    rintro e w' ⟨rfl, rfl⟩
    go_wp2_with fail
    go_ret2
    exact ⟨rfl, below_drewN (pre1_below _ _ _) _⟩
set_option maxRecDepth 100000 in
theorem pf_100_57 (w : World) (c0 : w.cell? ⟨10, 692, none⟩ = some (.int .u64 11805916207174113035)) (c1 : w.cell? ⟨10, 693, none⟩ = some (.int .u64 14019525496019259228)) (d a : Nat) (hd : d = a * 100) (ha : a < 9007199254740992) (h1 : 72057594037927936 ≤ d) (h2 : d < 144115188075855872) :
    Calls Tryz.prog 111 #[.int .u64 (d : Int), .int .i64 (-2), .int .u64 0] w fun e w' => e = .returned (.tuple #[.float .f64 (N a), .nilIface]) ∧ Below w.heap.size w w' := by
  have Hlen : Hid (∀ w, Calls Tryz.prog 116 #[.int .u64 (d : Int)] w fun e w' => e = .returned (.int .i64 57) ∧ w = w') := Lib.hid (fun w => len_of d 56 (by omega) (by omega) (by omega) w)
  obtain ⟨V, hV⟩ : ∃ V, V = a * 8 := ⟨_, rfl⟩
  obtain ⟨X, hX⟩ : ∃ X : Int, X = ((V * 1600 : Nat) : Int) := ⟨_, rfl⟩
  have hx : (d : Int) * 128 = X := by omega
  have bX : 0 ≤ X := by omega
  have cX : X < 18446744073709551616 := by omega
  have hs := Lib.hid (prescale_2 w c0 c1)
  have hu := uscale_100 V (by omega) (by omega) (by omega) w
  rw [← hX] at hu
  have hu := Lib.hid hu
  have p2 := (pre_cells w 11805916207174113035 14019525496019259228).2.2
  have hm : min (1074 : Int) 3 = 3 := by decide
  have qa := u64_and4 V (by omega)
  clear c0 c1 hX
  unfold pre0 at hs
  obtain ⟨n, hn⟩ : ∃ n, n = N a := ⟨_, rfl⟩
  rw [← hn]
  by_cases hlt : V < 9007199254740992
  · have hN0 := mant_lo a 3 (by omega) (by omega)
    rw [← hn] at hN0
    have hW : V = V := rfl
    have hN : n = (1075 - 3) * 4503599627370496 + (V - 4503599627370496) := by rw [hN0, hV]
    have qc : decide ((V : Int) * 4 ≥ 36028797018963966) = false := by simp; omega

    have q5 := u64_or4 V (by omega)
    have q6 := u64_or0 V (by omega)
    have hp : Hid (∀ w, Calls Tryz.prog 126 #[.int .u64 (V : Int), .int .i64 (-3)] w fun e w' => e = .returned (.tuple #[.float .f64 n, .nilIface]) ∧ w = w') := Lib.hid (fun w => pack_mant V 3 n (by omega) (by omega) (by omega) (by omega) w)
    have hr := round_any V (by omega)
    have hr := Lib.hid hr
    clear hN hN0 hn hW hd hV h1 h2
    go_enter Tryz.func111, Tryz.ntmps111
    go_wp2_with fail
    refine (Hlen.out _).mono ?_
    rintro e w' ⟨rfl, rfl⟩
    go_wp2_with fail
    refine (l2_2 _).mono ?_
    rintro e w' ⟨rfl, rfl⟩
    go_wp2_with fail
    refine hs.out.mono ?_
    rintro e w' ⟨⟨v, rfl⟩, rfl⟩
    go_wp2_with fail
    refine hu.out.mono ?_
    rintro e w' ⟨rfl, n, rfl⟩
    go_wp2_with fail
    refine (unmin_53 _).mono ?_
    rintro e w' ⟨rfl, rfl⟩
    go_wp2_with fail
    refine (b2i_no _).mono ?_
    rintro e w' ⟨rfl, rfl⟩
    go_wp2_with fail
    refine (hr.out _).mono ?_
    rintro e w' ⟨rfl, rfl⟩
    go_wp2_with fail
    refine (hp.out _).mono ?_
    rintro e w' ⟨rfl, rfl⟩
    go_wp2_with fail
    go_ret2
    exact ⟨rfl, below_drewN (pre1_below _ _ _) _⟩
  · obtain ⟨W, hW⟩ : ∃ W, W = a * 4 := ⟨_, rfl⟩
    have hN0 := mant_hi a 2 (by omega) (by omega)
    rw [← hn] at hN0
    have hN : n = (1075 - 2) * 4503599627370496 + (W - 4503599627370496) := by rw [hN0, hW]
    have qc : decide ((V : Int) * 4 ≥ 36028797018963966) = true := by simp; omega
    have qs : (V : Int) * 4 / 2 = (W : Int) * 4 := by omega
    have q5 := u64_or4 W (by omega)
    have q6 := u64_or0 W (by omega)
    have hp : Hid (∀ w, Calls Tryz.prog 126 #[.int .u64 (W : Int), .int .i64 (-2)] w fun e w' => e = .returned (.tuple #[.float .f64 n, .nilIface]) ∧ w = w') := Lib.hid (fun w => pack_mant W 2 n (by omega) (by omega) (by omega) (by omega) w)
    have hr := round_any W (by omega)
    have hr := Lib.hid hr
    clear hN hN0 hn hW hd hV h1 h2
    go_enter Tryz.func111, Tryz.ntmps111
    go_wp2_with fail
    refine (Hlen.out _).mono ?_
    rintro e w' ⟨rfl, rfl⟩
    go_wp2_with fail
    refine (l2_2 _).mono ?_
    rintro e w' ⟨rfl, rfl⟩
    go_wp2_with fail
    refine hs.out.mono ?_
    rintro e w' ⟨⟨v, rfl⟩, rfl⟩
    go_wp2_with fail
    refine hu.out.mono ?_
    rintro e w' ⟨rfl, n, rfl⟩
    go_wp2_with fail
    refine (unmin_53 _).mono ?_
    rintro e w' ⟨rfl, rfl⟩
    go_wp2_with fail
    refine (b2i_yes _).mono ?_
    rintro e w' ⟨rfl, rfl⟩
    go_wp2_with fail
    refine (hr.out _).mono ?_
    rintro e w' ⟨rfl, rfl⟩
    go_wp2_with fail
    refine (hp.out _).mono ?_
    rintro e w' ⟨rfl, rfl⟩
    go_wp2_with fail
    go_ret2
    exact ⟨rfl, below_drewN (pre1_below _ _ _) _⟩
set_option maxRecDepth 100000 in
theorem pf_100_58 (w : World) (c0 : w.cell? ⟨10, 692, none⟩ = some (.int .u64 11805916207174113035)) (c1 : w.cell? ⟨10, 693, none⟩ = some (.int .u64 14019525496019259228)) (d a : Nat) (hd : d = a * 100) (ha : a < 9007199254740992) (h1 : 144115188075855872 ≤ d) (h2 : d < 288230376151711744) :
    Calls Tryz.prog 111 #[.int .u64 (d : Int), .int .i64 (-2), .int .u64 0] w fun e w' => e = .returned (.tuple #[.float .f64 (N a), .nilIface]) ∧ Below w.heap.size w w' := by
  have Hlen : Hid (∀ w, Calls Tryz.prog 116 #[.int .u64 (d : Int)] w fun e w' => e = .returned (.int .i64 58) ∧ w = w') := Lib.hid (fun w => len_of d 57 (by omega) (by omega) (by omega) w)
  obtain ⟨V, hV⟩ : ∃ V, V = a * 4 := ⟨_, rfl⟩
  obtain ⟨X, hX⟩ : ∃ X : Int, X = ((V * 1600 : Nat) : Int) := ⟨_, rfl⟩
  have hx : (d : Int) * 64 = X := by omega
  have bX : 0 ≤ X := by omega
  have cX : X < 18446744073709551616 := by omega
  have hs := Lib.hid (prescale_2 w c0 c1)
  have hu := uscale_100 V (by omega) (by omega) (by omega) w
  rw [← hX] at hu
  have hu := Lib.hid hu
  have p2 := (pre_cells w 11805916207174113035 14019525496019259228).2.2
  have hm : min (1074 : Int) 2 = 2 := by decide
  have qa := u64_and4 V (by omega)
  clear c0 c1 hX
  unfold pre0 at hs
  obtain ⟨n, hn⟩ : ∃ n, n = N a := ⟨_, rfl⟩
  rw [← hn]
  by_cases hlt : V < 9007199254740992
  · have hN0 := mant_lo a 2 (by omega) (by omega)
    rw [← hn] at hN0
    have hW : V = V := rfl
    have hN : n = (1075 - 2) * 4503599627370496 + (V - 4503599627370496) := by rw [hN0, hV]
    have qc : decide ((V : Int) * 4 ≥ 36028797018963966) = false := by simp; omega

    have q5 := u64_or4 V (by omega)
    have q6 := u64_or0 V (by omega)
    have hp : Hid (∀ w, Calls Tryz.prog 126 #[.int .u64 (V : Int), .int .i64 (-2)] w fun e w' => e = .returned (.tuple #[.float .f64 n, .nilIface]) ∧ w = w') := Lib.hid (fun w => pack_mant V 2 n (by omega) (by omega) (by omega) (by omega) w)
    have hr := round_any V (by omega)
    have hr := Lib.hid hr
    clear hN hN0 hn hW hd hV h1 h2
    go_enter Tryz.func111, Tryz.ntmps111
    go_wp2_with fail
    refine (Hlen.out _).mono ?_
    rintro e w' ⟨rfl, rfl⟩
    go_wp2_with fail
    refine (l2_2 _).mono ?_
    rintro e w' ⟨rfl, rfl⟩
    go_wp2_with fail
    refine hs.out.mono ?_
    rintro e w' ⟨⟨v, rfl⟩, rfl⟩
    go_wp2_with fail
    refine hu.out.mono ?_
    rintro e w' ⟨rfl, n, rfl⟩
    go_wp2_with fail
    refine (unmin_53 _).mono ?_
    rintro e w' ⟨rfl, rfl⟩
    go_wp2_with fail
    refine (b2i_no _).mono ?_
    rintro e w' ⟨rfl, rfl⟩
    go_wp2_with fail
    refine (hr.out _).mono ?_
    rintro e w' ⟨rfl, rfl⟩
    go_wp2_with fail
    refine (hp.out _).mono ?_
    rintro e w' ⟨rfl, rfl⟩
    go_wp2_with fail
    go_ret2
    exact ⟨rfl, below_drewN (pre1_below _ _ _) _⟩
  · obtain ⟨W, hW⟩ : ∃ W, W = a * 2 := ⟨_, rfl⟩
    have hN0 := mant_hi a 1 (by omega) (by omega)
    rw [← hn] at hN0
    have hN : n = (1075 - 1) * 4503599627370496 + (W - 4503599627370496) := by rw [hN0, hW]
    have qc : decide ((V : Int) * 4 ≥ 36028797018963966) = true := by simp; omega
    have qs : (V : Int) * 4 / 2 = (W : Int) * 4 := by omega
    have q5 := u64_or4 W (by omega)
    have q6 := u64_or0 W (by omega)
    have hp : Hid (∀ w, Calls Tryz.prog 126 #[.int .u64 (W : Int), .int .i64 (-1)] w fun e w' => e = .returned (.tuple #[.float .f64 n, .nilIface]) ∧ w = w') := Lib.hid (fun w => pack_mant W 1 n (by omega) (by omega) (by omega) (by omega) w)
    have hr := round_any W (by omega)
    have hr := Lib.hid hr
    clear hN hN0 hn hW hd hV h1 h2
    go_enter Tryz.func111, Tryz.ntmps111
    go_wp2_with fail
    refine (Hlen.out _).mono ?_
    rintro e w' ⟨rfl, rfl⟩
    go_wp2_with fail
    refine (l2_2 _).mono ?_
    rintro e w' ⟨rfl, rfl⟩
    go_wp2_with fail
    refine hs.out.mono ?_
    rintro e w' ⟨⟨v, rfl⟩, rfl⟩
    go_wp2_with fail
    refine hu.out.mono ?_
    rintro e w' ⟨rfl, n, rfl⟩
    go_wp2_with fail
    refine (unmin_53 _).mono ?_
    rintro e w' ⟨rfl, rfl⟩
    go_wp2_with fail
    refine (b2i_yes _).mono ?_
    rintro e w' ⟨rfl, rfl⟩
    go_wp2_with fail
    refine (hr.out _).mono ?_
    rintro e w' ⟨rfl, rfl⟩
    go_wp2_with fail
    refine (hp.out _).mono ?_
    rintro e w' ⟨rfl, rfl⟩
    go_wp2_with fail
    go_ret2
    exact ⟨rfl, below_drewN (pre1_below _ _ _) _⟩
set_option maxRecDepth 100000 in
theorem pf_100_59 (w : World) (c0 : w.cell? ⟨10, 692, none⟩ = some (.int .u64 11805916207174113035)) (c1 : w.cell? ⟨10, 693, none⟩ = some (.int .u64 14019525496019259228)) (d a : Nat) (hd : d = a * 100) (ha : a < 9007199254740992) (h1 : 288230376151711744 ≤ d) (h2 : d < 576460752303423488) :
    Calls Tryz.prog 111 #[.int .u64 (d : Int), .int .i64 (-2), .int .u64 0] w fun e w' => e = .returned (.tuple #[.float .f64 (N a), .nilIface]) ∧ Below w.heap.size w w' := by
  have Hlen : Hid (∀ w, Calls Tryz.prog 116 #[.int .u64 (d : Int)] w fun e w' => e = .returned (.int .i64 59) ∧ w = w') := Lib.hid (fun w => len_of d 58 (by omega) (by omega) (by omega) w)
  obtain ⟨V, hV⟩ : ∃ V, V = a * 2 := ⟨_, rfl⟩
  obtain ⟨X, hX⟩ : ∃ X : Int, X = ((V * 1600 : Nat) : Int) := ⟨_, rfl⟩
  have hx : (d : Int) * 32 = X := by omega
  have bX : 0 ≤ X := by omega
  have cX : X < 18446744073709551616 := by omega
  have hs := Lib.hid (prescale_2 w c0 c1)
  have hu := uscale_100 V (by omega) (by omega) (by omega) w
  rw [← hX] at hu
  have hu := Lib.hid hu
  have p2 := (pre_cells w 11805916207174113035 14019525496019259228).2.2
  have hm : min (1074 : Int) 1 = 1 := by decide
  have qa := u64_and4 V (by omega)
  clear c0 c1 hX
  unfold pre0 at hs
  obtain ⟨n, hn⟩ : ∃ n, n = N a := ⟨_, rfl⟩
  rw [← hn]
  by_cases hlt : V < 9007199254740992
  · have hN0 := mant_lo a 1 (by omega) (by omega)
    rw [← hn] at hN0
    have hW : V = V := rfl
    have hN : n = (1075 - 1) * 4503599627370496 + (V - 4503599627370496) := by rw [hN0, hV]
    have qc : decide ((V : Int) * 4 ≥ 36028797018963966) = false := by simp; omega

    have q5 := u64_or4 V (by omega)
    have q6 := u64_or0 V (by omega)
    have hp : Hid (∀ w, Calls Tryz.prog 126 #[.int .u64 (V : Int), .int .i64 (-1)] w fun e w' => e = .returned (.tuple #[.float .f64 n, .nilIface]) ∧ w = w') := Lib.hid (fun w => pack_mant V 1 n (by omega) (by omega) (by omega) (by omega) w)
    have hr := round_any V (by omega)
    have hr := Lib.hid hr
    clear hN hN0 hn hW hd hV h1 h2
    go_enter Tryz.func111, Tryz.ntmps111
    go_wp2_with fail
    refine (Hlen.out _).mono ?_
    rintro e w' ⟨rfl, rfl⟩
    go_wp2_with fail
    refine (l2_2 _).mono ?_
    rintro e w' ⟨rfl, rfl⟩
    go_wp2_with fail
    refine hs.out.mono ?_
    rintro e w' ⟨⟨v, rfl⟩, rfl⟩
    go_wp2_with fail
    refine hu.out.mono ?_
    rintro e w' ⟨rfl, n, rfl⟩
    go_wp2_with fail
    refine (unmin_53 _).mono ?_
    rintro e w' ⟨rfl, rfl⟩
    go_wp2_with fail
    refine (b2i_no _).mono ?_
    rintro e w' ⟨rfl, rfl⟩
    go_wp2_with fail
    refine (hr.out _).mono ?_
    rintro e w' ⟨rfl, rfl⟩
    go_wp2_with fail
    refine (hp.out _).mono ?_
    rintro e w' ⟨rfl, rfl⟩
    go_wp2_with fail
    go_ret2
    exact ⟨rfl, below_drewN (pre1_below _ _ _) _⟩
  · obtain ⟨W, hW⟩ : ∃ W, W = a * 1 := ⟨_, rfl⟩
    have hN0 := mant_hi a 0 (by omega) (by omega)
    rw [← hn] at hN0
    have hN : n = (1075 - 0) * 4503599627370496 + (W - 4503599627370496) := by rw [hN0, hW]
    have qc : decide ((V : Int) * 4 ≥ 36028797018963966) = true := by simp; omega
    have qs : (V : Int) * 4 / 2 = (W : Int) * 4 := by omega
    have q5 := u64_or4 W (by omega)
    have q6 := u64_or0 W (by omega)
    have hp : Hid (∀ w, Calls Tryz.prog 126 #[.int .u64 (W : Int), .int .i64 (0)] w fun e w' => e = .returned (.tuple #[.float .f64 n, .nilIface]) ∧ w = w') := Lib.hid (fun w => pack_mant W 0 n (by omega) (by omega) (by omega) (by omega) w)
    have hr := round_any W (by omega)
    have hr := Lib.hid hr
    clear hN hN0 hn hW hd hV h1 h2
    go_enter Tryz.func111, Tryz.ntmps111
    go_wp2_with fail
    refine (Hlen.out _).mono ?_
    rintro e w' ⟨rfl, rfl⟩
    go_wp2_with fail
    refine (l2_2 _).mono ?_
    rintro e w' ⟨rfl, rfl⟩
    go_wp2_with fail
    refine hs.out.mono ?_
    rintro e w' ⟨⟨v, rfl⟩, rfl⟩
    go_wp2_with fail
    refine hu.out.mono ?_
    rintro e w' ⟨rfl, n, rfl⟩
    go_wp2_with fail
    refine (unmin_53 _).mono ?_
    rintro e w' ⟨rfl, rfl⟩
    go_wp2_with fail
    refine (b2i_yes _).mono ?_
    rintro e w' ⟨rfl, rfl⟩
    go_wp2_with fail
    refine (hr.out _).mono ?_
    rintro e w' ⟨rfl, rfl⟩
    go_wp2_with fail
    refine (hp.out _).mono ?_
    rintro e w' ⟨rfl, rfl⟩
    go_wp2_with fail
    go_ret2
    exact ⟨rfl, below_drewN (pre1_below _ _ _) _⟩
set_option maxRecDepth 100000 in
theorem pf_100_60 (w : World) (c0 : w.cell? ⟨10, 692, none⟩ = some (.int .u64 11805916207174113035)) (c1 : w.cell? ⟨10, 693, none⟩ = some (.int .u64 14019525496019259228)) (d a : Nat) (hd : d = a * 100) (ha : a < 9007199254740992) (h1 : 576460752303423488 ≤ d) (h2 : d < 1152921504606846976) :
    Calls Tryz.prog 111 #[.int .u64 (d : Int), .int .i64 (-2), .int .u64 0] w fun e w' => e = .returned (.tuple #[.float .f64 (N a), .nilIface]) ∧ Below w.heap.size w w' := by
  have Hlen : Hid (∀ w, Calls Tryz.prog 116 #[.int .u64 (d : Int)] w fun e w' => e = .returned (.int .i64 60) ∧ w = w') := Lib.hid (fun w => len_of d 59 (by omega) (by omega) (by omega) w)
  obtain ⟨V, hV⟩ : ∃ V, V = a * 1 := ⟨_, rfl⟩
  obtain ⟨X, hX⟩ : ∃ X : Int, X = ((V * 1600 : Nat) : Int) := ⟨_, rfl⟩
  have hx : (d : Int) * 16 = X := by omega
  have bX : 0 ≤ X := by omega
  have cX : X < 18446744073709551616 := by omega
  have hs := Lib.hid (prescale_2 w c0 c1)
  have hu := uscale_100 V (by omega) (by omega) (by omega) w
  rw [← hX] at hu
  have hu := Lib.hid hu
  have p2 := (pre_cells w 11805916207174113035 14019525496019259228).2.2
  have hm : min (1074 : Int) 0 = 0 := by decide
  have qa := u64_and4 V (by omega)
  clear c0 c1 hX
  unfold pre0 at hs
  obtain ⟨n, hn⟩ : ∃ n, n = N a := ⟨_, rfl⟩
  rw [← hn]
  by_cases hlt : V < 9007199254740992
  · have hN0 := mant_lo a 0 (by omega) (by omega)
    rw [← hn] at hN0
    have hW : V = V := rfl
    have hN : n = (1075 - 0) * 4503599627370496 + (V - 4503599627370496) := by rw [hN0, hV]
    have qc : decide ((V : Int) * 4 ≥ 36028797018963966) = false := by simp; omega

    have q5 := u64_or4 V (by omega)
    have q6 := u64_or0 V (by omega)
    have hp : Hid (∀ w, Calls Tryz.prog 126 #[.int .u64 (V : Int), .int .i64 (0)] w fun e w' => e = .returned (.tuple #[.float .f64 n, .nilIface]) ∧ w = w') := Lib.hid (fun w => pack_mant V 0 n (by omega) (by omega) (by omega) (by omega) w)
    have hr := round_any V (by omega)
    have hr := Lib.hid hr
    clear hN hN0 hn hW hd hV h1 h2
    go_enter Tryz.func111, Tryz.ntmps111
    go_wp2_with fail
    refine (Hlen.out _).mono ?_
    rintro e w' ⟨rfl, rfl⟩
    go_wp2_with fail
    refine (l2_2 _).mono ?_
    rintro e w' ⟨rfl, rfl⟩
    go_wp2_with fail
    refine hs.out.mono ?_
    rintro e w' ⟨⟨v, rfl⟩, rfl⟩
    go_wp2_with fail
    refine hu.out.mono ?_
    rintro e w' ⟨rfl, n, rfl⟩
    go_wp2_with fail
    refine (unmin_53 _).mono ?_
    rintro e w' ⟨rfl, rfl⟩
    go_wp2_with fail
    refine (b2i_no _).mono ?_
    rintro e w' ⟨rfl, rfl⟩
    go_wp2_with fail
    refine (hr.out _).mono ?_
    rintro e w' ⟨rfl, rfl⟩
    go_wp2_with fail
    refine (hp.out _).mono ?_
    rintro e w' ⟨rfl, rfl⟩
    go_wp2_with fail
    go_ret2
    exact ⟨rfl, below_drewN (pre1_below _ _ _) _⟩
  · omega
end Go.Proofs.YtgncihoioacgjaaGreatDoor
