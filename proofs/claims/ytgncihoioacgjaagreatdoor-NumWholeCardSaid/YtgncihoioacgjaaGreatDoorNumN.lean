import Derived.Test.YtgncihoioacgjaaGreatDoorNumM
namespace Go.Proofs.YtgncihoioacgjaaGreatDoor
open Go.Instr Go.RowKit NumF
set_option linter.unusedVariables false
set_option maxHeartbeats 1000000
theorem NumInts_any (op : ByteArray) (a b : Int) (w : World) (pb po cap : Nat) (ht : Tabs w pb po cap) : Calls Tryz.prog 3 #[.string op, .int .i64 a, .int .i64 b] w fun e w' => e = .returned (.bool true) ∧ Below w.heap.size w w' := by
  obtain ⟨r, c, h1, h2⟩ := Int_both op a b
  obtain ⟨t, d, h3, h4⟩ := IntIs_both op a b
  have H1 := Lib.hid h1
  have H2 := Lib.hid h2
  have H3 := Lib.hid h3
  have H4 := Lib.hid h4
  clear h1 h2 h3 h4
  have H0 := Lib.hid (awake_any w pb po cap ht)
  clear ht
  cases t
  all_goals
    go_enter Tryz.func3, Tryz.ntmps3
    go_wp2_with fail
    refine H0.out.mono ?_
    rintro e w1 ⟨rfl, b1⟩
    go_wp2_with fail
    refine (H1.out _).mono ?_
    rintro e w2 ⟨rfl, b2⟩
    go_wp2_with fail
    refine (H2.out _).mono ?_
    rintro e w' ⟨rfl, rfl⟩
    go_wp2_with fail
    refine (H3.out _).mono ?_
    rintro e w3 ⟨rfl, b3⟩
    go_wp2_with fail
    refine (H4.out _).mono ?_
    rintro e w' ⟨rfl, rfl⟩
    go_wp2_with fail
    go_ret
    exact ⟨rfl, below_step b1 (below_step b2 b3)⟩
theorem NumFloats_any (op : ByteArray) (a b : Nat) (ha : a < 18446744073709551616) (hb : b < 18446744073709551616) (w : World) (pb po cap : Nat) (ht : Tabs w pb po cap) : Calls Tryz.prog 4 #[.string op, .int .u64 (a : Int), .int .u64 (b : Int)] w fun e w' => e = .returned (.bool true) ∧ Below w.heap.size w w' := by
  obtain ⟨r, c, h1, h2⟩ := Float_both op a b
  obtain ⟨t, d, h3, h4⟩ := FloatIs_both op a b ha hb
  have H1 := Lib.hid h1
  have H2 := Lib.hid h2
  have H3 := Lib.hid h3
  have H4 := Lib.hid h4
  have H5 := Lib.hid (Plain_any a ha)
  have H6 := Lib.hid (rPlain_any a ha)
  clear h1 h2 h3 h4
  have H0 := Lib.hid (awake_any w pb po cap ht)
  clear ht
  cases t
  all_goals
    go_enter Tryz.func4, Tryz.ntmps4
    go_wp2_with fail
    refine H0.out.mono ?_
    rintro e w1 ⟨rfl, b1⟩
    go_wp2_with fail
    refine (H1.out _).mono ?_
    rintro e w2 ⟨rfl, b2⟩
    go_wp2_with fail
    refine (H2.out _).mono ?_
    rintro e w3 ⟨rfl, b3⟩
    go_wp2_with fail
    refine (H3.out _).mono ?_
    rintro e w4 ⟨rfl, b4⟩
    go_wp2_with fail
    refine (H4.out _).mono ?_
    rintro e w' ⟨rfl, rfl⟩
    go_wp2_with fail
    refine (H5.out _).mono ?_
    rintro e w' ⟨rfl, rfl⟩
    go_wp2_with fail
    refine (H6.out _).mono ?_
    rintro e w' ⟨rfl, rfl⟩
    go_wp2_with fail
    go_ret
    exact ⟨rfl, below_step b1 (below_step b2 (below_step b3 b4))⟩
end Go.Proofs.YtgncihoioacgjaaGreatDoor
