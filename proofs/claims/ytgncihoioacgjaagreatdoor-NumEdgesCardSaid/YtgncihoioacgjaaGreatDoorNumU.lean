import Derived.Test.YtgncihoioacgjaaGreatDoorNumM
import Derived.LoopTactic
import Derived.Deep.QuietTactic
import Derived.BigQuiet
import Derived.Laws.BitsAllLaws
namespace Go.Proofs.YtgncihoioacgjaaGreatDoor
open Go.Instr Go.RowKit NumF
set_option linter.unusedVariables false
set_option maxHeartbeats 1000000
theorem floats_any (op : ByteArray) (a b : Nat) (ha : a < 18446744073709551616) (hb : b < 18446744073709551616) (w : World) : Calls Tryz.prog 26 #[.string op, .int .u64 (a : Int), .int .u64 (b : Int)] w fun e w' => e = .returned (.bool true) ∧ Below w.heap.size w w' := by
  obtain ⟨r, c, h1, h2⟩ := Float_both op a b
  obtain ⟨t, d, h3, h4⟩ := FloatIs_both op a b ha hb
  have H1 := Lib.hid h1
  have H2 := Lib.hid h2
  have H3 := Lib.hid h3
  have H4 := Lib.hid h4
  clear h1 h2 h3 h4
  cases t
  all_goals
    go_enter Tryz.func26, Tryz.ntmps26
    go_wp2_with fail
    refine (H1.out _).mono ?_
    rintro e w2 ⟨rfl, b2⟩
    go_wp2_with fail
    refine (H2.out _).mono ?_
    rintro e w3 ⟨rfl, b3⟩
    go_wp2_with fail
    refine (H3.out _).mono ?_
    rintro e w4 ⟨rfl, b4⟩
    go_wp2_with fail
    refine (H4.out _).mono ?_
    rintro e w' ⟨rfl, rfl⟩
    go_wp2_with fail
    go_ret
    exact ⟨rfl, below_step b2 (below_step b3 b4)⟩
/-- What the loops need of the two lists: numbers that fit, texts. -/
structure Lists (wr : World) (B : Nat) : Prop where
  nums : ∀ j : Nat, j < 21 → ∃ x : Nat, x < 18446744073709551616 ∧ wr.cell? ⟨B, j, none⟩ = some (.int .u64 x)
  ops : ∀ j : Nat, j < 13 → ∃ s : ByteArray, wr.cell? ⟨B + 1, j, none⟩ = some (.string s)
theorem Lists.below {w w1 : World} {B : Nat} (h : Lists w B) (hb : Below w.heap.size w w1) : Lists w1 B :=
  ⟨fun j hj => let ⟨x, hx, hc⟩ := h.nums j hj; ⟨x, hx, (hb.cell (World.block_lt_of_cell? _ _ hc)).trans hc⟩, fun j hj => let ⟨s, hc⟩ := h.ops j hj; ⟨s, (hb.cell (World.block_lt_of_cell? _ _ hc)).trans hc⟩⟩
def numsL : List Nat := [0, 1, 2, 4503599627370495, 4503599627370496, 4503599627370497, 4607182418800017407, 4607182418800017408, 4607182418800017409, 4607182418800017408, 4611686018427387904, 4841369599423283200, 4845873199050653696, 4845873199050653697, 4890909195324358656, 9218868437227405311, 9218868437227405312, 9218868437227405313, 9221120237041090561, 9221120237041090560, 9223372036854775807]
def opsL : List ByteArray := [⟨#[43]⟩, ⟨#[45]⟩, ⟨#[42]⟩, ⟨#[47]⟩, ⟨#[37]⟩, ⟨#[61, 61]⟩, ⟨#[33, 61]⟩, ⟨#[60]⟩, ⟨#[60, 61]⟩, ⟨#[62]⟩, ⟨#[62, 61]⟩, ⟨#[]⟩, ⟨#[38, 38]⟩]
def edgesWorld (w1 : World) : World := (w1.alloc (.cells (numsL.map fun (x : Nat) => Value.int .u64 (x : Int)).toArray 29)).alloc (.cells (opsL.map Value.string).toArray 9)
theorem numsL_lt : ∀ x ∈ numsL, x < 18446744073709551616 := by decide
theorem lists_new (w1 : World) : Lists (edgesWorld w1) w1.heap.size := by
  refine ⟨fun j hj => ?_, fun j hj => ?_⟩
  · have hl : j < numsL.length := hj
    refine ⟨numsL[j], numsL_lt _ (List.getElem_mem hl), ?_⟩
    unfold edgesWorld
    rw [World.cell?_alloc_lt (h := by simp), World.cell?_alloc_new]
    simp [hl]
  · have hl : j < opsL.length := hj
    refine ⟨opsL[j], ?_⟩
    unfold edgesWorld
    have e : w1.heap.size + 1 = (w1.alloc (.cells (numsL.map fun (x : Nat) => Value.int .u64 (x : Int)).toArray 29)).heap.size := by simp
    rw [e, World.cell?_alloc_new]
    simp [hl]
theorem edges_below (w1 : World) : Below w1.heap.size w1 (edgesWorld w1) := by unfold edgesWorld; go_grown
theorem xor63 (x : Nat) (hx : x < 18446744073709551616) : bits .xor .u64 (x : Int) 9223372036854775808 = ((x ^^^ 9223372036854775808 : Nat) : Int) := u64_xor_nat x 9223372036854775808 hx (by omega)
theorem xor63_lt (x : Nat) (hx : x < 18446744073709551616) : x ^^^ 9223372036854775808 < 18446744073709551616 := Nat.xor_lt_two_pow (n := 64) hx (by omega)
set_option maxRecDepth 100000 in
theorem edges_any (w : World) (pb po cap : Nat) (ht : Tabs w pb po cap) : Calls Tryz.prog 6 #[] w fun e w' => e = .returned (.bool true) ∧ Below w.heap.size w w' := by
  have H0 := Lib.hid (awake_any w pb po cap ht)
  clear ht
  go_enter Tryz.func6, Tryz.ntmps6
  go_wp2_with fail
  refine H0.out.mono ?_
  rintro e w1 ⟨rfl, b1⟩
  go_wp2_with fail
  change Code.wp _ _ _ _ (edgesWorld w1)
  have b2 := below_step b1 (edges_below w1)
  have hl := lists_new w1
  generalize edgesWorld w1 = wL at b2 hl ⊢
  generalize hB : w1.heap.size = B at hl ⊢
  clear b1 H0 hB
  go_loopw [3] (fun i wr => ∃ k : Nat, k ≤ 1764 ∧ i = .int .i64 k ∧ Below w.heap.size w wr ∧ Lists wr B) (fun i _ => 1764 - (intOf i).toNat)
  case atStart => exact ⟨0, by omega, rfl, b2, hl⟩
  case round =>
    clear b2 hl
    obtain ⟨k, hk, rfl, b2, hl⟩ := hrel
    by_cases hlt : k < 1764
    · obtain ⟨x, hx, hcx⟩ := hl.nums (k / 4 % 21) (by omega)
      obtain ⟨y, hy, hcy⟩ := hl.nums (k / 4 / 21) (by omega)
      have ex := xor63 x hx
      have ey := xor63 y hy
      have hx' := xor63_lt x hx
      have hy' := xor63_lt y hy
      have hd : decide ((k : Int) < 1764) = true := by simp; omega
      cases h1 : (bits BinOp.and IntKind.i64 (k : Int) 1 == 1) <;> cases h2 : (bits BinOp.and IntKind.i64 (k : Int) 2 == 2)
      all_goals
        go_wp2_with fail
        go_quiet (fail)
        go_wp2_with fail
        go_loopw [6] (fun kk wr2 => ∃ j : Nat, j ≤ 13 ∧ kk = .int .i64 j ∧ Below w.heap.size w wr2 ∧ Lists wr2 B) (fun kk _ => 13 - (intOf kk).toNat)
        case atStart => exact ⟨0, by omega, rfl, below_drewN b2 _, ⟨hl.nums, hl.ops⟩⟩
        case round =>
          clear ex ey hcx hcy hl b2
          obtain ⟨j, hj, rfl, b3, hl3⟩ := hrel
          by_cases hj1 : j < 13
          · obtain ⟨s, hs⟩ := hl3.ops j hj1
            go_wp2_with (go_at_call 26; refine (floats_any _ _ _ (by assumption) (by assumption) _).mono ?_; rintro e w' ⟨rfl, b4⟩)
            go_roundw
            case rel => exact ⟨j + 1, by omega, by go_num, below_step b3 b4, hl3.below b4⟩
            case measure => simp [intOf]; omega
          · go_wp2_with fail
            go_roundw
            case rel => exact ⟨k + 1, by omega, by go_num, b3, hl3⟩
            case measure => simp [intOf]; omega
    · go_wp2_with fail
      go_ret
      exact ⟨rfl, b2⟩
end Go.Proofs.YtgncihoioacgjaaGreatDoor
