/- The list of a kind that holds no lists lies apart. -/
import Derived.Test.YthkbdklbnmlpkabGreatRows
import Derived.WalkKit
import Derived.WalkLawsBesides
import Derived.WalkSpells
import Derived.Below
import Derived.Outline
import Derived.Lib.Hide
import Derived.Handy
import Derived.LoopTactic
import Derived.Deep.LoopGhost
import Derived.OwnWalk
set_option maxRecDepth 100000
namespace Go.Proofs.YthkbdklbnmlpkabGreat
open Go.Instr Go.RowKit
set_option linter.unusedVariables false
set_option maxHeartbeats 1000000 in
theorem flatLimbs_nil (w : World) : Calls Tryz.prog 23 #[.slice none 0 0] w fun e w' => e = .returned (.bool true) ∧ Below w.heap.size w w' := by
  obtain ⟨i0, hi, hz0, hz1, hz2⟩ := info_parts (show (Tryz.prog.info? 128).map (fun i => (i.zero, i.size, i.bytes)) = some (some (.slice none 0 0), 1, 24) by kernel_rfl)
  go_enter Tryz.func23, Tryz.ntmps23
  go_wp2_with fail
  go_loopg [3] 0 (fun g v wr => g = 0 ∧ v = .int .i64 0 ∧ Below w.heap.size w wr)
  case atStart => exact ⟨rfl, rfl, Below.refl _ _⟩
  case round =>
    obtain ⟨_, rfl, hb0⟩ := hrel
    go_wp2_with (refine wpList_make_full _ rfl _ _ 48 rfl wr.heap.size 128 i0 _ 1 Tryz.underlying48 hi hz0 hz1 _ _ 0 0 0 rfl rfl rfl rfl (by omega) (by decide) (Nat.le_refl _) ?_; intro w1 hown hgrow; have hm : Below w.heap.size w w1 := hb0.trans ((Below.refl _ _).grown hgrow hb0.size (fun g e => by cases e)))
    go_loopg [6] 0 (fun g v wr => g = 0 ∧ v = .int .i64 0 ∧ Below w.heap.size w wr)
    case atStart => exact ⟨rfl, rfl, hm⟩
    case round =>
      obtain ⟨_, rfl, hb1⟩ := hrel
      go_wp2_with fail
      go_loopg [9] 0 (fun g v wr => g = 0 ∧ v = .int .i64 0 ∧ Below w.heap.size w wr)
      case atStart => exact ⟨rfl, rfl, hb1⟩
      case round =>
        obtain ⟨_, rfl, hb2⟩ := hrel
        go_wp2_with fail
        go_loopg [11] 0 (fun g v wr => g = 0 ∧ v = .int .i64 0 ∧ Below w.heap.size w wr)
        case atStart => exact ⟨rfl, rfl, hb2⟩
        case round =>
          obtain ⟨_, rfl, hb3⟩ := hrel
          go_wp2_with fail
          go_loopg [14] 0 (fun g v wr => g = 0 ∧ v = .int .i64 0 ∧ Below w.heap.size w wr)
          case atStart => exact ⟨rfl, rfl, hb3⟩
          case round =>
            obtain ⟨_, rfl, hb4⟩ := hrel
            go_wp2_with fail
            go_ret
            exact ⟨rfl, hb4⟩
set_option maxHeartbeats 1000000 in
theorem flatWords_nil (w : World) : Calls Tryz.prog 24 #[.slice none 0 0] w fun e w' => e = .returned (.bool true) ∧ Below w.heap.size w w' := by
  obtain ⟨i0, hi, hz0, hz1, hz2⟩ := info_parts (show (Tryz.prog.info? 131).map (fun i => (i.zero, i.size, i.bytes)) = some (some (.slice none 0 0), 1, 24) by kernel_rfl)
  go_enter Tryz.func24, Tryz.ntmps24
  go_wp2_with fail
  go_loopg [3] 0 (fun g v wr => g = 0 ∧ v = .int .i64 0 ∧ Below w.heap.size w wr)
  case atStart => exact ⟨rfl, rfl, Below.refl _ _⟩
  case round =>
    obtain ⟨_, rfl, hb0⟩ := hrel
    go_wp2_with (refine wpList_make_full _ rfl _ _ 49 rfl wr.heap.size 131 i0 _ 1 Tryz.underlying49 hi hz0 hz1 _ _ 0 0 0 rfl rfl rfl rfl (by omega) (by decide) (Nat.le_refl _) ?_; intro w1 hown hgrow; have hm : Below w.heap.size w w1 := hb0.trans ((Below.refl _ _).grown hgrow hb0.size (fun g e => by cases e)))
    go_loopg [6] 0 (fun g v wr => g = 0 ∧ v = .int .i64 0 ∧ Below w.heap.size w wr)
    case atStart => exact ⟨rfl, rfl, hm⟩
    case round =>
      obtain ⟨_, rfl, hb1⟩ := hrel
      go_wp2_with fail
      go_loopg [9] 0 (fun g v wr => g = 0 ∧ v = .int .i64 0 ∧ Below w.heap.size w wr)
      case atStart => exact ⟨rfl, rfl, hb1⟩
      case round =>
        obtain ⟨_, rfl, hb2⟩ := hrel
        go_wp2_with fail
        go_loopg [11] 0 (fun g v wr => g = 0 ∧ v = .int .i64 0 ∧ Below w.heap.size w wr)
        case atStart => exact ⟨rfl, rfl, hb2⟩
        case round =>
          obtain ⟨_, rfl, hb3⟩ := hrel
          go_wp2_with fail
          go_loopg [14] 0 (fun g v wr => g = 0 ∧ v = .int .i64 0 ∧ Below w.heap.size w wr)
          case atStart => exact ⟨rfl, rfl, hb3⟩
          case round =>
            obtain ⟨_, rfl, hb4⟩ := hrel
            go_wp2_with fail
            go_ret
            exact ⟨rfl, hb4⟩
set_option maxHeartbeats 1000000 in
theorem flatInts_nil (w : World) : Calls Tryz.prog 25 #[.slice none 0 0] w fun e w' => e = .returned (.bool true) ∧ Below w.heap.size w w' := by
  obtain ⟨i0, hi, hz0, hz1, hz2⟩ := info_parts (show (Tryz.prog.info? 133).map (fun i => (i.zero, i.size, i.bytes)) = some (some (.slice none 0 0), 1, 24) by kernel_rfl)
  go_enter Tryz.func25, Tryz.ntmps25
  go_wp2_with fail
  go_loopg [3] 0 (fun g v wr => g = 0 ∧ v = .int .i64 0 ∧ Below w.heap.size w wr)
  case atStart => exact ⟨rfl, rfl, Below.refl _ _⟩
  case round =>
    obtain ⟨_, rfl, hb0⟩ := hrel
    go_wp2_with (refine wpList_make_full _ rfl _ _ 50 rfl wr.heap.size 133 i0 _ 1 Tryz.underlying50 hi hz0 hz1 _ _ 0 0 0 rfl rfl rfl rfl (by omega) (by decide) (Nat.le_refl _) ?_; intro w1 hown hgrow; have hm : Below w.heap.size w w1 := hb0.trans ((Below.refl _ _).grown hgrow hb0.size (fun g e => by cases e)))
    go_loopg [6] 0 (fun g v wr => g = 0 ∧ v = .int .i64 0 ∧ Below w.heap.size w wr)
    case atStart => exact ⟨rfl, rfl, hm⟩
    case round =>
      obtain ⟨_, rfl, hb1⟩ := hrel
      go_wp2_with fail
      go_loopg [9] 0 (fun g v wr => g = 0 ∧ v = .int .i64 0 ∧ Below w.heap.size w wr)
      case atStart => exact ⟨rfl, rfl, hb1⟩
      case round =>
        obtain ⟨_, rfl, hb2⟩ := hrel
        go_wp2_with fail
        go_loopg [11] 0 (fun g v wr => g = 0 ∧ v = .int .i64 0 ∧ Below w.heap.size w wr)
        case atStart => exact ⟨rfl, rfl, hb2⟩
        case round =>
          obtain ⟨_, rfl, hb3⟩ := hrel
          go_wp2_with fail
          go_loopg [14] 0 (fun g v wr => g = 0 ∧ v = .int .i64 0 ∧ Below w.heap.size w wr)
          case atStart => exact ⟨rfl, rfl, hb3⟩
          case round =>
            obtain ⟨_, rfl, hb4⟩ := hrel
            go_wp2_with fail
            go_ret
            exact ⟨rfl, hb4⟩
set_option maxHeartbeats 1000000 in
theorem flatLongs_nil (w : World) : Calls Tryz.prog 26 #[.slice none 0 0] w fun e w' => e = .returned (.bool true) ∧ Below w.heap.size w w' := by
  obtain ⟨i0, hi, hz0, hz1, hz2⟩ := info_parts (show (Tryz.prog.info? 134).map (fun i => (i.zero, i.size, i.bytes)) = some (some (.slice none 0 0), 1, 24) by kernel_rfl)
  go_enter Tryz.func26, Tryz.ntmps26
  go_wp2_with fail
  go_loopg [3] 0 (fun g v wr => g = 0 ∧ v = .int .i64 0 ∧ Below w.heap.size w wr)
  case atStart => exact ⟨rfl, rfl, Below.refl _ _⟩
  case round =>
    obtain ⟨_, rfl, hb0⟩ := hrel
    go_wp2_with (refine wpList_make_full _ rfl _ _ 51 rfl wr.heap.size 134 i0 _ 1 Tryz.underlying51 hi hz0 hz1 _ _ 0 0 0 rfl rfl rfl rfl (by omega) (by decide) (Nat.le_refl _) ?_; intro w1 hown hgrow; have hm : Below w.heap.size w w1 := hb0.trans ((Below.refl _ _).grown hgrow hb0.size (fun g e => by cases e)))
    go_loopg [6] 0 (fun g v wr => g = 0 ∧ v = .int .i64 0 ∧ Below w.heap.size w wr)
    case atStart => exact ⟨rfl, rfl, hm⟩
    case round =>
      obtain ⟨_, rfl, hb1⟩ := hrel
      go_wp2_with fail
      go_loopg [9] 0 (fun g v wr => g = 0 ∧ v = .int .i64 0 ∧ Below w.heap.size w wr)
      case atStart => exact ⟨rfl, rfl, hb1⟩
      case round =>
        obtain ⟨_, rfl, hb2⟩ := hrel
        go_wp2_with fail
        go_loopg [11] 0 (fun g v wr => g = 0 ∧ v = .int .i64 0 ∧ Below w.heap.size w wr)
        case atStart => exact ⟨rfl, rfl, hb2⟩
        case round =>
          obtain ⟨_, rfl, hb3⟩ := hrel
          go_wp2_with fail
          go_loopg [14] 0 (fun g v wr => g = 0 ∧ v = .int .i64 0 ∧ Below w.heap.size w wr)
          case atStart => exact ⟨rfl, rfl, hb3⟩
          case round =>
            obtain ⟨_, rfl, hb4⟩ := hrel
            go_wp2_with fail
            go_ret
            exact ⟨rfl, hb4⟩
set_option maxHeartbeats 1000000 in
theorem flatBytes_nil (w : World) : Calls Tryz.prog 28 #[.slice none 0 0] w fun e w' => e = .returned (.bool true) ∧ Below w.heap.size w w' := by
  obtain ⟨i0, hi, hz0, hz1, hz2⟩ := info_parts (show (Tryz.prog.info? 35).map (fun i => (i.zero, i.size, i.bytes)) = some (some (.slice none 0 0), 1, 24) by kernel_rfl)
  go_enter Tryz.func28, Tryz.ntmps28
  go_wp2_with fail
  go_loopg [3] 0 (fun g v wr => g = 0 ∧ v = .int .i64 0 ∧ Below w.heap.size w wr)
  case atStart => exact ⟨rfl, rfl, Below.refl _ _⟩
  case round =>
    obtain ⟨_, rfl, hb0⟩ := hrel
    go_wp2_with (refine wpList_make_full _ rfl _ _ 52 rfl wr.heap.size 35 i0 _ 1 Tryz.underlying52 hi hz0 hz1 _ _ 0 0 0 rfl rfl rfl rfl (by omega) (by decide) (Nat.le_refl _) ?_; intro w1 hown hgrow; have hm : Below w.heap.size w w1 := hb0.trans ((Below.refl _ _).grown hgrow hb0.size (fun g e => by cases e)))
    go_loopg [6] 0 (fun g v wr => g = 0 ∧ v = .int .i64 0 ∧ Below w.heap.size w wr)
    case atStart => exact ⟨rfl, rfl, hm⟩
    case round =>
      obtain ⟨_, rfl, hb1⟩ := hrel
      go_wp2_with fail
      go_loopg [9] 0 (fun g v wr => g = 0 ∧ v = .int .i64 0 ∧ Below w.heap.size w wr)
      case atStart => exact ⟨rfl, rfl, hb1⟩
      case round =>
        obtain ⟨_, rfl, hb2⟩ := hrel
        go_wp2_with fail
        go_loopg [11] 0 (fun g v wr => g = 0 ∧ v = .int .i64 0 ∧ Below w.heap.size w wr)
        case atStart => exact ⟨rfl, rfl, hb2⟩
        case round =>
          obtain ⟨_, rfl, hb3⟩ := hrel
          go_wp2_with fail
          go_loopg [14] 0 (fun g v wr => g = 0 ∧ v = .int .i64 0 ∧ Below w.heap.size w wr)
          case atStart => exact ⟨rfl, rfl, hb3⟩
          case round =>
            obtain ⟨_, rfl, hb4⟩ := hrel
            go_wp2_with fail
            go_ret
            exact ⟨rfl, hb4⟩
set_option maxHeartbeats 1000000 in
theorem flatTokens_nil (w : World) : Calls Tryz.prog 29 #[.slice none 0 0] w fun e w' => e = .returned (.bool true) ∧ Below w.heap.size w w' := by
  obtain ⟨i0, hi, hz0, hz1, hz2⟩ := info_parts (show (Tryz.prog.info? 81).map (fun i => (i.zero, i.size, i.bytes)) = some (some (.slice none 0 0), 1, 24) by kernel_rfl)
  go_enter Tryz.func29, Tryz.ntmps29
  go_wp2_with fail
  go_loopg [3] 0 (fun g v wr => g = 0 ∧ v = .int .i64 0 ∧ Below w.heap.size w wr)
  case atStart => exact ⟨rfl, rfl, Below.refl _ _⟩
  case round =>
    obtain ⟨_, rfl, hb0⟩ := hrel
    go_wp2_with (refine wpList_make_full _ rfl _ _ 53 rfl wr.heap.size 81 i0 _ 1 Tryz.underlying53 hi hz0 hz1 _ _ 0 0 0 rfl rfl rfl rfl (by omega) (by decide) (Nat.le_refl _) ?_; intro w1 hown hgrow; have hm : Below w.heap.size w w1 := hb0.trans ((Below.refl _ _).grown hgrow hb0.size (fun g e => by cases e)))
    go_loopg [6] 0 (fun g v wr => g = 0 ∧ v = .int .i64 0 ∧ Below w.heap.size w wr)
    case atStart => exact ⟨rfl, rfl, hm⟩
    case round =>
      obtain ⟨_, rfl, hb1⟩ := hrel
      go_wp2_with fail
      go_loopg [9] 0 (fun g v wr => g = 0 ∧ v = .int .i64 0 ∧ Below w.heap.size w wr)
      case atStart => exact ⟨rfl, rfl, hb1⟩
      case round =>
        obtain ⟨_, rfl, hb2⟩ := hrel
        go_wp2_with fail
        go_loopg [11] 0 (fun g v wr => g = 0 ∧ v = .int .i64 0 ∧ Below w.heap.size w wr)
        case atStart => exact ⟨rfl, rfl, hb2⟩
        case round =>
          obtain ⟨_, rfl, hb3⟩ := hrel
          go_wp2_with fail
          go_loopg [14] 0 (fun g v wr => g = 0 ∧ v = .int .i64 0 ∧ Below w.heap.size w wr)
          case atStart => exact ⟨rfl, rfl, hb3⟩
          case round =>
            obtain ⟨_, rfl, hb4⟩ := hrel
            go_wp2_with fail
            go_ret
            exact ⟨rfl, hb4⟩
set_option maxHeartbeats 1000000 in
theorem flatFaults_nil (w : World) : Calls Tryz.prog 30 #[.slice none 0 0] w fun e w' => e = .returned (.bool true) ∧ Below w.heap.size w w' := by
  obtain ⟨i0, hi, hz0, hz1, hz2⟩ := info_parts (show (Tryz.prog.info? 138).map (fun i => (i.zero, i.size, i.bytes)) = some (some (.slice none 0 0), 1, 24) by kernel_rfl)
  go_enter Tryz.func30, Tryz.ntmps30
  go_wp2_with fail
  go_loopg [3] 0 (fun g v wr => g = 0 ∧ v = .int .i64 0 ∧ Below w.heap.size w wr)
  case atStart => exact ⟨rfl, rfl, Below.refl _ _⟩
  case round =>
    obtain ⟨_, rfl, hb0⟩ := hrel
    go_wp2_with (refine wpList_make_full _ rfl _ _ 54 rfl wr.heap.size 138 i0 _ 1 Tryz.underlying54 hi hz0 hz1 _ _ 0 0 0 rfl rfl rfl rfl (by omega) (by decide) (Nat.le_refl _) ?_; intro w1 hown hgrow; have hm : Below w.heap.size w w1 := hb0.trans ((Below.refl _ _).grown hgrow hb0.size (fun g e => by cases e)))
    go_loopg [6] 0 (fun g v wr => g = 0 ∧ v = .int .i64 0 ∧ Below w.heap.size w wr)
    case atStart => exact ⟨rfl, rfl, hm⟩
    case round =>
      obtain ⟨_, rfl, hb1⟩ := hrel
      go_wp2_with fail
      go_loopg [9] 0 (fun g v wr => g = 0 ∧ v = .int .i64 0 ∧ Below w.heap.size w wr)
      case atStart => exact ⟨rfl, rfl, hb1⟩
      case round =>
        obtain ⟨_, rfl, hb2⟩ := hrel
        go_wp2_with fail
        go_loopg [11] 0 (fun g v wr => g = 0 ∧ v = .int .i64 0 ∧ Below w.heap.size w wr)
        case atStart => exact ⟨rfl, rfl, hb2⟩
        case round =>
          obtain ⟨_, rfl, hb3⟩ := hrel
          go_wp2_with fail
          go_loopg [14] 0 (fun g v wr => g = 0 ∧ v = .int .i64 0 ∧ Below w.heap.size w wr)
          case atStart => exact ⟨rfl, rfl, hb3⟩
          case round =>
            obtain ⟨_, rfl, hb4⟩ := hrel
            go_wp2_with fail
            go_ret
            exact ⟨rfl, hb4⟩
set_option maxHeartbeats 1000000 in
theorem flatNodes_nil (w : World) : Calls Tryz.prog 31 #[.slice none 0 0] w fun e w' => e = .returned (.bool true) ∧ Below w.heap.size w w' := by
  obtain ⟨i0, hi, hz0, hz1, hz2⟩ := info_parts (show (Tryz.prog.info? 140).map (fun i => (i.zero, i.size, i.bytes)) = some (some (.slice none 0 0), 1, 24) by kernel_rfl)
  go_enter Tryz.func31, Tryz.ntmps31
  go_wp2_with fail
  go_loopg [3] 0 (fun g v wr => g = 0 ∧ v = .int .i64 0 ∧ Below w.heap.size w wr)
  case atStart => exact ⟨rfl, rfl, Below.refl _ _⟩
  case round =>
    obtain ⟨_, rfl, hb0⟩ := hrel
    go_wp2_with (refine wpList_make_full _ rfl _ _ 55 rfl wr.heap.size 140 i0 _ 1 Tryz.underlying55 hi hz0 hz1 _ _ 0 0 0 rfl rfl rfl rfl (by omega) (by decide) (Nat.le_refl _) ?_; intro w1 hown hgrow; have hm : Below w.heap.size w w1 := hb0.trans ((Below.refl _ _).grown hgrow hb0.size (fun g e => by cases e)))
    go_loopg [6] 0 (fun g v wr => g = 0 ∧ v = .int .i64 0 ∧ Below w.heap.size w wr)
    case atStart => exact ⟨rfl, rfl, hm⟩
    case round =>
      obtain ⟨_, rfl, hb1⟩ := hrel
      go_wp2_with fail
      go_loopg [9] 0 (fun g v wr => g = 0 ∧ v = .int .i64 0 ∧ Below w.heap.size w wr)
      case atStart => exact ⟨rfl, rfl, hb1⟩
      case round =>
        obtain ⟨_, rfl, hb2⟩ := hrel
        go_wp2_with fail
        go_loopg [11] 0 (fun g v wr => g = 0 ∧ v = .int .i64 0 ∧ Below w.heap.size w wr)
        case atStart => exact ⟨rfl, rfl, hb2⟩
        case round =>
          obtain ⟨_, rfl, hb3⟩ := hrel
          go_wp2_with fail
          go_loopg [14] 0 (fun g v wr => g = 0 ∧ v = .int .i64 0 ∧ Below w.heap.size w wr)
          case atStart => exact ⟨rfl, rfl, hb3⟩
          case round =>
            obtain ⟨_, rfl, hb4⟩ := hrel
            go_wp2_with fail
            go_ret
            exact ⟨rfl, hb4⟩
set_option maxHeartbeats 1000000 in
theorem flatTypes_nil (w : World) : Calls Tryz.prog 32 #[.slice none 0 0] w fun e w' => e = .returned (.bool true) ∧ Below w.heap.size w w' := by
  obtain ⟨i0, hi, hz0, hz1, hz2⟩ := info_parts (show (Tryz.prog.info? 146).map (fun i => (i.zero, i.size, i.bytes)) = some (some (.slice none 0 0), 1, 24) by kernel_rfl)
  go_enter Tryz.func32, Tryz.ntmps32
  go_wp2_with fail
  go_loopg [3] 0 (fun g v wr => g = 0 ∧ v = .int .i64 0 ∧ Below w.heap.size w wr)
  case atStart => exact ⟨rfl, rfl, Below.refl _ _⟩
  case round =>
    obtain ⟨_, rfl, hb0⟩ := hrel
    go_wp2_with (refine wpList_make_full _ rfl _ _ 56 rfl wr.heap.size 146 i0 _ 1 Tryz.underlying56 hi hz0 hz1 _ _ 0 0 0 rfl rfl rfl rfl (by omega) (by decide) (Nat.le_refl _) ?_; intro w1 hown hgrow; have hm : Below w.heap.size w w1 := hb0.trans ((Below.refl _ _).grown hgrow hb0.size (fun g e => by cases e)))
    go_loopg [6] 0 (fun g v wr => g = 0 ∧ v = .int .i64 0 ∧ Below w.heap.size w wr)
    case atStart => exact ⟨rfl, rfl, hm⟩
    case round =>
      obtain ⟨_, rfl, hb1⟩ := hrel
      go_wp2_with fail
      go_loopg [9] 0 (fun g v wr => g = 0 ∧ v = .int .i64 0 ∧ Below w.heap.size w wr)
      case atStart => exact ⟨rfl, rfl, hb1⟩
      case round =>
        obtain ⟨_, rfl, hb2⟩ := hrel
        go_wp2_with fail
        go_loopg [11] 0 (fun g v wr => g = 0 ∧ v = .int .i64 0 ∧ Below w.heap.size w wr)
        case atStart => exact ⟨rfl, rfl, hb2⟩
        case round =>
          obtain ⟨_, rfl, hb3⟩ := hrel
          go_wp2_with fail
          go_loopg [14] 0 (fun g v wr => g = 0 ∧ v = .int .i64 0 ∧ Below w.heap.size w wr)
          case atStart => exact ⟨rfl, rfl, hb3⟩
          case round =>
            obtain ⟨_, rfl, hb4⟩ := hrel
            go_wp2_with fail
            go_ret
            exact ⟨rfl, hb4⟩
set_option maxHeartbeats 1000000 in
theorem flatValues_nil (w : World) : Calls Tryz.prog 33 #[.slice none 0 0] w fun e w' => e = .returned (.bool true) ∧ Below w.heap.size w w' := by
  obtain ⟨i0, hi, hz0, hz1, hz2⟩ := info_parts (show (Tryz.prog.info? 152).map (fun i => (i.zero, i.size, i.bytes)) = some (some (.slice none 0 0), 1, 24) by kernel_rfl)
  go_enter Tryz.func33, Tryz.ntmps33
  go_wp2_with fail
  go_loopg [3] 0 (fun g v wr => g = 0 ∧ v = .int .i64 0 ∧ Below w.heap.size w wr)
  case atStart => exact ⟨rfl, rfl, Below.refl _ _⟩
  case round =>
    obtain ⟨_, rfl, hb0⟩ := hrel
    go_wp2_with (refine wpList_make_full _ rfl _ _ 57 rfl wr.heap.size 152 i0 _ 1 Tryz.underlying57 hi hz0 hz1 _ _ 0 0 0 rfl rfl rfl rfl (by omega) (by decide) (Nat.le_refl _) ?_; intro w1 hown hgrow; have hm : Below w.heap.size w w1 := hb0.trans ((Below.refl _ _).grown hgrow hb0.size (fun g e => by cases e)))
    go_loopg [6] 0 (fun g v wr => g = 0 ∧ v = .int .i64 0 ∧ Below w.heap.size w wr)
    case atStart => exact ⟨rfl, rfl, hm⟩
    case round =>
      obtain ⟨_, rfl, hb1⟩ := hrel
      go_wp2_with fail
      go_loopg [9] 0 (fun g v wr => g = 0 ∧ v = .int .i64 0 ∧ Below w.heap.size w wr)
      case atStart => exact ⟨rfl, rfl, hb1⟩
      case round =>
        obtain ⟨_, rfl, hb2⟩ := hrel
        go_wp2_with fail
        go_loopg [11] 0 (fun g v wr => g = 0 ∧ v = .int .i64 0 ∧ Below w.heap.size w wr)
        case atStart => exact ⟨rfl, rfl, hb2⟩
        case round =>
          obtain ⟨_, rfl, hb3⟩ := hrel
          go_wp2_with fail
          go_loopg [14] 0 (fun g v wr => g = 0 ∧ v = .int .i64 0 ∧ Below w.heap.size w wr)
          case atStart => exact ⟨rfl, rfl, hb3⟩
          case round =>
            obtain ⟨_, rfl, hb4⟩ := hrel
            go_wp2_with fail
            go_ret
            exact ⟨rfl, hb4⟩
set_option maxHeartbeats 1000000 in
theorem flatOutcomes_nil (w : World) : Calls Tryz.prog 34 #[.slice none 0 0] w fun e w' => e = .returned (.bool true) ∧ Below w.heap.size w w' := by
  obtain ⟨i0, hi, hz0, hz1, hz2⟩ := info_parts (show (Tryz.prog.info? 157).map (fun i => (i.zero, i.size, i.bytes)) = some (some (.slice none 0 0), 1, 24) by kernel_rfl)
  go_enter Tryz.func34, Tryz.ntmps34
  go_wp2_with fail
  go_loopg [3] 0 (fun g v wr => g = 0 ∧ v = .int .i64 0 ∧ Below w.heap.size w wr)
  case atStart => exact ⟨rfl, rfl, Below.refl _ _⟩
  case round =>
    obtain ⟨_, rfl, hb0⟩ := hrel
    go_wp2_with (refine wpList_make_full _ rfl _ _ 58 rfl wr.heap.size 157 i0 _ 1 Tryz.underlying58 hi hz0 hz1 _ _ 0 0 0 rfl rfl rfl rfl (by omega) (by decide) (Nat.le_refl _) ?_; intro w1 hown hgrow; have hm : Below w.heap.size w w1 := hb0.trans ((Below.refl _ _).grown hgrow hb0.size (fun g e => by cases e)))
    go_loopg [6] 0 (fun g v wr => g = 0 ∧ v = .int .i64 0 ∧ Below w.heap.size w wr)
    case atStart => exact ⟨rfl, rfl, hm⟩
    case round =>
      obtain ⟨_, rfl, hb1⟩ := hrel
      go_wp2_with fail
      go_loopg [9] 0 (fun g v wr => g = 0 ∧ v = .int .i64 0 ∧ Below w.heap.size w wr)
      case atStart => exact ⟨rfl, rfl, hb1⟩
      case round =>
        obtain ⟨_, rfl, hb2⟩ := hrel
        go_wp2_with fail
        go_loopg [11] 0 (fun g v wr => g = 0 ∧ v = .int .i64 0 ∧ Below w.heap.size w wr)
        case atStart => exact ⟨rfl, rfl, hb2⟩
        case round =>
          obtain ⟨_, rfl, hb3⟩ := hrel
          go_wp2_with fail
          go_loopg [14] 0 (fun g v wr => g = 0 ∧ v = .int .i64 0 ∧ Below w.heap.size w wr)
          case atStart => exact ⟨rfl, rfl, hb3⟩
          case round =>
            obtain ⟨_, rfl, hb4⟩ := hrel
            go_wp2_with fail
            go_ret
            exact ⟨rfl, hb4⟩
set_option maxHeartbeats 1000000 in
theorem flatWordRow_nil (w : World) : Calls Tryz.prog 35 #[.slice none 0 0] w fun e w' => e = .returned (.bool true) ∧ Below w.heap.size w w' := by
  obtain ⟨i0, hi, hz0, hz1, hz2⟩ := info_parts (show (Tryz.prog.info? 162).map (fun i => (i.zero, i.size, i.bytes)) = some (some (.slice none 0 0), 1, 24) by kernel_rfl)
  go_enter Tryz.func35, Tryz.ntmps35
  go_wp2_with fail
  go_loopg [3] 0 (fun g v wr => g = 0 ∧ v = .int .i64 0 ∧ Below w.heap.size w wr)
  case atStart => exact ⟨rfl, rfl, Below.refl _ _⟩
  case round =>
    obtain ⟨_, rfl, hb0⟩ := hrel
    go_wp2_with (refine wpList_make_full _ rfl _ _ 59 rfl wr.heap.size 162 i0 _ 1 Tryz.underlying59 hi hz0 hz1 _ _ 0 0 0 rfl rfl rfl rfl (by omega) (by decide) (Nat.le_refl _) ?_; intro w1 hown hgrow; have hm : Below w.heap.size w w1 := hb0.trans ((Below.refl _ _).grown hgrow hb0.size (fun g e => by cases e)))
    go_loopg [6] 0 (fun g v wr => g = 0 ∧ v = .int .i64 0 ∧ Below w.heap.size w wr)
    case atStart => exact ⟨rfl, rfl, hm⟩
    case round =>
      obtain ⟨_, rfl, hb1⟩ := hrel
      go_wp2_with fail
      go_loopg [9] 0 (fun g v wr => g = 0 ∧ v = .int .i64 0 ∧ Below w.heap.size w wr)
      case atStart => exact ⟨rfl, rfl, hb1⟩
      case round =>
        obtain ⟨_, rfl, hb2⟩ := hrel
        go_wp2_with fail
        go_loopg [11] 0 (fun g v wr => g = 0 ∧ v = .int .i64 0 ∧ Below w.heap.size w wr)
        case atStart => exact ⟨rfl, rfl, hb2⟩
        case round =>
          obtain ⟨_, rfl, hb3⟩ := hrel
          go_wp2_with fail
          go_loopg [14] 0 (fun g v wr => g = 0 ∧ v = .int .i64 0 ∧ Below w.heap.size w wr)
          case atStart => exact ⟨rfl, rfl, hb3⟩
          case round =>
            obtain ⟨_, rfl, hb4⟩ := hrel
            go_wp2_with fail
            go_ret
            exact ⟨rfl, hb4⟩
set_option maxHeartbeats 1000000 in
theorem flatAlts_nil (w : World) : Calls Tryz.prog 36 #[.slice none 0 0] w fun e w' => e = .returned (.bool true) ∧ Below w.heap.size w w' := by
  obtain ⟨i0, hi, hz0, hz1, hz2⟩ := info_parts (show (Tryz.prog.info? 167).map (fun i => (i.zero, i.size, i.bytes)) = some (some (.slice none 0 0), 1, 24) by kernel_rfl)
  go_enter Tryz.func36, Tryz.ntmps36
  go_wp2_with fail
  go_loopg [3] 0 (fun g v wr => g = 0 ∧ v = .int .i64 0 ∧ Below w.heap.size w wr)
  case atStart => exact ⟨rfl, rfl, Below.refl _ _⟩
  case round =>
    obtain ⟨_, rfl, hb0⟩ := hrel
    go_wp2_with (refine wpList_make_full _ rfl _ _ 60 rfl wr.heap.size 167 i0 _ 1 Tryz.underlying60 hi hz0 hz1 _ _ 0 0 0 rfl rfl rfl rfl (by omega) (by decide) (Nat.le_refl _) ?_; intro w1 hown hgrow; have hm : Below w.heap.size w w1 := hb0.trans ((Below.refl _ _).grown hgrow hb0.size (fun g e => by cases e)))
    go_loopg [6] 0 (fun g v wr => g = 0 ∧ v = .int .i64 0 ∧ Below w.heap.size w wr)
    case atStart => exact ⟨rfl, rfl, hm⟩
    case round =>
      obtain ⟨_, rfl, hb1⟩ := hrel
      go_wp2_with fail
      go_loopg [9] 0 (fun g v wr => g = 0 ∧ v = .int .i64 0 ∧ Below w.heap.size w wr)
      case atStart => exact ⟨rfl, rfl, hb1⟩
      case round =>
        obtain ⟨_, rfl, hb2⟩ := hrel
        go_wp2_with fail
        go_loopg [11] 0 (fun g v wr => g = 0 ∧ v = .int .i64 0 ∧ Below w.heap.size w wr)
        case atStart => exact ⟨rfl, rfl, hb2⟩
        case round =>
          obtain ⟨_, rfl, hb3⟩ := hrel
          go_wp2_with fail
          go_loopg [14] 0 (fun g v wr => g = 0 ∧ v = .int .i64 0 ∧ Below w.heap.size w wr)
          case atStart => exact ⟨rfl, rfl, hb3⟩
          case round =>
            obtain ⟨_, rfl, hb4⟩ := hrel
            go_wp2_with fail
            go_ret
            exact ⟨rfl, hb4⟩
set_option maxHeartbeats 1000000 in
theorem flatRules_nil (w : World) : Calls Tryz.prog 37 #[.slice none 0 0] w fun e w' => e = .returned (.bool true) ∧ Below w.heap.size w w' := by
  obtain ⟨i0, hi, hz0, hz1, hz2⟩ := info_parts (show (Tryz.prog.info? 172).map (fun i => (i.zero, i.size, i.bytes)) = some (some (.slice none 0 0), 1, 24) by kernel_rfl)
  go_enter Tryz.func37, Tryz.ntmps37
  go_wp2_with fail
  go_loopg [3] 0 (fun g v wr => g = 0 ∧ v = .int .i64 0 ∧ Below w.heap.size w wr)
  case atStart => exact ⟨rfl, rfl, Below.refl _ _⟩
  case round =>
    obtain ⟨_, rfl, hb0⟩ := hrel
    go_wp2_with (refine wpList_make_full _ rfl _ _ 61 rfl wr.heap.size 172 i0 _ 1 Tryz.underlying61 hi hz0 hz1 _ _ 0 0 0 rfl rfl rfl rfl (by omega) (by decide) (Nat.le_refl _) ?_; intro w1 hown hgrow; have hm : Below w.heap.size w w1 := hb0.trans ((Below.refl _ _).grown hgrow hb0.size (fun g e => by cases e)))
    go_loopg [6] 0 (fun g v wr => g = 0 ∧ v = .int .i64 0 ∧ Below w.heap.size w wr)
    case atStart => exact ⟨rfl, rfl, hm⟩
    case round =>
      obtain ⟨_, rfl, hb1⟩ := hrel
      go_wp2_with fail
      go_loopg [9] 0 (fun g v wr => g = 0 ∧ v = .int .i64 0 ∧ Below w.heap.size w wr)
      case atStart => exact ⟨rfl, rfl, hb1⟩
      case round =>
        obtain ⟨_, rfl, hb2⟩ := hrel
        go_wp2_with fail
        go_loopg [11] 0 (fun g v wr => g = 0 ∧ v = .int .i64 0 ∧ Below w.heap.size w wr)
        case atStart => exact ⟨rfl, rfl, hb2⟩
        case round =>
          obtain ⟨_, rfl, hb3⟩ := hrel
          go_wp2_with fail
          go_loopg [14] 0 (fun g v wr => g = 0 ∧ v = .int .i64 0 ∧ Below w.heap.size w wr)
          case atStart => exact ⟨rfl, rfl, hb3⟩
          case round =>
            obtain ⟨_, rfl, hb4⟩ := hrel
            go_wp2_with fail
            go_ret
            exact ⟨rfl, hb4⟩
set_option maxHeartbeats 1000000 in
theorem flatDecls_nil (w : World) : Calls Tryz.prog 38 #[.slice none 0 0] w fun e w' => e = .returned (.bool true) ∧ Below w.heap.size w w' := by
  obtain ⟨i0, hi, hz0, hz1, hz2⟩ := info_parts (show (Tryz.prog.info? 177).map (fun i => (i.zero, i.size, i.bytes)) = some (some (.slice none 0 0), 1, 24) by kernel_rfl)
  go_enter Tryz.func38, Tryz.ntmps38
  go_wp2_with fail
  go_loopg [3] 0 (fun g v wr => g = 0 ∧ v = .int .i64 0 ∧ Below w.heap.size w wr)
  case atStart => exact ⟨rfl, rfl, Below.refl _ _⟩
  case round =>
    obtain ⟨_, rfl, hb0⟩ := hrel
    go_wp2_with (refine wpList_make_full _ rfl _ _ 62 rfl wr.heap.size 177 i0 _ 1 Tryz.underlying62 hi hz0 hz1 _ _ 0 0 0 rfl rfl rfl rfl (by omega) (by decide) (Nat.le_refl _) ?_; intro w1 hown hgrow; have hm : Below w.heap.size w w1 := hb0.trans ((Below.refl _ _).grown hgrow hb0.size (fun g e => by cases e)))
    go_loopg [6] 0 (fun g v wr => g = 0 ∧ v = .int .i64 0 ∧ Below w.heap.size w wr)
    case atStart => exact ⟨rfl, rfl, hm⟩
    case round =>
      obtain ⟨_, rfl, hb1⟩ := hrel
      go_wp2_with fail
      go_loopg [9] 0 (fun g v wr => g = 0 ∧ v = .int .i64 0 ∧ Below w.heap.size w wr)
      case atStart => exact ⟨rfl, rfl, hb1⟩
      case round =>
        obtain ⟨_, rfl, hb2⟩ := hrel
        go_wp2_with fail
        go_loopg [11] 0 (fun g v wr => g = 0 ∧ v = .int .i64 0 ∧ Below w.heap.size w wr)
        case atStart => exact ⟨rfl, rfl, hb2⟩
        case round =>
          obtain ⟨_, rfl, hb3⟩ := hrel
          go_wp2_with fail
          go_loopg [14] 0 (fun g v wr => g = 0 ∧ v = .int .i64 0 ∧ Below w.heap.size w wr)
          case atStart => exact ⟨rfl, rfl, hb3⟩
          case round =>
            obtain ⟨_, rfl, hb4⟩ := hrel
            go_wp2_with fail
            go_ret
            exact ⟨rfl, hb4⟩
end Go.Proofs.YthkbdklbnmlpkabGreat
