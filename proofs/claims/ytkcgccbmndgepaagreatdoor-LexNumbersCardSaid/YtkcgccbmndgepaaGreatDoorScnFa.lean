/- The list of a kind that holds no lists lies apart. -/
import Derived.Test.YtkcgccbmndgepaaGreatDoorRows
import Derived.WalkKit
import Derived.WalkLawsBesides
import Derived.WalkSpells
import Derived.Below
import Derived.Outline
import Derived.Lib.Hide
import Derived.Handy
import Derived.LoopTactic
import Derived.Deep.LoopGhost
import Derived.OwnWalk
set_option maxRecDepth 100000
namespace Go.Proofs.YtkcgccbmndgepaaGreatDoor
open Go.Instr Go.RowKit
set_option linter.unusedVariables false
set_option maxHeartbeats 1000000 in
theorem flatLimbs_nil (w : World) : Calls Tryz.prog 54 #[.slice none 0 0] w fun e w' => e = .returned (.bool true) ∧ Below w.heap.size w w' := by
  obtain ⟨i0, hi, hz0, hz1, hz2⟩ := info_parts (show (Tryz.prog.info? 164).map (fun i => (i.zero, i.size, i.bytes)) = some (some (.slice none 0 0), 1, 24) by kernel_rfl)
  go_enter Tryz.func54, Tryz.ntmps54
  go_wp2_with fail
  go_loopg [3] 0 (fun g v wr => g = 0 ∧ v = .int .i64 0 ∧ Below w.heap.size w wr)
  case atStart => exact ⟨rfl, rfl, Below.refl _ _⟩
  case round =>
    obtain ⟨_, rfl, hb0⟩ := hrel
    go_wp2_with (refine wpList_make_full _ rfl _ _ 71 rfl wr.heap.size 164 i0 _ 1 Tryz.underlying71 hi hz0 hz1 _ _ 0 0 0 rfl rfl rfl rfl (by omega) (by decide) (Nat.le_refl _) ?_; intro w1 hown hgrow; have hm : Below w.heap.size w w1 := hb0.trans ((Below.refl _ _).grown hgrow hb0.size (fun g e => by cases e)))
    go_loopg [6] 0 (fun g v wr => g = 0 ∧ v = .int .i64 0 ∧ Below w.heap.size w wr)
    case atStart => exact ⟨rfl, rfl, hm⟩
    case round =>
      obtain ⟨_, rfl, hb1⟩ := hrel
      go_wp2_with fail
      go_loopg [9] 0 (fun g v wr => g = 0 ∧ v = .int .i64 0 ∧ Below w.heap.size w wr)
      case atStart => exact ⟨rfl, rfl, hb1⟩
      case round =>
        obtain ⟨_, rfl, hb2⟩ := hrel
        go_wp2_with fail
        go_loopg [11] 0 (fun g v wr => g = 0 ∧ v = .int .i64 0 ∧ Below w.heap.size w wr)
        case atStart => exact ⟨rfl, rfl, hb2⟩
        case round =>
          obtain ⟨_, rfl, hb3⟩ := hrel
          go_wp2_with fail
          go_loopg [14] 0 (fun g v wr => g = 0 ∧ v = .int .i64 0 ∧ Below w.heap.size w wr)
          case atStart => exact ⟨rfl, rfl, hb3⟩
          case round =>
            obtain ⟨_, rfl, hb4⟩ := hrel
            go_wp2_with fail
            go_ret
            exact ⟨rfl, hb4⟩
set_option maxHeartbeats 1000000 in
theorem flatWords_nil (w : World) : Calls Tryz.prog 55 #[.slice none 0 0] w fun e w' => e = .returned (.bool true) ∧ Below w.heap.size w w' := by
  obtain ⟨i0, hi, hz0, hz1, hz2⟩ := info_parts (show (Tryz.prog.info? 166).map (fun i => (i.zero, i.size, i.bytes)) = some (some (.slice none 0 0), 1, 24) by kernel_rfl)
  go_enter Tryz.func55, Tryz.ntmps55
  go_wp2_with fail
  go_loopg [3] 0 (fun g v wr => g = 0 ∧ v = .int .i64 0 ∧ Below w.heap.size w wr)
  case atStart => exact ⟨rfl, rfl, Below.refl _ _⟩
  case round =>
    obtain ⟨_, rfl, hb0⟩ := hrel
    go_wp2_with (refine wpList_make_full _ rfl _ _ 72 rfl wr.heap.size 166 i0 _ 1 Tryz.underlying72 hi hz0 hz1 _ _ 0 0 0 rfl rfl rfl rfl (by omega) (by decide) (Nat.le_refl _) ?_; intro w1 hown hgrow; have hm : Below w.heap.size w w1 := hb0.trans ((Below.refl _ _).grown hgrow hb0.size (fun g e => by cases e)))
    go_loopg [6] 0 (fun g v wr => g = 0 ∧ v = .int .i64 0 ∧ Below w.heap.size w wr)
    case atStart => exact ⟨rfl, rfl, hm⟩
    case round =>
      obtain ⟨_, rfl, hb1⟩ := hrel
      go_wp2_with fail
      go_loopg [9] 0 (fun g v wr => g = 0 ∧ v = .int .i64 0 ∧ Below w.heap.size w wr)
      case atStart => exact ⟨rfl, rfl, hb1⟩
      case round =>
        obtain ⟨_, rfl, hb2⟩ := hrel
        go_wp2_with fail
        go_loopg [11] 0 (fun g v wr => g = 0 ∧ v = .int .i64 0 ∧ Below w.heap.size w wr)
        case atStart => exact ⟨rfl, rfl, hb2⟩
        case round =>
          obtain ⟨_, rfl, hb3⟩ := hrel
          go_wp2_with fail
          go_loopg [14] 0 (fun g v wr => g = 0 ∧ v = .int .i64 0 ∧ Below w.heap.size w wr)
          case atStart => exact ⟨rfl, rfl, hb3⟩
          case round =>
            obtain ⟨_, rfl, hb4⟩ := hrel
            go_wp2_with fail
            go_ret
            exact ⟨rfl, hb4⟩
set_option maxHeartbeats 1000000 in
theorem flatInts_nil (w : World) : Calls Tryz.prog 56 #[.slice none 0 0] w fun e w' => e = .returned (.bool true) ∧ Below w.heap.size w w' := by
  obtain ⟨i0, hi, hz0, hz1, hz2⟩ := info_parts (show (Tryz.prog.info? 167).map (fun i => (i.zero, i.size, i.bytes)) = some (some (.slice none 0 0), 1, 24) by kernel_rfl)
  go_enter Tryz.func56, Tryz.ntmps56
  go_wp2_with fail
  go_loopg [3] 0 (fun g v wr => g = 0 ∧ v = .int .i64 0 ∧ Below w.heap.size w wr)
  case atStart => exact ⟨rfl, rfl, Below.refl _ _⟩
  case round =>
    obtain ⟨_, rfl, hb0⟩ := hrel
    go_wp2_with (refine wpList_make_full _ rfl _ _ 73 rfl wr.heap.size 167 i0 _ 1 Tryz.underlying73 hi hz0 hz1 _ _ 0 0 0 rfl rfl rfl rfl (by omega) (by decide) (Nat.le_refl _) ?_; intro w1 hown hgrow; have hm : Below w.heap.size w w1 := hb0.trans ((Below.refl _ _).grown hgrow hb0.size (fun g e => by cases e)))
    go_loopg [6] 0 (fun g v wr => g = 0 ∧ v = .int .i64 0 ∧ Below w.heap.size w wr)
    case atStart => exact ⟨rfl, rfl, hm⟩
    case round =>
      obtain ⟨_, rfl, hb1⟩ := hrel
      go_wp2_with fail
      go_loopg [9] 0 (fun g v wr => g = 0 ∧ v = .int .i64 0 ∧ Below w.heap.size w wr)
      case atStart => exact ⟨rfl, rfl, hb1⟩
      case round =>
        obtain ⟨_, rfl, hb2⟩ := hrel
        go_wp2_with fail
        go_loopg [11] 0 (fun g v wr => g = 0 ∧ v = .int .i64 0 ∧ Below w.heap.size w wr)
        case atStart => exact ⟨rfl, rfl, hb2⟩
        case round =>
          obtain ⟨_, rfl, hb3⟩ := hrel
          go_wp2_with fail
          go_loopg [14] 0 (fun g v wr => g = 0 ∧ v = .int .i64 0 ∧ Below w.heap.size w wr)
          case atStart => exact ⟨rfl, rfl, hb3⟩
          case round =>
            obtain ⟨_, rfl, hb4⟩ := hrel
            go_wp2_with fail
            go_ret
            exact ⟨rfl, hb4⟩
set_option maxHeartbeats 1000000 in
theorem flatLongs_nil (w : World) : Calls Tryz.prog 57 #[.slice none 0 0] w fun e w' => e = .returned (.bool true) ∧ Below w.heap.size w w' := by
  obtain ⟨i0, hi, hz0, hz1, hz2⟩ := info_parts (show (Tryz.prog.info? 168).map (fun i => (i.zero, i.size, i.bytes)) = some (some (.slice none 0 0), 1, 24) by kernel_rfl)
  go_enter Tryz.func57, Tryz.ntmps57
  go_wp2_with fail
  go_loopg [3] 0 (fun g v wr => g = 0 ∧ v = .int .i64 0 ∧ Below w.heap.size w wr)
  case atStart => exact ⟨rfl, rfl, Below.refl _ _⟩
  case round =>
    obtain ⟨_, rfl, hb0⟩ := hrel
    go_wp2_with (refine wpList_make_full _ rfl _ _ 74 rfl wr.heap.size 168 i0 _ 1 Tryz.underlying74 hi hz0 hz1 _ _ 0 0 0 rfl rfl rfl rfl (by omega) (by decide) (Nat.le_refl _) ?_; intro w1 hown hgrow; have hm : Below w.heap.size w w1 := hb0.trans ((Below.refl _ _).grown hgrow hb0.size (fun g e => by cases e)))
    go_loopg [6] 0 (fun g v wr => g = 0 ∧ v = .int .i64 0 ∧ Below w.heap.size w wr)
    case atStart => exact ⟨rfl, rfl, hm⟩
    case round =>
      obtain ⟨_, rfl, hb1⟩ := hrel
      go_wp2_with fail
      go_loopg [9] 0 (fun g v wr => g = 0 ∧ v = .int .i64 0 ∧ Below w.heap.size w wr)
      case atStart => exact ⟨rfl, rfl, hb1⟩
      case round =>
        obtain ⟨_, rfl, hb2⟩ := hrel
        go_wp2_with fail
        go_loopg [11] 0 (fun g v wr => g = 0 ∧ v = .int .i64 0 ∧ Below w.heap.size w wr)
        case atStart => exact ⟨rfl, rfl, hb2⟩
        case round =>
          obtain ⟨_, rfl, hb3⟩ := hrel
          go_wp2_with fail
          go_loopg [14] 0 (fun g v wr => g = 0 ∧ v = .int .i64 0 ∧ Below w.heap.size w wr)
          case atStart => exact ⟨rfl, rfl, hb3⟩
          case round =>
            obtain ⟨_, rfl, hb4⟩ := hrel
            go_wp2_with fail
            go_ret
            exact ⟨rfl, hb4⟩
set_option maxHeartbeats 1000000 in
theorem flatTexts_nil (w : World) : Calls Tryz.prog 58 #[.slice none 0 0] w fun e w' => e = .returned (.bool true) ∧ Below w.heap.size w w' := by
  obtain ⟨i0, hi, hz0, hz1, hz2⟩ := info_parts (show (Tryz.prog.info? 23).map (fun i => (i.zero, i.size, i.bytes)) = some (some (.slice none 0 0), 1, 24) by kernel_rfl)
  go_enter Tryz.func58, Tryz.ntmps58
  go_wp2_with fail
  go_loopg [3] 0 (fun g v wr => g = 0 ∧ v = .int .i64 0 ∧ Below w.heap.size w wr)
  case atStart => exact ⟨rfl, rfl, Below.refl _ _⟩
  case round =>
    obtain ⟨_, rfl, hb0⟩ := hrel
    go_wp2_with (refine wpList_make_full _ rfl _ _ 75 rfl wr.heap.size 23 i0 _ 1 Tryz.underlying75 hi hz0 hz1 _ _ 0 0 0 rfl rfl rfl rfl (by omega) (by decide) (Nat.le_refl _) ?_; intro w1 hown hgrow; have hm : Below w.heap.size w w1 := hb0.trans ((Below.refl _ _).grown hgrow hb0.size (fun g e => by cases e)))
    go_loopg [6] 0 (fun g v wr => g = 0 ∧ v = .int .i64 0 ∧ Below w.heap.size w wr)
    case atStart => exact ⟨rfl, rfl, hm⟩
    case round =>
      obtain ⟨_, rfl, hb1⟩ := hrel
      go_wp2_with fail
      go_loopg [9] 0 (fun g v wr => g = 0 ∧ v = .int .i64 0 ∧ Below w.heap.size w wr)
      case atStart => exact ⟨rfl, rfl, hb1⟩
      case round =>
        obtain ⟨_, rfl, hb2⟩ := hrel
        go_wp2_with fail
        go_loopg [11] 0 (fun g v wr => g = 0 ∧ v = .int .i64 0 ∧ Below w.heap.size w wr)
        case atStart => exact ⟨rfl, rfl, hb2⟩
        case round =>
          obtain ⟨_, rfl, hb3⟩ := hrel
          go_wp2_with fail
          go_loopg [14] 0 (fun g v wr => g = 0 ∧ v = .int .i64 0 ∧ Below w.heap.size w wr)
          case atStart => exact ⟨rfl, rfl, hb3⟩
          case round =>
            obtain ⟨_, rfl, hb4⟩ := hrel
            go_wp2_with fail
            go_ret
            exact ⟨rfl, hb4⟩
set_option maxHeartbeats 1000000 in
theorem flatBytes_nil (w : World) : Calls Tryz.prog 59 #[.slice none 0 0] w fun e w' => e = .returned (.bool true) ∧ Below w.heap.size w w' := by
  obtain ⟨i0, hi, hz0, hz1, hz2⟩ := info_parts (show (Tryz.prog.info? 22).map (fun i => (i.zero, i.size, i.bytes)) = some (some (.slice none 0 0), 1, 24) by kernel_rfl)
  go_enter Tryz.func59, Tryz.ntmps59
  go_wp2_with fail
  go_loopg [3] 0 (fun g v wr => g = 0 ∧ v = .int .i64 0 ∧ Below w.heap.size w wr)
  case atStart => exact ⟨rfl, rfl, Below.refl _ _⟩
  case round =>
    obtain ⟨_, rfl, hb0⟩ := hrel
    go_wp2_with (refine wpList_make_full _ rfl _ _ 76 rfl wr.heap.size 22 i0 _ 1 Tryz.underlying76 hi hz0 hz1 _ _ 0 0 0 rfl rfl rfl rfl (by omega) (by decide) (Nat.le_refl _) ?_; intro w1 hown hgrow; have hm : Below w.heap.size w w1 := hb0.trans ((Below.refl _ _).grown hgrow hb0.size (fun g e => by cases e)))
    go_loopg [6] 0 (fun g v wr => g = 0 ∧ v = .int .i64 0 ∧ Below w.heap.size w wr)
    case atStart => exact ⟨rfl, rfl, hm⟩
    case round =>
      obtain ⟨_, rfl, hb1⟩ := hrel
      go_wp2_with fail
      go_loopg [9] 0 (fun g v wr => g = 0 ∧ v = .int .i64 0 ∧ Below w.heap.size w wr)
      case atStart => exact ⟨rfl, rfl, hb1⟩
      case round =>
        obtain ⟨_, rfl, hb2⟩ := hrel
        go_wp2_with fail
        go_loopg [11] 0 (fun g v wr => g = 0 ∧ v = .int .i64 0 ∧ Below w.heap.size w wr)
        case atStart => exact ⟨rfl, rfl, hb2⟩
        case round =>
          obtain ⟨_, rfl, hb3⟩ := hrel
          go_wp2_with fail
          go_loopg [14] 0 (fun g v wr => g = 0 ∧ v = .int .i64 0 ∧ Below w.heap.size w wr)
          case atStart => exact ⟨rfl, rfl, hb3⟩
          case round =>
            obtain ⟨_, rfl, hb4⟩ := hrel
            go_wp2_with fail
            go_ret
            exact ⟨rfl, hb4⟩
set_option maxHeartbeats 1000000 in
theorem flatFaults_nil (w : World) : Calls Tryz.prog 61 #[.slice none 0 0] w fun e w' => e = .returned (.bool true) ∧ Below w.heap.size w w' := by
  obtain ⟨i0, hi, hz0, hz1, hz2⟩ := info_parts (show (Tryz.prog.info? 172).map (fun i => (i.zero, i.size, i.bytes)) = some (some (.slice none 0 0), 1, 24) by kernel_rfl)
  go_enter Tryz.func61, Tryz.ntmps61
  go_wp2_with fail
  go_loopg [3] 0 (fun g v wr => g = 0 ∧ v = .int .i64 0 ∧ Below w.heap.size w wr)
  case atStart => exact ⟨rfl, rfl, Below.refl _ _⟩
  case round =>
    obtain ⟨_, rfl, hb0⟩ := hrel
    go_wp2_with (refine wpList_make_full _ rfl _ _ 77 rfl wr.heap.size 172 i0 _ 1 Tryz.underlying77 hi hz0 hz1 _ _ 0 0 0 rfl rfl rfl rfl (by omega) (by decide) (Nat.le_refl _) ?_; intro w1 hown hgrow; have hm : Below w.heap.size w w1 := hb0.trans ((Below.refl _ _).grown hgrow hb0.size (fun g e => by cases e)))
    go_loopg [6] 0 (fun g v wr => g = 0 ∧ v = .int .i64 0 ∧ Below w.heap.size w wr)
    case atStart => exact ⟨rfl, rfl, hm⟩
    case round =>
      obtain ⟨_, rfl, hb1⟩ := hrel
      go_wp2_with fail
      go_loopg [9] 0 (fun g v wr => g = 0 ∧ v = .int .i64 0 ∧ Below w.heap.size w wr)
      case atStart => exact ⟨rfl, rfl, hb1⟩
      case round =>
        obtain ⟨_, rfl, hb2⟩ := hrel
        go_wp2_with fail
        go_loopg [11] 0 (fun g v wr => g = 0 ∧ v = .int .i64 0 ∧ Below w.heap.size w wr)
        case atStart => exact ⟨rfl, rfl, hb2⟩
        case round =>
          obtain ⟨_, rfl, hb3⟩ := hrel
          go_wp2_with fail
          go_loopg [14] 0 (fun g v wr => g = 0 ∧ v = .int .i64 0 ∧ Below w.heap.size w wr)
          case atStart => exact ⟨rfl, rfl, hb3⟩
          case round =>
            obtain ⟨_, rfl, hb4⟩ := hrel
            go_wp2_with fail
            go_ret
            exact ⟨rfl, hb4⟩
set_option maxHeartbeats 1000000 in
theorem flatNodes_nil (w : World) : Calls Tryz.prog 62 #[.slice none 0 0] w fun e w' => e = .returned (.bool true) ∧ Below w.heap.size w w' := by
  obtain ⟨i0, hi, hz0, hz1, hz2⟩ := info_parts (show (Tryz.prog.info? 174).map (fun i => (i.zero, i.size, i.bytes)) = some (some (.slice none 0 0), 1, 24) by kernel_rfl)
  go_enter Tryz.func62, Tryz.ntmps62
  go_wp2_with fail
  go_loopg [3] 0 (fun g v wr => g = 0 ∧ v = .int .i64 0 ∧ Below w.heap.size w wr)
  case atStart => exact ⟨rfl, rfl, Below.refl _ _⟩
  case round =>
    obtain ⟨_, rfl, hb0⟩ := hrel
    go_wp2_with (refine wpList_make_full _ rfl _ _ 78 rfl wr.heap.size 174 i0 _ 1 Tryz.underlying78 hi hz0 hz1 _ _ 0 0 0 rfl rfl rfl rfl (by omega) (by decide) (Nat.le_refl _) ?_; intro w1 hown hgrow; have hm : Below w.heap.size w w1 := hb0.trans ((Below.refl _ _).grown hgrow hb0.size (fun g e => by cases e)))
    go_loopg [6] 0 (fun g v wr => g = 0 ∧ v = .int .i64 0 ∧ Below w.heap.size w wr)
    case atStart => exact ⟨rfl, rfl, hm⟩
    case round =>
      obtain ⟨_, rfl, hb1⟩ := hrel
      go_wp2_with fail
      go_loopg [9] 0 (fun g v wr => g = 0 ∧ v = .int .i64 0 ∧ Below w.heap.size w wr)
      case atStart => exact ⟨rfl, rfl, hb1⟩
      case round =>
        obtain ⟨_, rfl, hb2⟩ := hrel
        go_wp2_with fail
        go_loopg [11] 0 (fun g v wr => g = 0 ∧ v = .int .i64 0 ∧ Below w.heap.size w wr)
        case atStart => exact ⟨rfl, rfl, hb2⟩
        case round =>
          obtain ⟨_, rfl, hb3⟩ := hrel
          go_wp2_with fail
          go_loopg [14] 0 (fun g v wr => g = 0 ∧ v = .int .i64 0 ∧ Below w.heap.size w wr)
          case atStart => exact ⟨rfl, rfl, hb3⟩
          case round =>
            obtain ⟨_, rfl, hb4⟩ := hrel
            go_wp2_with fail
            go_ret
            exact ⟨rfl, hb4⟩
set_option maxHeartbeats 1000000 in
theorem flatTypes_nil (w : World) : Calls Tryz.prog 63 #[.slice none 0 0] w fun e w' => e = .returned (.bool true) ∧ Below w.heap.size w w' := by
  obtain ⟨i0, hi, hz0, hz1, hz2⟩ := info_parts (show (Tryz.prog.info? 180).map (fun i => (i.zero, i.size, i.bytes)) = some (some (.slice none 0 0), 1, 24) by kernel_rfl)
  go_enter Tryz.func63, Tryz.ntmps63
  go_wp2_with fail
  go_loopg [3] 0 (fun g v wr => g = 0 ∧ v = .int .i64 0 ∧ Below w.heap.size w wr)
  case atStart => exact ⟨rfl, rfl, Below.refl _ _⟩
  case round =>
    obtain ⟨_, rfl, hb0⟩ := hrel
    go_wp2_with (refine wpList_make_full _ rfl _ _ 79 rfl wr.heap.size 180 i0 _ 1 Tryz.underlying79 hi hz0 hz1 _ _ 0 0 0 rfl rfl rfl rfl (by omega) (by decide) (Nat.le_refl _) ?_; intro w1 hown hgrow; have hm : Below w.heap.size w w1 := hb0.trans ((Below.refl _ _).grown hgrow hb0.size (fun g e => by cases e)))
    go_loopg [6] 0 (fun g v wr => g = 0 ∧ v = .int .i64 0 ∧ Below w.heap.size w wr)
    case atStart => exact ⟨rfl, rfl, hm⟩
    case round =>
      obtain ⟨_, rfl, hb1⟩ := hrel
      go_wp2_with fail
      go_loopg [9] 0 (fun g v wr => g = 0 ∧ v = .int .i64 0 ∧ Below w.heap.size w wr)
      case atStart => exact ⟨rfl, rfl, hb1⟩
      case round =>
        obtain ⟨_, rfl, hb2⟩ := hrel
        go_wp2_with fail
        go_loopg [11] 0 (fun g v wr => g = 0 ∧ v = .int .i64 0 ∧ Below w.heap.size w wr)
        case atStart => exact ⟨rfl, rfl, hb2⟩
        case round =>
          obtain ⟨_, rfl, hb3⟩ := hrel
          go_wp2_with fail
          go_loopg [14] 0 (fun g v wr => g = 0 ∧ v = .int .i64 0 ∧ Below w.heap.size w wr)
          case atStart => exact ⟨rfl, rfl, hb3⟩
          case round =>
            obtain ⟨_, rfl, hb4⟩ := hrel
            go_wp2_with fail
            go_ret
            exact ⟨rfl, hb4⟩
set_option maxHeartbeats 1000000 in
theorem flatValues_nil (w : World) : Calls Tryz.prog 64 #[.slice none 0 0] w fun e w' => e = .returned (.bool true) ∧ Below w.heap.size w w' := by
  obtain ⟨i0, hi, hz0, hz1, hz2⟩ := info_parts (show (Tryz.prog.info? 186).map (fun i => (i.zero, i.size, i.bytes)) = some (some (.slice none 0 0), 1, 24) by kernel_rfl)
  go_enter Tryz.func64, Tryz.ntmps64
  go_wp2_with fail
  go_loopg [3] 0 (fun g v wr => g = 0 ∧ v = .int .i64 0 ∧ Below w.heap.size w wr)
  case atStart => exact ⟨rfl, rfl, Below.refl _ _⟩
  case round =>
    obtain ⟨_, rfl, hb0⟩ := hrel
    go_wp2_with (refine wpList_make_full _ rfl _ _ 80 rfl wr.heap.size 186 i0 _ 1 Tryz.underlying80 hi hz0 hz1 _ _ 0 0 0 rfl rfl rfl rfl (by omega) (by decide) (Nat.le_refl _) ?_; intro w1 hown hgrow; have hm : Below w.heap.size w w1 := hb0.trans ((Below.refl _ _).grown hgrow hb0.size (fun g e => by cases e)))
    go_loopg [6] 0 (fun g v wr => g = 0 ∧ v = .int .i64 0 ∧ Below w.heap.size w wr)
    case atStart => exact ⟨rfl, rfl, hm⟩
    case round =>
      obtain ⟨_, rfl, hb1⟩ := hrel
      go_wp2_with fail
      go_loopg [9] 0 (fun g v wr => g = 0 ∧ v = .int .i64 0 ∧ Below w.heap.size w wr)
      case atStart => exact ⟨rfl, rfl, hb1⟩
      case round =>
        obtain ⟨_, rfl, hb2⟩ := hrel
        go_wp2_with fail
        go_loopg [11] 0 (fun g v wr => g = 0 ∧ v = .int .i64 0 ∧ Below w.heap.size w wr)
        case atStart => exact ⟨rfl, rfl, hb2⟩
        case round =>
          obtain ⟨_, rfl, hb3⟩ := hrel
          go_wp2_with fail
          go_loopg [14] 0 (fun g v wr => g = 0 ∧ v = .int .i64 0 ∧ Below w.heap.size w wr)
          case atStart => exact ⟨rfl, rfl, hb3⟩
          case round =>
            obtain ⟨_, rfl, hb4⟩ := hrel
            go_wp2_with fail
            go_ret
            exact ⟨rfl, hb4⟩
set_option maxHeartbeats 1000000 in
theorem flatOutcomes_nil (w : World) : Calls Tryz.prog 65 #[.slice none 0 0] w fun e w' => e = .returned (.bool true) ∧ Below w.heap.size w w' := by
  obtain ⟨i0, hi, hz0, hz1, hz2⟩ := info_parts (show (Tryz.prog.info? 191).map (fun i => (i.zero, i.size, i.bytes)) = some (some (.slice none 0 0), 1, 24) by kernel_rfl)
  go_enter Tryz.func65, Tryz.ntmps65
  go_wp2_with fail
  go_loopg [3] 0 (fun g v wr => g = 0 ∧ v = .int .i64 0 ∧ Below w.heap.size w wr)
  case atStart => exact ⟨rfl, rfl, Below.refl _ _⟩
  case round =>
    obtain ⟨_, rfl, hb0⟩ := hrel
    go_wp2_with (refine wpList_make_full _ rfl _ _ 81 rfl wr.heap.size 191 i0 _ 1 Tryz.underlying81 hi hz0 hz1 _ _ 0 0 0 rfl rfl rfl rfl (by omega) (by decide) (Nat.le_refl _) ?_; intro w1 hown hgrow; have hm : Below w.heap.size w w1 := hb0.trans ((Below.refl _ _).grown hgrow hb0.size (fun g e => by cases e)))
    go_loopg [6] 0 (fun g v wr => g = 0 ∧ v = .int .i64 0 ∧ Below w.heap.size w wr)
    case atStart => exact ⟨rfl, rfl, hm⟩
    case round =>
      obtain ⟨_, rfl, hb1⟩ := hrel
      go_wp2_with fail
      go_loopg [9] 0 (fun g v wr => g = 0 ∧ v = .int .i64 0 ∧ Below w.heap.size w wr)
      case atStart => exact ⟨rfl, rfl, hb1⟩
      case round =>
        obtain ⟨_, rfl, hb2⟩ := hrel
        go_wp2_with fail
        go_loopg [11] 0 (fun g v wr => g = 0 ∧ v = .int .i64 0 ∧ Below w.heap.size w wr)
        case atStart => exact ⟨rfl, rfl, hb2⟩
        case round =>
          obtain ⟨_, rfl, hb3⟩ := hrel
          go_wp2_with fail
          go_loopg [14] 0 (fun g v wr => g = 0 ∧ v = .int .i64 0 ∧ Below w.heap.size w wr)
          case atStart => exact ⟨rfl, rfl, hb3⟩
          case round =>
            obtain ⟨_, rfl, hb4⟩ := hrel
            go_wp2_with fail
            go_ret
            exact ⟨rfl, hb4⟩
set_option maxHeartbeats 1000000 in
theorem flatWordRow_nil (w : World) : Calls Tryz.prog 66 #[.slice none 0 0] w fun e w' => e = .returned (.bool true) ∧ Below w.heap.size w w' := by
  obtain ⟨i0, hi, hz0, hz1, hz2⟩ := info_parts (show (Tryz.prog.info? 196).map (fun i => (i.zero, i.size, i.bytes)) = some (some (.slice none 0 0), 1, 24) by kernel_rfl)
  go_enter Tryz.func66, Tryz.ntmps66
  go_wp2_with fail
  go_loopg [3] 0 (fun g v wr => g = 0 ∧ v = .int .i64 0 ∧ Below w.heap.size w wr)
  case atStart => exact ⟨rfl, rfl, Below.refl _ _⟩
  case round =>
    obtain ⟨_, rfl, hb0⟩ := hrel
    go_wp2_with (refine wpList_make_full _ rfl _ _ 82 rfl wr.heap.size 196 i0 _ 1 Tryz.underlying82 hi hz0 hz1 _ _ 0 0 0 rfl rfl rfl rfl (by omega) (by decide) (Nat.le_refl _) ?_; intro w1 hown hgrow; have hm : Below w.heap.size w w1 := hb0.trans ((Below.refl _ _).grown hgrow hb0.size (fun g e => by cases e)))
    go_loopg [6] 0 (fun g v wr => g = 0 ∧ v = .int .i64 0 ∧ Below w.heap.size w wr)
    case atStart => exact ⟨rfl, rfl, hm⟩
    case round =>
      obtain ⟨_, rfl, hb1⟩ := hrel
      go_wp2_with fail
      go_loopg [9] 0 (fun g v wr => g = 0 ∧ v = .int .i64 0 ∧ Below w.heap.size w wr)
      case atStart => exact ⟨rfl, rfl, hb1⟩
      case round =>
        obtain ⟨_, rfl, hb2⟩ := hrel
        go_wp2_with fail
        go_loopg [11] 0 (fun g v wr => g = 0 ∧ v = .int .i64 0 ∧ Below w.heap.size w wr)
        case atStart => exact ⟨rfl, rfl, hb2⟩
        case round =>
          obtain ⟨_, rfl, hb3⟩ := hrel
          go_wp2_with fail
          go_loopg [14] 0 (fun g v wr => g = 0 ∧ v = .int .i64 0 ∧ Below w.heap.size w wr)
          case atStart => exact ⟨rfl, rfl, hb3⟩
          case round =>
            obtain ⟨_, rfl, hb4⟩ := hrel
            go_wp2_with fail
            go_ret
            exact ⟨rfl, hb4⟩
set_option maxHeartbeats 1000000 in
theorem flatAlts_nil (w : World) : Calls Tryz.prog 67 #[.slice none 0 0] w fun e w' => e = .returned (.bool true) ∧ Below w.heap.size w w' := by
  obtain ⟨i0, hi, hz0, hz1, hz2⟩ := info_parts (show (Tryz.prog.info? 201).map (fun i => (i.zero, i.size, i.bytes)) = some (some (.slice none 0 0), 1, 24) by kernel_rfl)
  go_enter Tryz.func67, Tryz.ntmps67
  go_wp2_with fail
  go_loopg [3] 0 (fun g v wr => g = 0 ∧ v = .int .i64 0 ∧ Below w.heap.size w wr)
  case atStart => exact ⟨rfl, rfl, Below.refl _ _⟩
  case round =>
    obtain ⟨_, rfl, hb0⟩ := hrel
    go_wp2_with (refine wpList_make_full _ rfl _ _ 83 rfl wr.heap.size 201 i0 _ 1 Tryz.underlying83 hi hz0 hz1 _ _ 0 0 0 rfl rfl rfl rfl (by omega) (by decide) (Nat.le_refl _) ?_; intro w1 hown hgrow; have hm : Below w.heap.size w w1 := hb0.trans ((Below.refl _ _).grown hgrow hb0.size (fun g e => by cases e)))
    go_loopg [6] 0 (fun g v wr => g = 0 ∧ v = .int .i64 0 ∧ Below w.heap.size w wr)
    case atStart => exact ⟨rfl, rfl, hm⟩
    case round =>
      obtain ⟨_, rfl, hb1⟩ := hrel
      go_wp2_with fail
      go_loopg [9] 0 (fun g v wr => g = 0 ∧ v = .int .i64 0 ∧ Below w.heap.size w wr)
      case atStart => exact ⟨rfl, rfl, hb1⟩
      case round =>
        obtain ⟨_, rfl, hb2⟩ := hrel
        go_wp2_with fail
        go_loopg [11] 0 (fun g v wr => g = 0 ∧ v = .int .i64 0 ∧ Below w.heap.size w wr)
        case atStart => exact ⟨rfl, rfl, hb2⟩
        case round =>
          obtain ⟨_, rfl, hb3⟩ := hrel
          go_wp2_with fail
          go_loopg [14] 0 (fun g v wr => g = 0 ∧ v = .int .i64 0 ∧ Below w.heap.size w wr)
          case atStart => exact ⟨rfl, rfl, hb3⟩
          case round =>
            obtain ⟨_, rfl, hb4⟩ := hrel
            go_wp2_with fail
            go_ret
            exact ⟨rfl, hb4⟩
set_option maxHeartbeats 1000000 in
theorem flatRules_nil (w : World) : Calls Tryz.prog 68 #[.slice none 0 0] w fun e w' => e = .returned (.bool true) ∧ Below w.heap.size w w' := by
  obtain ⟨i0, hi, hz0, hz1, hz2⟩ := info_parts (show (Tryz.prog.info? 206).map (fun i => (i.zero, i.size, i.bytes)) = some (some (.slice none 0 0), 1, 24) by kernel_rfl)
  go_enter Tryz.func68, Tryz.ntmps68
  go_wp2_with fail
  go_loopg [3] 0 (fun g v wr => g = 0 ∧ v = .int .i64 0 ∧ Below w.heap.size w wr)
  case atStart => exact ⟨rfl, rfl, Below.refl _ _⟩
  case round =>
    obtain ⟨_, rfl, hb0⟩ := hrel
    go_wp2_with (refine wpList_make_full _ rfl _ _ 84 rfl wr.heap.size 206 i0 _ 1 Tryz.underlying84 hi hz0 hz1 _ _ 0 0 0 rfl rfl rfl rfl (by omega) (by decide) (Nat.le_refl _) ?_; intro w1 hown hgrow; have hm : Below w.heap.size w w1 := hb0.trans ((Below.refl _ _).grown hgrow hb0.size (fun g e => by cases e)))
    go_loopg [6] 0 (fun g v wr => g = 0 ∧ v = .int .i64 0 ∧ Below w.heap.size w wr)
    case atStart => exact ⟨rfl, rfl, hm⟩
    case round =>
      obtain ⟨_, rfl, hb1⟩ := hrel
      go_wp2_with fail
      go_loopg [9] 0 (fun g v wr => g = 0 ∧ v = .int .i64 0 ∧ Below w.heap.size w wr)
      case atStart => exact ⟨rfl, rfl, hb1⟩
      case round =>
        obtain ⟨_, rfl, hb2⟩ := hrel
        go_wp2_with fail
        go_loopg [11] 0 (fun g v wr => g = 0 ∧ v = .int .i64 0 ∧ Below w.heap.size w wr)
        case atStart => exact ⟨rfl, rfl, hb2⟩
        case round =>
          obtain ⟨_, rfl, hb3⟩ := hrel
          go_wp2_with fail
          go_loopg [14] 0 (fun g v wr => g = 0 ∧ v = .int .i64 0 ∧ Below w.heap.size w wr)
          case atStart => exact ⟨rfl, rfl, hb3⟩
          case round =>
            obtain ⟨_, rfl, hb4⟩ := hrel
            go_wp2_with fail
            go_ret
            exact ⟨rfl, hb4⟩
set_option maxHeartbeats 1000000 in
theorem flatDecls_nil (w : World) : Calls Tryz.prog 69 #[.slice none 0 0] w fun e w' => e = .returned (.bool true) ∧ Below w.heap.size w w' := by
  obtain ⟨i0, hi, hz0, hz1, hz2⟩ := info_parts (show (Tryz.prog.info? 211).map (fun i => (i.zero, i.size, i.bytes)) = some (some (.slice none 0 0), 1, 24) by kernel_rfl)
  go_enter Tryz.func69, Tryz.ntmps69
  go_wp2_with fail
  go_loopg [3] 0 (fun g v wr => g = 0 ∧ v = .int .i64 0 ∧ Below w.heap.size w wr)
  case atStart => exact ⟨rfl, rfl, Below.refl _ _⟩
  case round =>
    obtain ⟨_, rfl, hb0⟩ := hrel
    go_wp2_with (refine wpList_make_full _ rfl _ _ 85 rfl wr.heap.size 211 i0 _ 1 Tryz.underlying85 hi hz0 hz1 _ _ 0 0 0 rfl rfl rfl rfl (by omega) (by decide) (Nat.le_refl _) ?_; intro w1 hown hgrow; have hm : Below w.heap.size w w1 := hb0.trans ((Below.refl _ _).grown hgrow hb0.size (fun g e => by cases e)))
    go_loopg [6] 0 (fun g v wr => g = 0 ∧ v = .int .i64 0 ∧ Below w.heap.size w wr)
    case atStart => exact ⟨rfl, rfl, hm⟩
    case round =>
      obtain ⟨_, rfl, hb1⟩ := hrel
      go_wp2_with fail
      go_loopg [9] 0 (fun g v wr => g = 0 ∧ v = .int .i64 0 ∧ Below w.heap.size w wr)
      case atStart => exact ⟨rfl, rfl, hb1⟩
      case round =>
        obtain ⟨_, rfl, hb2⟩ := hrel
        go_wp2_with fail
        go_loopg [11] 0 (fun g v wr => g = 0 ∧ v = .int .i64 0 ∧ Below w.heap.size w wr)
        case atStart => exact ⟨rfl, rfl, hb2⟩
        case round =>
          obtain ⟨_, rfl, hb3⟩ := hrel
          go_wp2_with fail
          go_loopg [14] 0 (fun g v wr => g = 0 ∧ v = .int .i64 0 ∧ Below w.heap.size w wr)
          case atStart => exact ⟨rfl, rfl, hb3⟩
          case round =>
            obtain ⟨_, rfl, hb4⟩ := hrel
            go_wp2_with fail
            go_ret
            exact ⟨rfl, hb4⟩
end Go.Proofs.YtkcgccbmndgepaaGreatDoor
