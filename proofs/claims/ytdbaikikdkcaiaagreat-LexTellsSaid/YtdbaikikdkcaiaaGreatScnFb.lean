/- The list of a kind that holds no lists lies apart. -/
import Derived.Test.YtdbaikikdkcaiaaGreatRows
import Derived.WalkKit
import Derived.WalkLawsBesides
import Derived.WalkSpells
import Derived.Below
import Derived.Outline
import Derived.Lib.Hide
import Derived.Handy
import Derived.LoopTactic
import Derived.Deep.LoopGhost
import Derived.OwnWalk
set_option maxRecDepth 100000
namespace Go.Proofs.YtdbaikikdkcaiaaGreat
open Go.Instr Go.RowKit
set_option linter.unusedVariables false
set_option maxHeartbeats 1000000 in
theorem flatSources_nil (w : World) : Calls Tryz.prog 48 #[.slice none 0 0] w fun e w' => e = .returned (.bool true) ∧ Below w.heap.size w w' := by
  obtain ⟨i0, hi, hz0, hz1, hz2⟩ := info_parts (show (Tryz.prog.info? 183).map (fun i => (i.zero, i.size, i.bytes)) = some (some (.slice none 0 0), 1, 24) by kernel_rfl)
  go_enter Tryz.func48, Tryz.ntmps48
  go_wp2_with fail
  go_loopg [3] 0 (fun g v wr => g = 0 ∧ v = .int .i64 0 ∧ Below w.heap.size w wr)
  case atStart => exact ⟨rfl, rfl, Below.refl _ _⟩
  case round =>
    obtain ⟨_, rfl, hb0⟩ := hrel
    go_wp2_with (refine wpList_make_full _ rfl _ _ 65 rfl wr.heap.size 183 i0 _ 1 Tryz.underlying65 hi hz0 hz1 _ _ 0 0 0 rfl rfl rfl rfl (by omega) (by decide) (Nat.le_refl _) ?_; intro w1 hown hgrow; have hm : Below w.heap.size w w1 := hb0.trans ((Below.refl _ _).grown hgrow hb0.size (fun g e => by cases e)))
    go_loopg [6] 0 (fun g v wr => g = 0 ∧ v = .int .i64 0 ∧ Below w.heap.size w wr)
    case atStart => exact ⟨rfl, rfl, hm⟩
    case round =>
      obtain ⟨_, rfl, hb1⟩ := hrel
      go_wp2_with fail
      go_loopg [9] 0 (fun g v wr => g = 0 ∧ v = .int .i64 0 ∧ Below w.heap.size w wr)
      case atStart => exact ⟨rfl, rfl, hb1⟩
      case round =>
        obtain ⟨_, rfl, hb2⟩ := hrel
        go_wp2_with fail
        go_loopg [11] 0 (fun g v wr => g = 0 ∧ v = .int .i64 0 ∧ Below w.heap.size w wr)
        case atStart => exact ⟨rfl, rfl, hb2⟩
        case round =>
          obtain ⟨_, rfl, hb3⟩ := hrel
          go_wp2_with fail
          go_loopg [14] 0 (fun g v wr => g = 0 ∧ v = .int .i64 0 ∧ Below w.heap.size w wr)
          case atStart => exact ⟨rfl, rfl, hb3⟩
          case round =>
            obtain ⟨_, rfl, hb4⟩ := hrel
            go_wp2_with fail
            go_ret
            exact ⟨rfl, hb4⟩
set_option maxHeartbeats 1000000 in
theorem flatProds_nil (w : World) : Calls Tryz.prog 49 #[.slice none 0 0] w fun e w' => e = .returned (.bool true) ∧ Below w.heap.size w w' := by
  obtain ⟨i0, hi, hz0, hz1, hz2⟩ := info_parts (show (Tryz.prog.info? 188).map (fun i => (i.zero, i.size, i.bytes)) = some (some (.slice none 0 0), 1, 24) by kernel_rfl)
  go_enter Tryz.func49, Tryz.ntmps49
  go_wp2_with fail
  go_loopg [3] 0 (fun g v wr => g = 0 ∧ v = .int .i64 0 ∧ Below w.heap.size w wr)
  case atStart => exact ⟨rfl, rfl, Below.refl _ _⟩
  case round =>
    obtain ⟨_, rfl, hb0⟩ := hrel
    go_wp2_with (refine wpList_make_full _ rfl _ _ 66 rfl wr.heap.size 188 i0 _ 1 Tryz.underlying66 hi hz0 hz1 _ _ 0 0 0 rfl rfl rfl rfl (by omega) (by decide) (Nat.le_refl _) ?_; intro w1 hown hgrow; have hm : Below w.heap.size w w1 := hb0.trans ((Below.refl _ _).grown hgrow hb0.size (fun g e => by cases e)))
    go_loopg [6] 0 (fun g v wr => g = 0 ∧ v = .int .i64 0 ∧ Below w.heap.size w wr)
    case atStart => exact ⟨rfl, rfl, hm⟩
    case round =>
      obtain ⟨_, rfl, hb1⟩ := hrel
      go_wp2_with fail
      go_loopg [9] 0 (fun g v wr => g = 0 ∧ v = .int .i64 0 ∧ Below w.heap.size w wr)
      case atStart => exact ⟨rfl, rfl, hb1⟩
      case round =>
        obtain ⟨_, rfl, hb2⟩ := hrel
        go_wp2_with fail
        go_loopg [11] 0 (fun g v wr => g = 0 ∧ v = .int .i64 0 ∧ Below w.heap.size w wr)
        case atStart => exact ⟨rfl, rfl, hb2⟩
        case round =>
          obtain ⟨_, rfl, hb3⟩ := hrel
          go_wp2_with fail
          go_loopg [14] 0 (fun g v wr => g = 0 ∧ v = .int .i64 0 ∧ Below w.heap.size w wr)
          case atStart => exact ⟨rfl, rfl, hb3⟩
          case round =>
            obtain ⟨_, rfl, hb4⟩ := hrel
            go_wp2_with fail
            go_ret
            exact ⟨rfl, hb4⟩
set_option maxHeartbeats 1000000 in
theorem flatSymbols_nil (w : World) : Calls Tryz.prog 50 #[.slice none 0 0] w fun e w' => e = .returned (.bool true) ∧ Below w.heap.size w w' := by
  obtain ⟨i0, hi, hz0, hz1, hz2⟩ := info_parts (show (Tryz.prog.info? 193).map (fun i => (i.zero, i.size, i.bytes)) = some (some (.slice none 0 0), 1, 24) by kernel_rfl)
  go_enter Tryz.func50, Tryz.ntmps50
  go_wp2_with fail
  go_loopg [3] 0 (fun g v wr => g = 0 ∧ v = .int .i64 0 ∧ Below w.heap.size w wr)
  case atStart => exact ⟨rfl, rfl, Below.refl _ _⟩
  case round =>
    obtain ⟨_, rfl, hb0⟩ := hrel
    go_wp2_with (refine wpList_make_full _ rfl _ _ 67 rfl wr.heap.size 193 i0 _ 1 Tryz.underlying67 hi hz0 hz1 _ _ 0 0 0 rfl rfl rfl rfl (by omega) (by decide) (Nat.le_refl _) ?_; intro w1 hown hgrow; have hm : Below w.heap.size w w1 := hb0.trans ((Below.refl _ _).grown hgrow hb0.size (fun g e => by cases e)))
    go_loopg [6] 0 (fun g v wr => g = 0 ∧ v = .int .i64 0 ∧ Below w.heap.size w wr)
    case atStart => exact ⟨rfl, rfl, hm⟩
    case round =>
      obtain ⟨_, rfl, hb1⟩ := hrel
      go_wp2_with fail
      go_loopg [9] 0 (fun g v wr => g = 0 ∧ v = .int .i64 0 ∧ Below w.heap.size w wr)
      case atStart => exact ⟨rfl, rfl, hb1⟩
      case round =>
        obtain ⟨_, rfl, hb2⟩ := hrel
        go_wp2_with fail
        go_loopg [11] 0 (fun g v wr => g = 0 ∧ v = .int .i64 0 ∧ Below w.heap.size w wr)
        case atStart => exact ⟨rfl, rfl, hb2⟩
        case round =>
          obtain ⟨_, rfl, hb3⟩ := hrel
          go_wp2_with fail
          go_loopg [14] 0 (fun g v wr => g = 0 ∧ v = .int .i64 0 ∧ Below w.heap.size w wr)
          case atStart => exact ⟨rfl, rfl, hb3⟩
          case round =>
            obtain ⟨_, rfl, hb4⟩ := hrel
            go_wp2_with fail
            go_ret
            exact ⟨rfl, hb4⟩
set_option maxHeartbeats 1000000 in
theorem flatGrammars_nil (w : World) : Calls Tryz.prog 51 #[.slice none 0 0] w fun e w' => e = .returned (.bool true) ∧ Below w.heap.size w w' := by
  obtain ⟨i0, hi, hz0, hz1, hz2⟩ := info_parts (show (Tryz.prog.info? 198).map (fun i => (i.zero, i.size, i.bytes)) = some (some (.slice none 0 0), 1, 24) by kernel_rfl)
  go_enter Tryz.func51, Tryz.ntmps51
  go_wp2_with fail
  go_loopg [3] 0 (fun g v wr => g = 0 ∧ v = .int .i64 0 ∧ Below w.heap.size w wr)
  case atStart => exact ⟨rfl, rfl, Below.refl _ _⟩
  case round =>
    obtain ⟨_, rfl, hb0⟩ := hrel
    go_wp2_with (refine wpList_make_full _ rfl _ _ 68 rfl wr.heap.size 198 i0 _ 1 Tryz.underlying68 hi hz0 hz1 _ _ 0 0 0 rfl rfl rfl rfl (by omega) (by decide) (Nat.le_refl _) ?_; intro w1 hown hgrow; have hm : Below w.heap.size w w1 := hb0.trans ((Below.refl _ _).grown hgrow hb0.size (fun g e => by cases e)))
    go_loopg [6] 0 (fun g v wr => g = 0 ∧ v = .int .i64 0 ∧ Below w.heap.size w wr)
    case atStart => exact ⟨rfl, rfl, hm⟩
    case round =>
      obtain ⟨_, rfl, hb1⟩ := hrel
      go_wp2_with fail
      go_loopg [9] 0 (fun g v wr => g = 0 ∧ v = .int .i64 0 ∧ Below w.heap.size w wr)
      case atStart => exact ⟨rfl, rfl, hb1⟩
      case round =>
        obtain ⟨_, rfl, hb2⟩ := hrel
        go_wp2_with fail
        go_loopg [11] 0 (fun g v wr => g = 0 ∧ v = .int .i64 0 ∧ Below w.heap.size w wr)
        case atStart => exact ⟨rfl, rfl, hb2⟩
        case round =>
          obtain ⟨_, rfl, hb3⟩ := hrel
          go_wp2_with fail
          go_loopg [14] 0 (fun g v wr => g = 0 ∧ v = .int .i64 0 ∧ Below w.heap.size w wr)
          case atStart => exact ⟨rfl, rfl, hb3⟩
          case round =>
            obtain ⟨_, rfl, hb4⟩ := hrel
            go_wp2_with fail
            go_ret
            exact ⟨rfl, hb4⟩
set_option maxHeartbeats 1000000 in
theorem flatItems_nil (w : World) : Calls Tryz.prog 52 #[.slice none 0 0] w fun e w' => e = .returned (.bool true) ∧ Below w.heap.size w w' := by
  obtain ⟨i0, hi, hz0, hz1, hz2⟩ := info_parts (show (Tryz.prog.info? 203).map (fun i => (i.zero, i.size, i.bytes)) = some (some (.slice none 0 0), 1, 24) by kernel_rfl)
  go_enter Tryz.func52, Tryz.ntmps52
  go_wp2_with fail
  go_loopg [3] 0 (fun g v wr => g = 0 ∧ v = .int .i64 0 ∧ Below w.heap.size w wr)
  case atStart => exact ⟨rfl, rfl, Below.refl _ _⟩
  case round =>
    obtain ⟨_, rfl, hb0⟩ := hrel
    go_wp2_with (refine wpList_make_full _ rfl _ _ 69 rfl wr.heap.size 203 i0 _ 1 Tryz.underlying69 hi hz0 hz1 _ _ 0 0 0 rfl rfl rfl rfl (by omega) (by decide) (Nat.le_refl _) ?_; intro w1 hown hgrow; have hm : Below w.heap.size w w1 := hb0.trans ((Below.refl _ _).grown hgrow hb0.size (fun g e => by cases e)))
    go_loopg [6] 0 (fun g v wr => g = 0 ∧ v = .int .i64 0 ∧ Below w.heap.size w wr)
    case atStart => exact ⟨rfl, rfl, hm⟩
    case round =>
      obtain ⟨_, rfl, hb1⟩ := hrel
      go_wp2_with fail
      go_loopg [9] 0 (fun g v wr => g = 0 ∧ v = .int .i64 0 ∧ Below w.heap.size w wr)
      case atStart => exact ⟨rfl, rfl, hb1⟩
      case round =>
        obtain ⟨_, rfl, hb2⟩ := hrel
        go_wp2_with fail
        go_loopg [11] 0 (fun g v wr => g = 0 ∧ v = .int .i64 0 ∧ Below w.heap.size w wr)
        case atStart => exact ⟨rfl, rfl, hb2⟩
        case round =>
          obtain ⟨_, rfl, hb3⟩ := hrel
          go_wp2_with fail
          go_loopg [14] 0 (fun g v wr => g = 0 ∧ v = .int .i64 0 ∧ Below w.heap.size w wr)
          case atStart => exact ⟨rfl, rfl, hb3⟩
          case round =>
            obtain ⟨_, rfl, hb4⟩ := hrel
            go_wp2_with fail
            go_ret
            exact ⟨rfl, hb4⟩
set_option maxHeartbeats 1000000 in
theorem flatEdges_nil (w : World) : Calls Tryz.prog 53 #[.slice none 0 0] w fun e w' => e = .returned (.bool true) ∧ Below w.heap.size w w' := by
  obtain ⟨i0, hi, hz0, hz1, hz2⟩ := info_parts (show (Tryz.prog.info? 207).map (fun i => (i.zero, i.size, i.bytes)) = some (some (.slice none 0 0), 1, 24) by kernel_rfl)
  go_enter Tryz.func53, Tryz.ntmps53
  go_wp2_with fail
  go_loopg [3] 0 (fun g v wr => g = 0 ∧ v = .int .i64 0 ∧ Below w.heap.size w wr)
  case atStart => exact ⟨rfl, rfl, Below.refl _ _⟩
  case round =>
    obtain ⟨_, rfl, hb0⟩ := hrel
    go_wp2_with (refine wpList_make_full _ rfl _ _ 70 rfl wr.heap.size 207 i0 _ 1 Tryz.underlying70 hi hz0 hz1 _ _ 0 0 0 rfl rfl rfl rfl (by omega) (by decide) (Nat.le_refl _) ?_; intro w1 hown hgrow; have hm : Below w.heap.size w w1 := hb0.trans ((Below.refl _ _).grown hgrow hb0.size (fun g e => by cases e)))
    go_loopg [6] 0 (fun g v wr => g = 0 ∧ v = .int .i64 0 ∧ Below w.heap.size w wr)
    case atStart => exact ⟨rfl, rfl, hm⟩
    case round =>
      obtain ⟨_, rfl, hb1⟩ := hrel
      go_wp2_with fail
      go_loopg [9] 0 (fun g v wr => g = 0 ∧ v = .int .i64 0 ∧ Below w.heap.size w wr)
      case atStart => exact ⟨rfl, rfl, hb1⟩
      case round =>
        obtain ⟨_, rfl, hb2⟩ := hrel
        go_wp2_with fail
        go_loopg [11] 0 (fun g v wr => g = 0 ∧ v = .int .i64 0 ∧ Below w.heap.size w wr)
        case atStart => exact ⟨rfl, rfl, hb2⟩
        case round =>
          obtain ⟨_, rfl, hb3⟩ := hrel
          go_wp2_with fail
          go_loopg [14] 0 (fun g v wr => g = 0 ∧ v = .int .i64 0 ∧ Below w.heap.size w wr)
          case atStart => exact ⟨rfl, rfl, hb3⟩
          case round =>
            obtain ⟨_, rfl, hb4⟩ := hrel
            go_wp2_with fail
            go_ret
            exact ⟨rfl, hb4⟩
set_option maxHeartbeats 1000000 in
theorem flatStates_nil (w : World) : Calls Tryz.prog 54 #[.slice none 0 0] w fun e w' => e = .returned (.bool true) ∧ Below w.heap.size w w' := by
  obtain ⟨i0, hi, hz0, hz1, hz2⟩ := info_parts (show (Tryz.prog.info? 211).map (fun i => (i.zero, i.size, i.bytes)) = some (some (.slice none 0 0), 1, 24) by kernel_rfl)
  go_enter Tryz.func54, Tryz.ntmps54
  go_wp2_with fail
  go_loopg [3] 0 (fun g v wr => g = 0 ∧ v = .int .i64 0 ∧ Below w.heap.size w wr)
  case atStart => exact ⟨rfl, rfl, Below.refl _ _⟩
  case round =>
    obtain ⟨_, rfl, hb0⟩ := hrel
    go_wp2_with (refine wpList_make_full _ rfl _ _ 71 rfl wr.heap.size 211 i0 _ 1 Tryz.underlying71 hi hz0 hz1 _ _ 0 0 0 rfl rfl rfl rfl (by omega) (by decide) (Nat.le_refl _) ?_; intro w1 hown hgrow; have hm : Below w.heap.size w w1 := hb0.trans ((Below.refl _ _).grown hgrow hb0.size (fun g e => by cases e)))
    go_loopg [6] 0 (fun g v wr => g = 0 ∧ v = .int .i64 0 ∧ Below w.heap.size w wr)
    case atStart => exact ⟨rfl, rfl, hm⟩
    case round =>
      obtain ⟨_, rfl, hb1⟩ := hrel
      go_wp2_with fail
      go_loopg [9] 0 (fun g v wr => g = 0 ∧ v = .int .i64 0 ∧ Below w.heap.size w wr)
      case atStart => exact ⟨rfl, rfl, hb1⟩
      case round =>
        obtain ⟨_, rfl, hb2⟩ := hrel
        go_wp2_with fail
        go_loopg [11] 0 (fun g v wr => g = 0 ∧ v = .int .i64 0 ∧ Below w.heap.size w wr)
        case atStart => exact ⟨rfl, rfl, hb2⟩
        case round =>
          obtain ⟨_, rfl, hb3⟩ := hrel
          go_wp2_with fail
          go_loopg [14] 0 (fun g v wr => g = 0 ∧ v = .int .i64 0 ∧ Below w.heap.size w wr)
          case atStart => exact ⟨rfl, rfl, hb3⟩
          case round =>
            obtain ⟨_, rfl, hb4⟩ := hrel
            go_wp2_with fail
            go_ret
            exact ⟨rfl, hb4⟩
set_option maxHeartbeats 1000000 in
theorem flatAheads_nil (w : World) : Calls Tryz.prog 55 #[.slice none 0 0] w fun e w' => e = .returned (.bool true) ∧ Below w.heap.size w w' := by
  obtain ⟨i0, hi, hz0, hz1, hz2⟩ := info_parts (show (Tryz.prog.info? 216).map (fun i => (i.zero, i.size, i.bytes)) = some (some (.slice none 0 0), 1, 24) by kernel_rfl)
  go_enter Tryz.func55, Tryz.ntmps55
  go_wp2_with fail
  go_loopg [3] 0 (fun g v wr => g = 0 ∧ v = .int .i64 0 ∧ Below w.heap.size w wr)
  case atStart => exact ⟨rfl, rfl, Below.refl _ _⟩
  case round =>
    obtain ⟨_, rfl, hb0⟩ := hrel
    go_wp2_with (refine wpList_make_full _ rfl _ _ 72 rfl wr.heap.size 216 i0 _ 1 Tryz.underlying72 hi hz0 hz1 _ _ 0 0 0 rfl rfl rfl rfl (by omega) (by decide) (Nat.le_refl _) ?_; intro w1 hown hgrow; have hm : Below w.heap.size w w1 := hb0.trans ((Below.refl _ _).grown hgrow hb0.size (fun g e => by cases e)))
    go_loopg [6] 0 (fun g v wr => g = 0 ∧ v = .int .i64 0 ∧ Below w.heap.size w wr)
    case atStart => exact ⟨rfl, rfl, hm⟩
    case round =>
      obtain ⟨_, rfl, hb1⟩ := hrel
      go_wp2_with fail
      go_loopg [9] 0 (fun g v wr => g = 0 ∧ v = .int .i64 0 ∧ Below w.heap.size w wr)
      case atStart => exact ⟨rfl, rfl, hb1⟩
      case round =>
        obtain ⟨_, rfl, hb2⟩ := hrel
        go_wp2_with fail
        go_loopg [11] 0 (fun g v wr => g = 0 ∧ v = .int .i64 0 ∧ Below w.heap.size w wr)
        case atStart => exact ⟨rfl, rfl, hb2⟩
        case round =>
          obtain ⟨_, rfl, hb3⟩ := hrel
          go_wp2_with fail
          go_loopg [14] 0 (fun g v wr => g = 0 ∧ v = .int .i64 0 ∧ Below w.heap.size w wr)
          case atStart => exact ⟨rfl, rfl, hb3⟩
          case round =>
            obtain ⟨_, rfl, hb4⟩ := hrel
            go_wp2_with fail
            go_ret
            exact ⟨rfl, hb4⟩
set_option maxHeartbeats 1000000 in
theorem flatActs_nil (w : World) : Calls Tryz.prog 56 #[.slice none 0 0] w fun e w' => e = .returned (.bool true) ∧ Below w.heap.size w w' := by
  obtain ⟨i0, hi, hz0, hz1, hz2⟩ := info_parts (show (Tryz.prog.info? 221).map (fun i => (i.zero, i.size, i.bytes)) = some (some (.slice none 0 0), 1, 24) by kernel_rfl)
  go_enter Tryz.func56, Tryz.ntmps56
  go_wp2_with fail
  go_loopg [3] 0 (fun g v wr => g = 0 ∧ v = .int .i64 0 ∧ Below w.heap.size w wr)
  case atStart => exact ⟨rfl, rfl, Below.refl _ _⟩
  case round =>
    obtain ⟨_, rfl, hb0⟩ := hrel
    go_wp2_with (refine wpList_make_full _ rfl _ _ 73 rfl wr.heap.size 221 i0 _ 1 Tryz.underlying73 hi hz0 hz1 _ _ 0 0 0 rfl rfl rfl rfl (by omega) (by decide) (Nat.le_refl _) ?_; intro w1 hown hgrow; have hm : Below w.heap.size w w1 := hb0.trans ((Below.refl _ _).grown hgrow hb0.size (fun g e => by cases e)))
    go_loopg [6] 0 (fun g v wr => g = 0 ∧ v = .int .i64 0 ∧ Below w.heap.size w wr)
    case atStart => exact ⟨rfl, rfl, hm⟩
    case round =>
      obtain ⟨_, rfl, hb1⟩ := hrel
      go_wp2_with fail
      go_loopg [9] 0 (fun g v wr => g = 0 ∧ v = .int .i64 0 ∧ Below w.heap.size w wr)
      case atStart => exact ⟨rfl, rfl, hb1⟩
      case round =>
        obtain ⟨_, rfl, hb2⟩ := hrel
        go_wp2_with fail
        go_loopg [11] 0 (fun g v wr => g = 0 ∧ v = .int .i64 0 ∧ Below w.heap.size w wr)
        case atStart => exact ⟨rfl, rfl, hb2⟩
        case round =>
          obtain ⟨_, rfl, hb3⟩ := hrel
          go_wp2_with fail
          go_loopg [14] 0 (fun g v wr => g = 0 ∧ v = .int .i64 0 ∧ Below w.heap.size w wr)
          case atStart => exact ⟨rfl, rfl, hb3⟩
          case round =>
            obtain ⟨_, rfl, hb4⟩ := hrel
            go_wp2_with fail
            go_ret
            exact ⟨rfl, hb4⟩
set_option maxHeartbeats 1000000 in
theorem flatClashes_nil (w : World) : Calls Tryz.prog 57 #[.slice none 0 0] w fun e w' => e = .returned (.bool true) ∧ Below w.heap.size w w' := by
  obtain ⟨i0, hi, hz0, hz1, hz2⟩ := info_parts (show (Tryz.prog.info? 226).map (fun i => (i.zero, i.size, i.bytes)) = some (some (.slice none 0 0), 1, 24) by kernel_rfl)
  go_enter Tryz.func57, Tryz.ntmps57
  go_wp2_with fail
  go_loopg [3] 0 (fun g v wr => g = 0 ∧ v = .int .i64 0 ∧ Below w.heap.size w wr)
  case atStart => exact ⟨rfl, rfl, Below.refl _ _⟩
  case round =>
    obtain ⟨_, rfl, hb0⟩ := hrel
    go_wp2_with (refine wpList_make_full _ rfl _ _ 74 rfl wr.heap.size 226 i0 _ 1 Tryz.underlying74 hi hz0 hz1 _ _ 0 0 0 rfl rfl rfl rfl (by omega) (by decide) (Nat.le_refl _) ?_; intro w1 hown hgrow; have hm : Below w.heap.size w w1 := hb0.trans ((Below.refl _ _).grown hgrow hb0.size (fun g e => by cases e)))
    go_loopg [6] 0 (fun g v wr => g = 0 ∧ v = .int .i64 0 ∧ Below w.heap.size w wr)
    case atStart => exact ⟨rfl, rfl, hm⟩
    case round =>
      obtain ⟨_, rfl, hb1⟩ := hrel
      go_wp2_with fail
      go_loopg [9] 0 (fun g v wr => g = 0 ∧ v = .int .i64 0 ∧ Below w.heap.size w wr)
      case atStart => exact ⟨rfl, rfl, hb1⟩
      case round =>
        obtain ⟨_, rfl, hb2⟩ := hrel
        go_wp2_with fail
        go_loopg [11] 0 (fun g v wr => g = 0 ∧ v = .int .i64 0 ∧ Below w.heap.size w wr)
        case atStart => exact ⟨rfl, rfl, hb2⟩
        case round =>
          obtain ⟨_, rfl, hb3⟩ := hrel
          go_wp2_with fail
          go_loopg [14] 0 (fun g v wr => g = 0 ∧ v = .int .i64 0 ∧ Below w.heap.size w wr)
          case atStart => exact ⟨rfl, rfl, hb3⟩
          case round =>
            obtain ⟨_, rfl, hb4⟩ := hrel
            go_wp2_with fail
            go_ret
            exact ⟨rfl, hb4⟩
set_option maxHeartbeats 1000000 in
theorem flatPackedRow_nil (w : World) : Calls Tryz.prog 58 #[.slice none 0 0] w fun e w' => e = .returned (.bool true) ∧ Below w.heap.size w w' := by
  obtain ⟨i0, hi, hz0, hz1, hz2⟩ := info_parts (show (Tryz.prog.info? 230).map (fun i => (i.zero, i.size, i.bytes)) = some (some (.slice none 0 0), 1, 24) by kernel_rfl)
  go_enter Tryz.func58, Tryz.ntmps58
  go_wp2_with fail
  go_loopg [3] 0 (fun g v wr => g = 0 ∧ v = .int .i64 0 ∧ Below w.heap.size w wr)
  case atStart => exact ⟨rfl, rfl, Below.refl _ _⟩
  case round =>
    obtain ⟨_, rfl, hb0⟩ := hrel
    go_wp2_with (refine wpList_make_full _ rfl _ _ 75 rfl wr.heap.size 230 i0 _ 1 Tryz.underlying75 hi hz0 hz1 _ _ 0 0 0 rfl rfl rfl rfl (by omega) (by decide) (Nat.le_refl _) ?_; intro w1 hown hgrow; have hm : Below w.heap.size w w1 := hb0.trans ((Below.refl _ _).grown hgrow hb0.size (fun g e => by cases e)))
    go_loopg [6] 0 (fun g v wr => g = 0 ∧ v = .int .i64 0 ∧ Below w.heap.size w wr)
    case atStart => exact ⟨rfl, rfl, hm⟩
    case round =>
      obtain ⟨_, rfl, hb1⟩ := hrel
      go_wp2_with fail
      go_loopg [9] 0 (fun g v wr => g = 0 ∧ v = .int .i64 0 ∧ Below w.heap.size w wr)
      case atStart => exact ⟨rfl, rfl, hb1⟩
      case round =>
        obtain ⟨_, rfl, hb2⟩ := hrel
        go_wp2_with fail
        go_loopg [11] 0 (fun g v wr => g = 0 ∧ v = .int .i64 0 ∧ Below w.heap.size w wr)
        case atStart => exact ⟨rfl, rfl, hb2⟩
        case round =>
          obtain ⟨_, rfl, hb3⟩ := hrel
          go_wp2_with fail
          go_loopg [14] 0 (fun g v wr => g = 0 ∧ v = .int .i64 0 ∧ Below w.heap.size w wr)
          case atStart => exact ⟨rfl, rfl, hb3⟩
          case round =>
            obtain ⟨_, rfl, hb4⟩ := hrel
            go_wp2_with fail
            go_ret
            exact ⟨rfl, hb4⟩
set_option maxHeartbeats 1000000 in
theorem flatTrees_nil (w : World) : Calls Tryz.prog 59 #[.slice none 0 0] w fun e w' => e = .returned (.bool true) ∧ Below w.heap.size w w' := by
  obtain ⟨i0, hi, hz0, hz1, hz2⟩ := info_parts (show (Tryz.prog.info? 235).map (fun i => (i.zero, i.size, i.bytes)) = some (some (.slice none 0 0), 1, 24) by kernel_rfl)
  go_enter Tryz.func59, Tryz.ntmps59
  go_wp2_with fail
  go_loopg [3] 0 (fun g v wr => g = 0 ∧ v = .int .i64 0 ∧ Below w.heap.size w wr)
  case atStart => exact ⟨rfl, rfl, Below.refl _ _⟩
  case round =>
    obtain ⟨_, rfl, hb0⟩ := hrel
    go_wp2_with (refine wpList_make_full _ rfl _ _ 76 rfl wr.heap.size 235 i0 _ 1 Tryz.underlying76 hi hz0 hz1 _ _ 0 0 0 rfl rfl rfl rfl (by omega) (by decide) (Nat.le_refl _) ?_; intro w1 hown hgrow; have hm : Below w.heap.size w w1 := hb0.trans ((Below.refl _ _).grown hgrow hb0.size (fun g e => by cases e)))
    go_loopg [6] 0 (fun g v wr => g = 0 ∧ v = .int .i64 0 ∧ Below w.heap.size w wr)
    case atStart => exact ⟨rfl, rfl, hm⟩
    case round =>
      obtain ⟨_, rfl, hb1⟩ := hrel
      go_wp2_with fail
      go_loopg [9] 0 (fun g v wr => g = 0 ∧ v = .int .i64 0 ∧ Below w.heap.size w wr)
      case atStart => exact ⟨rfl, rfl, hb1⟩
      case round =>
        obtain ⟨_, rfl, hb2⟩ := hrel
        go_wp2_with fail
        go_loopg [11] 0 (fun g v wr => g = 0 ∧ v = .int .i64 0 ∧ Below w.heap.size w wr)
        case atStart => exact ⟨rfl, rfl, hb2⟩
        case round =>
          obtain ⟨_, rfl, hb3⟩ := hrel
          go_wp2_with fail
          go_loopg [14] 0 (fun g v wr => g = 0 ∧ v = .int .i64 0 ∧ Below w.heap.size w wr)
          case atStart => exact ⟨rfl, rfl, hb3⟩
          case round =>
            obtain ⟨_, rfl, hb4⟩ := hrel
            go_wp2_with fail
            go_ret
            exact ⟨rfl, hb4⟩
set_option maxHeartbeats 1000000 in
theorem flatToks_nil (w : World) : Calls Tryz.prog 60 #[.slice none 0 0] w fun e w' => e = .returned (.bool true) ∧ Below w.heap.size w w' := by
  obtain ⟨i0, hi, hz0, hz1, hz2⟩ := info_parts (show (Tryz.prog.info? 240).map (fun i => (i.zero, i.size, i.bytes)) = some (some (.slice none 0 0), 1, 24) by kernel_rfl)
  go_enter Tryz.func60, Tryz.ntmps60
  go_wp2_with fail
  go_loopg [3] 0 (fun g v wr => g = 0 ∧ v = .int .i64 0 ∧ Below w.heap.size w wr)
  case atStart => exact ⟨rfl, rfl, Below.refl _ _⟩
  case round =>
    obtain ⟨_, rfl, hb0⟩ := hrel
    go_wp2_with (refine wpList_make_full _ rfl _ _ 77 rfl wr.heap.size 240 i0 _ 1 Tryz.underlying77 hi hz0 hz1 _ _ 0 0 0 rfl rfl rfl rfl (by omega) (by decide) (Nat.le_refl _) ?_; intro w1 hown hgrow; have hm : Below w.heap.size w w1 := hb0.trans ((Below.refl _ _).grown hgrow hb0.size (fun g e => by cases e)))
    go_loopg [6] 0 (fun g v wr => g = 0 ∧ v = .int .i64 0 ∧ Below w.heap.size w wr)
    case atStart => exact ⟨rfl, rfl, hm⟩
    case round =>
      obtain ⟨_, rfl, hb1⟩ := hrel
      go_wp2_with fail
      go_loopg [9] 0 (fun g v wr => g = 0 ∧ v = .int .i64 0 ∧ Below w.heap.size w wr)
      case atStart => exact ⟨rfl, rfl, hb1⟩
      case round =>
        obtain ⟨_, rfl, hb2⟩ := hrel
        go_wp2_with fail
        go_loopg [11] 0 (fun g v wr => g = 0 ∧ v = .int .i64 0 ∧ Below w.heap.size w wr)
        case atStart => exact ⟨rfl, rfl, hb2⟩
        case round =>
          obtain ⟨_, rfl, hb3⟩ := hrel
          go_wp2_with fail
          go_loopg [14] 0 (fun g v wr => g = 0 ∧ v = .int .i64 0 ∧ Below w.heap.size w wr)
          case atStart => exact ⟨rfl, rfl, hb3⟩
          case round =>
            obtain ⟨_, rfl, hb4⟩ := hrel
            go_wp2_with fail
            go_ret
            exact ⟨rfl, hb4⟩
set_option maxHeartbeats 1000000 in
theorem flatParsedRow_nil (w : World) : Calls Tryz.prog 61 #[.slice none 0 0] w fun e w' => e = .returned (.bool true) ∧ Below w.heap.size w w' := by
  obtain ⟨i0, hi, hz0, hz1, hz2⟩ := info_parts (show (Tryz.prog.info? 245).map (fun i => (i.zero, i.size, i.bytes)) = some (some (.slice none 0 0), 1, 24) by kernel_rfl)
  go_enter Tryz.func61, Tryz.ntmps61
  go_wp2_with fail
  go_loopg [3] 0 (fun g v wr => g = 0 ∧ v = .int .i64 0 ∧ Below w.heap.size w wr)
  case atStart => exact ⟨rfl, rfl, Below.refl _ _⟩
  case round =>
    obtain ⟨_, rfl, hb0⟩ := hrel
    go_wp2_with (refine wpList_make_full _ rfl _ _ 78 rfl wr.heap.size 245 i0 _ 1 Tryz.underlying78 hi hz0 hz1 _ _ 0 0 0 rfl rfl rfl rfl (by omega) (by decide) (Nat.le_refl _) ?_; intro w1 hown hgrow; have hm : Below w.heap.size w w1 := hb0.trans ((Below.refl _ _).grown hgrow hb0.size (fun g e => by cases e)))
    go_loopg [6] 0 (fun g v wr => g = 0 ∧ v = .int .i64 0 ∧ Below w.heap.size w wr)
    case atStart => exact ⟨rfl, rfl, hm⟩
    case round =>
      obtain ⟨_, rfl, hb1⟩ := hrel
      go_wp2_with fail
      go_loopg [9] 0 (fun g v wr => g = 0 ∧ v = .int .i64 0 ∧ Below w.heap.size w wr)
      case atStart => exact ⟨rfl, rfl, hb1⟩
      case round =>
        obtain ⟨_, rfl, hb2⟩ := hrel
        go_wp2_with fail
        go_loopg [11] 0 (fun g v wr => g = 0 ∧ v = .int .i64 0 ∧ Below w.heap.size w wr)
        case atStart => exact ⟨rfl, rfl, hb2⟩
        case round =>
          obtain ⟨_, rfl, hb3⟩ := hrel
          go_wp2_with fail
          go_loopg [14] 0 (fun g v wr => g = 0 ∧ v = .int .i64 0 ∧ Below w.heap.size w wr)
          case atStart => exact ⟨rfl, rfl, hb3⟩
          case round =>
            obtain ⟨_, rfl, hb4⟩ := hrel
            go_wp2_with fail
            go_ret
            exact ⟨rfl, hb4⟩
set_option maxHeartbeats 1000000 in
theorem flatNotices_nil (w : World) : Calls Tryz.prog 62 #[.slice none 0 0] w fun e w' => e = .returned (.bool true) ∧ Below w.heap.size w w' := by
  obtain ⟨i0, hi, hz0, hz1, hz2⟩ := info_parts (show (Tryz.prog.info? 250).map (fun i => (i.zero, i.size, i.bytes)) = some (some (.slice none 0 0), 1, 24) by kernel_rfl)
  go_enter Tryz.func62, Tryz.ntmps62
  go_wp2_with fail
  go_loopg [3] 0 (fun g v wr => g = 0 ∧ v = .int .i64 0 ∧ Below w.heap.size w wr)
  case atStart => exact ⟨rfl, rfl, Below.refl _ _⟩
  case round =>
    obtain ⟨_, rfl, hb0⟩ := hrel
    go_wp2_with (refine wpList_make_full _ rfl _ _ 79 rfl wr.heap.size 250 i0 _ 1 Tryz.underlying79 hi hz0 hz1 _ _ 0 0 0 rfl rfl rfl rfl (by omega) (by decide) (Nat.le_refl _) ?_; intro w1 hown hgrow; have hm : Below w.heap.size w w1 := hb0.trans ((Below.refl _ _).grown hgrow hb0.size (fun g e => by cases e)))
    go_loopg [6] 0 (fun g v wr => g = 0 ∧ v = .int .i64 0 ∧ Below w.heap.size w wr)
    case atStart => exact ⟨rfl, rfl, hm⟩
    case round =>
      obtain ⟨_, rfl, hb1⟩ := hrel
      go_wp2_with fail
      go_loopg [9] 0 (fun g v wr => g = 0 ∧ v = .int .i64 0 ∧ Below w.heap.size w wr)
      case atStart => exact ⟨rfl, rfl, hb1⟩
      case round =>
        obtain ⟨_, rfl, hb2⟩ := hrel
        go_wp2_with fail
        go_loopg [11] 0 (fun g v wr => g = 0 ∧ v = .int .i64 0 ∧ Below w.heap.size w wr)
        case atStart => exact ⟨rfl, rfl, hb2⟩
        case round =>
          obtain ⟨_, rfl, hb3⟩ := hrel
          go_wp2_with fail
          go_loopg [14] 0 (fun g v wr => g = 0 ∧ v = .int .i64 0 ∧ Below w.heap.size w wr)
          case atStart => exact ⟨rfl, rfl, hb3⟩
          case round =>
            obtain ⟨_, rfl, hb4⟩ := hrel
            go_wp2_with fail
            go_ret
            exact ⟨rfl, hb4⟩
end Go.Proofs.YtdbaikikdkcaiaaGreat
