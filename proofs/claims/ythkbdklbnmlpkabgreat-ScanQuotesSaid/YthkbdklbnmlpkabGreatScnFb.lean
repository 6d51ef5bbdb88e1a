/- The list of a kind that holds no lists lies apart. -/
import Derived.Test.YthkbdklbnmlpkabGreatRows
import Derived.WalkKit
import Derived.WalkLawsBesides
import Derived.WalkSpells
import Derived.Below
import Derived.Outline
import Derived.Lib.Hide
import Derived.Handy
import Derived.LoopTactic
import Derived.Deep.LoopGhost
import Derived.OwnWalk
set_option maxRecDepth 100000
namespace Go.Proofs.YthkbdklbnmlpkabGreat
open Go.Instr Go.RowKit
set_option linter.unusedVariables false
set_option maxHeartbeats 1000000 in
theorem flatSources_nil (w : World) : Calls Tryz.prog 39 #[.slice none 0 0] w fun e w' => e = .returned (.bool true) ∧ Below w.heap.size w w' := by
  obtain ⟨i0, hi, hz0, hz1, hz2⟩ := info_parts (show (Tryz.prog.info? 182).map (fun i => (i.zero, i.size, i.bytes)) = some (some (.slice none 0 0), 1, 24) by kernel_rfl)
  go_enter Tryz.func39, Tryz.ntmps39
  go_wp2_with fail
  go_loopg [3] 0 (fun g v wr => g = 0 ∧ v = .int .i64 0 ∧ Below w.heap.size w wr)
  case atStart => exact ⟨rfl, rfl, Below.refl _ _⟩
  case round =>
    obtain ⟨_, rfl, hb0⟩ := hrel
    go_wp2_with (refine wpList_make_full _ rfl _ _ 63 rfl wr.heap.size 182 i0 _ 1 Tryz.underlying63 hi hz0 hz1 _ _ 0 0 0 rfl rfl rfl rfl (by omega) (by decide) (Nat.le_refl _) ?_; intro w1 hown hgrow; have hm : Below w.heap.size w w1 := hb0.trans ((Below.refl _ _).grown hgrow hb0.size (fun g e => by cases e)))
    go_loopg [6] 0 (fun g v wr => g = 0 ∧ v = .int .i64 0 ∧ Below w.heap.size w wr)
    case atStart => exact ⟨rfl, rfl, hm⟩
    case round =>
      obtain ⟨_, rfl, hb1⟩ := hrel
      go_wp2_with fail
      go_loopg [9] 0 (fun g v wr => g = 0 ∧ v = .int .i64 0 ∧ Below w.heap.size w wr)
      case atStart => exact ⟨rfl, rfl, hb1⟩
      case round =>
        obtain ⟨_, rfl, hb2⟩ := hrel
        go_wp2_with fail
        go_loopg [11] 0 (fun g v wr => g = 0 ∧ v = .int .i64 0 ∧ Below w.heap.size w wr)
        case atStart => exact ⟨rfl, rfl, hb2⟩
        case round =>
          obtain ⟨_, rfl, hb3⟩ := hrel
          go_wp2_with fail
          go_loopg [14] 0 (fun g v wr => g = 0 ∧ v = .int .i64 0 ∧ Below w.heap.size w wr)
          case atStart => exact ⟨rfl, rfl, hb3⟩
          case round =>
            obtain ⟨_, rfl, hb4⟩ := hrel
            go_wp2_with fail
            go_ret
            exact ⟨rfl, hb4⟩
set_option maxHeartbeats 1000000 in
theorem flatProds_nil (w : World) : Calls Tryz.prog 40 #[.slice none 0 0] w fun e w' => e = .returned (.bool true) ∧ Below w.heap.size w w' := by
  obtain ⟨i0, hi, hz0, hz1, hz2⟩ := info_parts (show (Tryz.prog.info? 187).map (fun i => (i.zero, i.size, i.bytes)) = some (some (.slice none 0 0), 1, 24) by kernel_rfl)
  go_enter Tryz.func40, Tryz.ntmps40
  go_wp2_with fail
  go_loopg [3] 0 (fun g v wr => g = 0 ∧ v = .int .i64 0 ∧ Below w.heap.size w wr)
  case atStart => exact ⟨rfl, rfl, Below.refl _ _⟩
  case round =>
    obtain ⟨_, rfl, hb0⟩ := hrel
    go_wp2_with (refine wpList_make_full _ rfl _ _ 64 rfl wr.heap.size 187 i0 _ 1 Tryz.underlying64 hi hz0 hz1 _ _ 0 0 0 rfl rfl rfl rfl (by omega) (by decide) (Nat.le_refl _) ?_; intro w1 hown hgrow; have hm : Below w.heap.size w w1 := hb0.trans ((Below.refl _ _).grown hgrow hb0.size (fun g e => by cases e)))
    go_loopg [6] 0 (fun g v wr => g = 0 ∧ v = .int .i64 0 ∧ Below w.heap.size w wr)
    case atStart => exact ⟨rfl, rfl, hm⟩
    case round =>
      obtain ⟨_, rfl, hb1⟩ := hrel
      go_wp2_with fail
      go_loopg [9] 0 (fun g v wr => g = 0 ∧ v = .int .i64 0 ∧ Below w.heap.size w wr)
      case atStart => exact ⟨rfl, rfl, hb1⟩
      case round =>
        obtain ⟨_, rfl, hb2⟩ := hrel
        go_wp2_with fail
        go_loopg [11] 0 (fun g v wr => g = 0 ∧ v = .int .i64 0 ∧ Below w.heap.size w wr)
        case atStart => exact ⟨rfl, rfl, hb2⟩
        case round =>
          obtain ⟨_, rfl, hb3⟩ := hrel
          go_wp2_with fail
          go_loopg [14] 0 (fun g v wr => g = 0 ∧ v = .int .i64 0 ∧ Below w.heap.size w wr)
          case atStart => exact ⟨rfl, rfl, hb3⟩
          case round =>
            obtain ⟨_, rfl, hb4⟩ := hrel
            go_wp2_with fail
            go_ret
            exact ⟨rfl, hb4⟩
set_option maxHeartbeats 1000000 in
theorem flatSymbols_nil (w : World) : Calls Tryz.prog 41 #[.slice none 0 0] w fun e w' => e = .returned (.bool true) ∧ Below w.heap.size w w' := by
  obtain ⟨i0, hi, hz0, hz1, hz2⟩ := info_parts (show (Tryz.prog.info? 192).map (fun i => (i.zero, i.size, i.bytes)) = some (some (.slice none 0 0), 1, 24) by kernel_rfl)
  go_enter Tryz.func41, Tryz.ntmps41
  go_wp2_with fail
  go_loopg [3] 0 (fun g v wr => g = 0 ∧ v = .int .i64 0 ∧ Below w.heap.size w wr)
  case atStart => exact ⟨rfl, rfl, Below.refl _ _⟩
  case round =>
    obtain ⟨_, rfl, hb0⟩ := hrel
    go_wp2_with (refine wpList_make_full _ rfl _ _ 65 rfl wr.heap.size 192 i0 _ 1 Tryz.underlying65 hi hz0 hz1 _ _ 0 0 0 rfl rfl rfl rfl (by omega) (by decide) (Nat.le_refl _) ?_; intro w1 hown hgrow; have hm : Below w.heap.size w w1 := hb0.trans ((Below.refl _ _).grown hgrow hb0.size (fun g e => by cases e)))
    go_loopg [6] 0 (fun g v wr => g = 0 ∧ v = .int .i64 0 ∧ Below w.heap.size w wr)
    case atStart => exact ⟨rfl, rfl, hm⟩
    case round =>
      obtain ⟨_, rfl, hb1⟩ := hrel
      go_wp2_with fail
      go_loopg [9] 0 (fun g v wr => g = 0 ∧ v = .int .i64 0 ∧ Below w.heap.size w wr)
      case atStart => exact ⟨rfl, rfl, hb1⟩
      case round =>
        obtain ⟨_, rfl, hb2⟩ := hrel
        go_wp2_with fail
        go_loopg [11] 0 (fun g v wr => g = 0 ∧ v = .int .i64 0 ∧ Below w.heap.size w wr)
        case atStart => exact ⟨rfl, rfl, hb2⟩
        case round =>
          obtain ⟨_, rfl, hb3⟩ := hrel
          go_wp2_with fail
          go_loopg [14] 0 (fun g v wr => g = 0 ∧ v = .int .i64 0 ∧ Below w.heap.size w wr)
          case atStart => exact ⟨rfl, rfl, hb3⟩
          case round =>
            obtain ⟨_, rfl, hb4⟩ := hrel
            go_wp2_with fail
            go_ret
            exact ⟨rfl, hb4⟩
set_option maxHeartbeats 1000000 in
theorem flatGrammars_nil (w : World) : Calls Tryz.prog 42 #[.slice none 0 0] w fun e w' => e = .returned (.bool true) ∧ Below w.heap.size w w' := by
  obtain ⟨i0, hi, hz0, hz1, hz2⟩ := info_parts (show (Tryz.prog.info? 197).map (fun i => (i.zero, i.size, i.bytes)) = some (some (.slice none 0 0), 1, 24) by kernel_rfl)
  go_enter Tryz.func42, Tryz.ntmps42
  go_wp2_with fail
  go_loopg [3] 0 (fun g v wr => g = 0 ∧ v = .int .i64 0 ∧ Below w.heap.size w wr)
  case atStart => exact ⟨rfl, rfl, Below.refl _ _⟩
  case round =>
    obtain ⟨_, rfl, hb0⟩ := hrel
    go_wp2_with (refine wpList_make_full _ rfl _ _ 66 rfl wr.heap.size 197 i0 _ 1 Tryz.underlying66 hi hz0 hz1 _ _ 0 0 0 rfl rfl rfl rfl (by omega) (by decide) (Nat.le_refl _) ?_; intro w1 hown hgrow; have hm : Below w.heap.size w w1 := hb0.trans ((Below.refl _ _).grown hgrow hb0.size (fun g e => by cases e)))
    go_loopg [6] 0 (fun g v wr => g = 0 ∧ v = .int .i64 0 ∧ Below w.heap.size w wr)
    case atStart => exact ⟨rfl, rfl, hm⟩
    case round =>
      obtain ⟨_, rfl, hb1⟩ := hrel
      go_wp2_with fail
      go_loopg [9] 0 (fun g v wr => g = 0 ∧ v = .int .i64 0 ∧ Below w.heap.size w wr)
      case atStart => exact ⟨rfl, rfl, hb1⟩
      case round =>
        obtain ⟨_, rfl, hb2⟩ := hrel
        go_wp2_with fail
        go_loopg [11] 0 (fun g v wr => g = 0 ∧ v = .int .i64 0 ∧ Below w.heap.size w wr)
        case atStart => exact ⟨rfl, rfl, hb2⟩
        case round =>
          obtain ⟨_, rfl, hb3⟩ := hrel
          go_wp2_with fail
          go_loopg [14] 0 (fun g v wr => g = 0 ∧ v = .int .i64 0 ∧ Below w.heap.size w wr)
          case atStart => exact ⟨rfl, rfl, hb3⟩
          case round =>
            obtain ⟨_, rfl, hb4⟩ := hrel
            go_wp2_with fail
            go_ret
            exact ⟨rfl, hb4⟩
set_option maxHeartbeats 1000000 in
theorem flatItems_nil (w : World) : Calls Tryz.prog 43 #[.slice none 0 0] w fun e w' => e = .returned (.bool true) ∧ Below w.heap.size w w' := by
  obtain ⟨i0, hi, hz0, hz1, hz2⟩ := info_parts (show (Tryz.prog.info? 202).map (fun i => (i.zero, i.size, i.bytes)) = some (some (.slice none 0 0), 1, 24) by kernel_rfl)
  go_enter Tryz.func43, Tryz.ntmps43
  go_wp2_with fail
  go_loopg [3] 0 (fun g v wr => g = 0 ∧ v = .int .i64 0 ∧ Below w.heap.size w wr)
  case atStart => exact ⟨rfl, rfl, Below.refl _ _⟩
  case round =>
    obtain ⟨_, rfl, hb0⟩ := hrel
    go_wp2_with (refine wpList_make_full _ rfl _ _ 67 rfl wr.heap.size 202 i0 _ 1 Tryz.underlying67 hi hz0 hz1 _ _ 0 0 0 rfl rfl rfl rfl (by omega) (by decide) (Nat.le_refl _) ?_; intro w1 hown hgrow; have hm : Below w.heap.size w w1 := hb0.trans ((Below.refl _ _).grown hgrow hb0.size (fun g e => by cases e)))
    go_loopg [6] 0 (fun g v wr => g = 0 ∧ v = .int .i64 0 ∧ Below w.heap.size w wr)
    case atStart => exact ⟨rfl, rfl, hm⟩
    case round =>
      obtain ⟨_, rfl, hb1⟩ := hrel
      go_wp2_with fail
      go_loopg [9] 0 (fun g v wr => g = 0 ∧ v = .int .i64 0 ∧ Below w.heap.size w wr)
      case atStart => exact ⟨rfl, rfl, hb1⟩
      case round =>
        obtain ⟨_, rfl, hb2⟩ := hrel
        go_wp2_with fail
        go_loopg [11] 0 (fun g v wr => g = 0 ∧ v = .int .i64 0 ∧ Below w.heap.size w wr)
        case atStart => exact ⟨rfl, rfl, hb2⟩
        case round =>
          obtain ⟨_, rfl, hb3⟩ := hrel
          go_wp2_with fail
          go_loopg [14] 0 (fun g v wr => g = 0 ∧ v = .int .i64 0 ∧ Below w.heap.size w wr)
          case atStart => exact ⟨rfl, rfl, hb3⟩
          case round =>
            obtain ⟨_, rfl, hb4⟩ := hrel
            go_wp2_with fail
            go_ret
            exact ⟨rfl, hb4⟩
set_option maxHeartbeats 1000000 in
theorem flatEdges_nil (w : World) : Calls Tryz.prog 44 #[.slice none 0 0] w fun e w' => e = .returned (.bool true) ∧ Below w.heap.size w w' := by
  obtain ⟨i0, hi, hz0, hz1, hz2⟩ := info_parts (show (Tryz.prog.info? 206).map (fun i => (i.zero, i.size, i.bytes)) = some (some (.slice none 0 0), 1, 24) by kernel_rfl)
  go_enter Tryz.func44, Tryz.ntmps44
  go_wp2_with fail
  go_loopg [3] 0 (fun g v wr => g = 0 ∧ v = .int .i64 0 ∧ Below w.heap.size w wr)
  case atStart => exact ⟨rfl, rfl, Below.refl _ _⟩
  case round =>
    obtain ⟨_, rfl, hb0⟩ := hrel
    go_wp2_with (refine wpList_make_full _ rfl _ _ 68 rfl wr.heap.size 206 i0 _ 1 Tryz.underlying68 hi hz0 hz1 _ _ 0 0 0 rfl rfl rfl rfl (by omega) (by decide) (Nat.le_refl _) ?_; intro w1 hown hgrow; have hm : Below w.heap.size w w1 := hb0.trans ((Below.refl _ _).grown hgrow hb0.size (fun g e => by cases e)))
    go_loopg [6] 0 (fun g v wr => g = 0 ∧ v = .int .i64 0 ∧ Below w.heap.size w wr)
    case atStart => exact ⟨rfl, rfl, hm⟩
    case round =>
      obtain ⟨_, rfl, hb1⟩ := hrel
      go_wp2_with fail
      go_loopg [9] 0 (fun g v wr => g = 0 ∧ v = .int .i64 0 ∧ Below w.heap.size w wr)
      case atStart => exact ⟨rfl, rfl, hb1⟩
      case round =>
        obtain ⟨_, rfl, hb2⟩ := hrel
        go_wp2_with fail
        go_loopg [11] 0 (fun g v wr => g = 0 ∧ v = .int .i64 0 ∧ Below w.heap.size w wr)
        case atStart => exact ⟨rfl, rfl, hb2⟩
        case round =>
          obtain ⟨_, rfl, hb3⟩ := hrel
          go_wp2_with fail
          go_loopg [14] 0 (fun g v wr => g = 0 ∧ v = .int .i64 0 ∧ Below w.heap.size w wr)
          case atStart => exact ⟨rfl, rfl, hb3⟩
          case round =>
            obtain ⟨_, rfl, hb4⟩ := hrel
            go_wp2_with fail
            go_ret
            exact ⟨rfl, hb4⟩
set_option maxHeartbeats 1000000 in
theorem flatStates_nil (w : World) : Calls Tryz.prog 45 #[.slice none 0 0] w fun e w' => e = .returned (.bool true) ∧ Below w.heap.size w w' := by
  obtain ⟨i0, hi, hz0, hz1, hz2⟩ := info_parts (show (Tryz.prog.info? 210).map (fun i => (i.zero, i.size, i.bytes)) = some (some (.slice none 0 0), 1, 24) by kernel_rfl)
  go_enter Tryz.func45, Tryz.ntmps45
  go_wp2_with fail
  go_loopg [3] 0 (fun g v wr => g = 0 ∧ v = .int .i64 0 ∧ Below w.heap.size w wr)
  case atStart => exact ⟨rfl, rfl, Below.refl _ _⟩
  case round =>
    obtain ⟨_, rfl, hb0⟩ := hrel
    go_wp2_with (refine wpList_make_full _ rfl _ _ 69 rfl wr.heap.size 210 i0 _ 1 Tryz.underlying69 hi hz0 hz1 _ _ 0 0 0 rfl rfl rfl rfl (by omega) (by decide) (Nat.le_refl _) ?_; intro w1 hown hgrow; have hm : Below w.heap.size w w1 := hb0.trans ((Below.refl _ _).grown hgrow hb0.size (fun g e => by cases e)))
    go_loopg [6] 0 (fun g v wr => g = 0 ∧ v = .int .i64 0 ∧ Below w.heap.size w wr)
    case atStart => exact ⟨rfl, rfl, hm⟩
    case round =>
      obtain ⟨_, rfl, hb1⟩ := hrel
      go_wp2_with fail
      go_loopg [9] 0 (fun g v wr => g = 0 ∧ v = .int .i64 0 ∧ Below w.heap.size w wr)
      case atStart => exact ⟨rfl, rfl, hb1⟩
      case round =>
        obtain ⟨_, rfl, hb2⟩ := hrel
        go_wp2_with fail
        go_loopg [11] 0 (fun g v wr => g = 0 ∧ v = .int .i64 0 ∧ Below w.heap.size w wr)
        case atStart => exact ⟨rfl, rfl, hb2⟩
        case round =>
          obtain ⟨_, rfl, hb3⟩ := hrel
          go_wp2_with fail
          go_loopg [14] 0 (fun g v wr => g = 0 ∧ v = .int .i64 0 ∧ Below w.heap.size w wr)
          case atStart => exact ⟨rfl, rfl, hb3⟩
          case round =>
            obtain ⟨_, rfl, hb4⟩ := hrel
            go_wp2_with fail
            go_ret
            exact ⟨rfl, hb4⟩
set_option maxHeartbeats 1000000 in
theorem flatAheads_nil (w : World) : Calls Tryz.prog 46 #[.slice none 0 0] w fun e w' => e = .returned (.bool true) ∧ Below w.heap.size w w' := by
  obtain ⟨i0, hi, hz0, hz1, hz2⟩ := info_parts (show (Tryz.prog.info? 215).map (fun i => (i.zero, i.size, i.bytes)) = some (some (.slice none 0 0), 1, 24) by kernel_rfl)
  go_enter Tryz.func46, Tryz.ntmps46
  go_wp2_with fail
  go_loopg [3] 0 (fun g v wr => g = 0 ∧ v = .int .i64 0 ∧ Below w.heap.size w wr)
  case atStart => exact ⟨rfl, rfl, Below.refl _ _⟩
  case round =>
    obtain ⟨_, rfl, hb0⟩ := hrel
    go_wp2_with (refine wpList_make_full _ rfl _ _ 70 rfl wr.heap.size 215 i0 _ 1 Tryz.underlying70 hi hz0 hz1 _ _ 0 0 0 rfl rfl rfl rfl (by omega) (by decide) (Nat.le_refl _) ?_; intro w1 hown hgrow; have hm : Below w.heap.size w w1 := hb0.trans ((Below.refl _ _).grown hgrow hb0.size (fun g e => by cases e)))
    go_loopg [6] 0 (fun g v wr => g = 0 ∧ v = .int .i64 0 ∧ Below w.heap.size w wr)
    case atStart => exact ⟨rfl, rfl, hm⟩
    case round =>
      obtain ⟨_, rfl, hb1⟩ := hrel
      go_wp2_with fail
      go_loopg [9] 0 (fun g v wr => g = 0 ∧ v = .int .i64 0 ∧ Below w.heap.size w wr)
      case atStart => exact ⟨rfl, rfl, hb1⟩
      case round =>
        obtain ⟨_, rfl, hb2⟩ := hrel
        go_wp2_with fail
        go_loopg [11] 0 (fun g v wr => g = 0 ∧ v = .int .i64 0 ∧ Below w.heap.size w wr)
        case atStart => exact ⟨rfl, rfl, hb2⟩
        case round =>
          obtain ⟨_, rfl, hb3⟩ := hrel
          go_wp2_with fail
          go_loopg [14] 0 (fun g v wr => g = 0 ∧ v = .int .i64 0 ∧ Below w.heap.size w wr)
          case atStart => exact ⟨rfl, rfl, hb3⟩
          case round =>
            obtain ⟨_, rfl, hb4⟩ := hrel
            go_wp2_with fail
            go_ret
            exact ⟨rfl, hb4⟩
set_option maxHeartbeats 1000000 in
theorem flatActs_nil (w : World) : Calls Tryz.prog 47 #[.slice none 0 0] w fun e w' => e = .returned (.bool true) ∧ Below w.heap.size w w' := by
  obtain ⟨i0, hi, hz0, hz1, hz2⟩ := info_parts (show (Tryz.prog.info? 220).map (fun i => (i.zero, i.size, i.bytes)) = some (some (.slice none 0 0), 1, 24) by kernel_rfl)
  go_enter Tryz.func47, Tryz.ntmps47
  go_wp2_with fail
  go_loopg [3] 0 (fun g v wr => g = 0 ∧ v = .int .i64 0 ∧ Below w.heap.size w wr)
  case atStart => exact ⟨rfl, rfl, Below.refl _ _⟩
  case round =>
    obtain ⟨_, rfl, hb0⟩ := hrel
    go_wp2_with (refine wpList_make_full _ rfl _ _ 71 rfl wr.heap.size 220 i0 _ 1 Tryz.underlying71 hi hz0 hz1 _ _ 0 0 0 rfl rfl rfl rfl (by omega) (by decide) (Nat.le_refl _) ?_; intro w1 hown hgrow; have hm : Below w.heap.size w w1 := hb0.trans ((Below.refl _ _).grown hgrow hb0.size (fun g e => by cases e)))
    go_loopg [6] 0 (fun g v wr => g = 0 ∧ v = .int .i64 0 ∧ Below w.heap.size w wr)
    case atStart => exact ⟨rfl, rfl, hm⟩
    case round =>
      obtain ⟨_, rfl, hb1⟩ := hrel
      go_wp2_with fail
      go_loopg [9] 0 (fun g v wr => g = 0 ∧ v = .int .i64 0 ∧ Below w.heap.size w wr)
      case atStart => exact ⟨rfl, rfl, hb1⟩
      case round =>
        obtain ⟨_, rfl, hb2⟩ := hrel
        go_wp2_with fail
        go_loopg [11] 0 (fun g v wr => g = 0 ∧ v = .int .i64 0 ∧ Below w.heap.size w wr)
        case atStart => exact ⟨rfl, rfl, hb2⟩
        case round =>
          obtain ⟨_, rfl, hb3⟩ := hrel
          go_wp2_with fail
          go_loopg [14] 0 (fun g v wr => g = 0 ∧ v = .int .i64 0 ∧ Below w.heap.size w wr)
          case atStart => exact ⟨rfl, rfl, hb3⟩
          case round =>
            obtain ⟨_, rfl, hb4⟩ := hrel
            go_wp2_with fail
            go_ret
            exact ⟨rfl, hb4⟩
set_option maxHeartbeats 1000000 in
theorem flatClashes_nil (w : World) : Calls Tryz.prog 48 #[.slice none 0 0] w fun e w' => e = .returned (.bool true) ∧ Below w.heap.size w w' := by
  obtain ⟨i0, hi, hz0, hz1, hz2⟩ := info_parts (show (Tryz.prog.info? 225).map (fun i => (i.zero, i.size, i.bytes)) = some (some (.slice none 0 0), 1, 24) by kernel_rfl)
  go_enter Tryz.func48, Tryz.ntmps48
  go_wp2_with fail
  go_loopg [3] 0 (fun g v wr => g = 0 ∧ v = .int .i64 0 ∧ Below w.heap.size w wr)
  case atStart => exact ⟨rfl, rfl, Below.refl _ _⟩
  case round =>
    obtain ⟨_, rfl, hb0⟩ := hrel
    go_wp2_with (refine wpList_make_full _ rfl _ _ 72 rfl wr.heap.size 225 i0 _ 1 Tryz.underlying72 hi hz0 hz1 _ _ 0 0 0 rfl rfl rfl rfl (by omega) (by decide) (Nat.le_refl _) ?_; intro w1 hown hgrow; have hm : Below w.heap.size w w1 := hb0.trans ((Below.refl _ _).grown hgrow hb0.size (fun g e => by cases e)))
    go_loopg [6] 0 (fun g v wr => g = 0 ∧ v = .int .i64 0 ∧ Below w.heap.size w wr)
    case atStart => exact ⟨rfl, rfl, hm⟩
    case round =>
      obtain ⟨_, rfl, hb1⟩ := hrel
      go_wp2_with fail
      go_loopg [9] 0 (fun g v wr => g = 0 ∧ v = .int .i64 0 ∧ Below w.heap.size w wr)
      case atStart => exact ⟨rfl, rfl, hb1⟩
      case round =>
        obtain ⟨_, rfl, hb2⟩ := hrel
        go_wp2_with fail
        go_loopg [11] 0 (fun g v wr => g = 0 ∧ v = .int .i64 0 ∧ Below w.heap.size w wr)
        case atStart => exact ⟨rfl, rfl, hb2⟩
        case round =>
          obtain ⟨_, rfl, hb3⟩ := hrel
          go_wp2_with fail
          go_loopg [14] 0 (fun g v wr => g = 0 ∧ v = .int .i64 0 ∧ Below w.heap.size w wr)
          case atStart => exact ⟨rfl, rfl, hb3⟩
          case round =>
            obtain ⟨_, rfl, hb4⟩ := hrel
            go_wp2_with fail
            go_ret
            exact ⟨rfl, hb4⟩
set_option maxHeartbeats 1000000 in
theorem flatPackedRow_nil (w : World) : Calls Tryz.prog 49 #[.slice none 0 0] w fun e w' => e = .returned (.bool true) ∧ Below w.heap.size w w' := by
  obtain ⟨i0, hi, hz0, hz1, hz2⟩ := info_parts (show (Tryz.prog.info? 229).map (fun i => (i.zero, i.size, i.bytes)) = some (some (.slice none 0 0), 1, 24) by kernel_rfl)
  go_enter Tryz.func49, Tryz.ntmps49
  go_wp2_with fail
  go_loopg [3] 0 (fun g v wr => g = 0 ∧ v = .int .i64 0 ∧ Below w.heap.size w wr)
  case atStart => exact ⟨rfl, rfl, Below.refl _ _⟩
  case round =>
    obtain ⟨_, rfl, hb0⟩ := hrel
    go_wp2_with (refine wpList_make_full _ rfl _ _ 73 rfl wr.heap.size 229 i0 _ 1 Tryz.underlying73 hi hz0 hz1 _ _ 0 0 0 rfl rfl rfl rfl (by omega) (by decide) (Nat.le_refl _) ?_; intro w1 hown hgrow; have hm : Below w.heap.size w w1 := hb0.trans ((Below.refl _ _).grown hgrow hb0.size (fun g e => by cases e)))
    go_loopg [6] 0 (fun g v wr => g = 0 ∧ v = .int .i64 0 ∧ Below w.heap.size w wr)
    case atStart => exact ⟨rfl, rfl, hm⟩
    case round =>
      obtain ⟨_, rfl, hb1⟩ := hrel
      go_wp2_with fail
      go_loopg [9] 0 (fun g v wr => g = 0 ∧ v = .int .i64 0 ∧ Below w.heap.size w wr)
      case atStart => exact ⟨rfl, rfl, hb1⟩
      case round =>
        obtain ⟨_, rfl, hb2⟩ := hrel
        go_wp2_with fail
        go_loopg [11] 0 (fun g v wr => g = 0 ∧ v = .int .i64 0 ∧ Below w.heap.size w wr)
        case atStart => exact ⟨rfl, rfl, hb2⟩
        case round =>
          obtain ⟨_, rfl, hb3⟩ := hrel
          go_wp2_with fail
          go_loopg [14] 0 (fun g v wr => g = 0 ∧ v = .int .i64 0 ∧ Below w.heap.size w wr)
          case atStart => exact ⟨rfl, rfl, hb3⟩
          case round =>
            obtain ⟨_, rfl, hb4⟩ := hrel
            go_wp2_with fail
            go_ret
            exact ⟨rfl, hb4⟩
set_option maxHeartbeats 1000000 in
theorem flatTrees_nil (w : World) : Calls Tryz.prog 50 #[.slice none 0 0] w fun e w' => e = .returned (.bool true) ∧ Below w.heap.size w w' := by
  obtain ⟨i0, hi, hz0, hz1, hz2⟩ := info_parts (show (Tryz.prog.info? 234).map (fun i => (i.zero, i.size, i.bytes)) = some (some (.slice none 0 0), 1, 24) by kernel_rfl)
  go_enter Tryz.func50, Tryz.ntmps50
  go_wp2_with fail
  go_loopg [3] 0 (fun g v wr => g = 0 ∧ v = .int .i64 0 ∧ Below w.heap.size w wr)
  case atStart => exact ⟨rfl, rfl, Below.refl _ _⟩
  case round =>
    obtain ⟨_, rfl, hb0⟩ := hrel
    go_wp2_with (refine wpList_make_full _ rfl _ _ 74 rfl wr.heap.size 234 i0 _ 1 Tryz.underlying74 hi hz0 hz1 _ _ 0 0 0 rfl rfl rfl rfl (by omega) (by decide) (Nat.le_refl _) ?_; intro w1 hown hgrow; have hm : Below w.heap.size w w1 := hb0.trans ((Below.refl _ _).grown hgrow hb0.size (fun g e => by cases e)))
    go_loopg [6] 0 (fun g v wr => g = 0 ∧ v = .int .i64 0 ∧ Below w.heap.size w wr)
    case atStart => exact ⟨rfl, rfl, hm⟩
    case round =>
      obtain ⟨_, rfl, hb1⟩ := hrel
      go_wp2_with fail
      go_loopg [9] 0 (fun g v wr => g = 0 ∧ v = .int .i64 0 ∧ Below w.heap.size w wr)
      case atStart => exact ⟨rfl, rfl, hb1⟩
      case round =>
        obtain ⟨_, rfl, hb2⟩ := hrel
        go_wp2_with fail
        go_loopg [11] 0 (fun g v wr => g = 0 ∧ v = .int .i64 0 ∧ Below w.heap.size w wr)
        case atStart => exact ⟨rfl, rfl, hb2⟩
        case round =>
          obtain ⟨_, rfl, hb3⟩ := hrel
          go_wp2_with fail
          go_loopg [14] 0 (fun g v wr => g = 0 ∧ v = .int .i64 0 ∧ Below w.heap.size w wr)
          case atStart => exact ⟨rfl, rfl, hb3⟩
          case round =>
            obtain ⟨_, rfl, hb4⟩ := hrel
            go_wp2_with fail
            go_ret
            exact ⟨rfl, hb4⟩
set_option maxHeartbeats 1000000 in
theorem flatToks_nil (w : World) : Calls Tryz.prog 51 #[.slice none 0 0] w fun e w' => e = .returned (.bool true) ∧ Below w.heap.size w w' := by
  obtain ⟨i0, hi, hz0, hz1, hz2⟩ := info_parts (show (Tryz.prog.info? 239).map (fun i => (i.zero, i.size, i.bytes)) = some (some (.slice none 0 0), 1, 24) by kernel_rfl)
  go_enter Tryz.func51, Tryz.ntmps51
  go_wp2_with fail
  go_loopg [3] 0 (fun g v wr => g = 0 ∧ v = .int .i64 0 ∧ Below w.heap.size w wr)
  case atStart => exact ⟨rfl, rfl, Below.refl _ _⟩
  case round =>
    obtain ⟨_, rfl, hb0⟩ := hrel
    go_wp2_with (refine wpList_make_full _ rfl _ _ 75 rfl wr.heap.size 239 i0 _ 1 Tryz.underlying75 hi hz0 hz1 _ _ 0 0 0 rfl rfl rfl rfl (by omega) (by decide) (Nat.le_refl _) ?_; intro w1 hown hgrow; have hm : Below w.heap.size w w1 := hb0.trans ((Below.refl _ _).grown hgrow hb0.size (fun g e => by cases e)))
    go_loopg [6] 0 (fun g v wr => g = 0 ∧ v = .int .i64 0 ∧ Below w.heap.size w wr)
    case atStart => exact ⟨rfl, rfl, hm⟩
    case round =>
      obtain ⟨_, rfl, hb1⟩ := hrel
      go_wp2_with fail
      go_loopg [9] 0 (fun g v wr => g = 0 ∧ v = .int .i64 0 ∧ Below w.heap.size w wr)
      case atStart => exact ⟨rfl, rfl, hb1⟩
      case round =>
        obtain ⟨_, rfl, hb2⟩ := hrel
        go_wp2_with fail
        go_loopg [11] 0 (fun g v wr => g = 0 ∧ v = .int .i64 0 ∧ Below w.heap.size w wr)
        case atStart => exact ⟨rfl, rfl, hb2⟩
        case round =>
          obtain ⟨_, rfl, hb3⟩ := hrel
          go_wp2_with fail
          go_loopg [14] 0 (fun g v wr => g = 0 ∧ v = .int .i64 0 ∧ Below w.heap.size w wr)
          case atStart => exact ⟨rfl, rfl, hb3⟩
          case round =>
            obtain ⟨_, rfl, hb4⟩ := hrel
            go_wp2_with fail
            go_ret
            exact ⟨rfl, hb4⟩
set_option maxHeartbeats 1000000 in
theorem flatParsedRow_nil (w : World) : Calls Tryz.prog 52 #[.slice none 0 0] w fun e w' => e = .returned (.bool true) ∧ Below w.heap.size w w' := by
  obtain ⟨i0, hi, hz0, hz1, hz2⟩ := info_parts (show (Tryz.prog.info? 244).map (fun i => (i.zero, i.size, i.bytes)) = some (some (.slice none 0 0), 1, 24) by kernel_rfl)
  go_enter Tryz.func52, Tryz.ntmps52
  go_wp2_with fail
  go_loopg [3] 0 (fun g v wr => g = 0 ∧ v = .int .i64 0 ∧ Below w.heap.size w wr)
  case atStart => exact ⟨rfl, rfl, Below.refl _ _⟩
  case round =>
    obtain ⟨_, rfl, hb0⟩ := hrel
    go_wp2_with (refine wpList_make_full _ rfl _ _ 76 rfl wr.heap.size 244 i0 _ 1 Tryz.underlying76 hi hz0 hz1 _ _ 0 0 0 rfl rfl rfl rfl (by omega) (by decide) (Nat.le_refl _) ?_; intro w1 hown hgrow; have hm : Below w.heap.size w w1 := hb0.trans ((Below.refl _ _).grown hgrow hb0.size (fun g e => by cases e)))
    go_loopg [6] 0 (fun g v wr => g = 0 ∧ v = .int .i64 0 ∧ Below w.heap.size w wr)
    case atStart => exact ⟨rfl, rfl, hm⟩
    case round =>
      obtain ⟨_, rfl, hb1⟩ := hrel
      go_wp2_with fail
      go_loopg [9] 0 (fun g v wr => g = 0 ∧ v = .int .i64 0 ∧ Below w.heap.size w wr)
      case atStart => exact ⟨rfl, rfl, hb1⟩
      case round =>
        obtain ⟨_, rfl, hb2⟩ := hrel
        go_wp2_with fail
        go_loopg [11] 0 (fun g v wr => g = 0 ∧ v = .int .i64 0 ∧ Below w.heap.size w wr)
        case atStart => exact ⟨rfl, rfl, hb2⟩
        case round =>
          obtain ⟨_, rfl, hb3⟩ := hrel
          go_wp2_with fail
          go_loopg [14] 0 (fun g v wr => g = 0 ∧ v = .int .i64 0 ∧ Below w.heap.size w wr)
          case atStart => exact ⟨rfl, rfl, hb3⟩
          case round =>
            obtain ⟨_, rfl, hb4⟩ := hrel
            go_wp2_with fail
            go_ret
            exact ⟨rfl, hb4⟩
set_option maxHeartbeats 1000000 in
theorem flatNotices_nil (w : World) : Calls Tryz.prog 53 #[.slice none 0 0] w fun e w' => e = .returned (.bool true) ∧ Below w.heap.size w w' := by
  obtain ⟨i0, hi, hz0, hz1, hz2⟩ := info_parts (show (Tryz.prog.info? 249).map (fun i => (i.zero, i.size, i.bytes)) = some (some (.slice none 0 0), 1, 24) by kernel_rfl)
  go_enter Tryz.func53, Tryz.ntmps53
  go_wp2_with fail
  go_loopg [3] 0 (fun g v wr => g = 0 ∧ v = .int .i64 0 ∧ Below w.heap.size w wr)
  case atStart => exact ⟨rfl, rfl, Below.refl _ _⟩
  case round =>
    obtain ⟨_, rfl, hb0⟩ := hrel
    go_wp2_with (refine wpList_make_full _ rfl _ _ 77 rfl wr.heap.size 249 i0 _ 1 Tryz.underlying77 hi hz0 hz1 _ _ 0 0 0 rfl rfl rfl rfl (by omega) (by decide) (Nat.le_refl _) ?_; intro w1 hown hgrow; have hm : Below w.heap.size w w1 := hb0.trans ((Below.refl _ _).grown hgrow hb0.size (fun g e => by cases e)))
    go_loopg [6] 0 (fun g v wr => g = 0 ∧ v = .int .i64 0 ∧ Below w.heap.size w wr)
    case atStart => exact ⟨rfl, rfl, hm⟩
    case round =>
      obtain ⟨_, rfl, hb1⟩ := hrel
      go_wp2_with fail
      go_loopg [9] 0 (fun g v wr => g = 0 ∧ v = .int .i64 0 ∧ Below w.heap.size w wr)
      case atStart => exact ⟨rfl, rfl, hb1⟩
      case round =>
        obtain ⟨_, rfl, hb2⟩ := hrel
        go_wp2_with fail
        go_loopg [11] 0 (fun g v wr => g = 0 ∧ v = .int .i64 0 ∧ Below w.heap.size w wr)
        case atStart => exact ⟨rfl, rfl, hb2⟩
        case round =>
          obtain ⟨_, rfl, hb3⟩ := hrel
          go_wp2_with fail
          go_loopg [14] 0 (fun g v wr => g = 0 ∧ v = .int .i64 0 ∧ Below w.heap.size w wr)
          case atStart => exact ⟨rfl, rfl, hb3⟩
          case round =>
            obtain ⟨_, rfl, hb4⟩ := hrel
            go_wp2_with fail
            go_ret
            exact ⟨rfl, hb4⟩
end Go.Proofs.YthkbdklbnmlpkabGreat
