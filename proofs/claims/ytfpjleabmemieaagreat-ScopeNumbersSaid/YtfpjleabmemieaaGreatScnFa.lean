/- The list of a kind that holds no lists lies apart. -/
import Derived.Test.YtfpjleabmemieaaGreatRows
import Derived.WalkKit
import Derived.WalkLawsBesides
import Derived.WalkSpells
import Derived.Below
import Derived.Outline
import Derived.Lib.Hide
import Derived.Handy
import Derived.LoopTactic
import Derived.Deep.LoopGhost
import Derived.OwnWalk
set_option maxRecDepth 100000
namespace Go.Proofs.YtfpjleabmemieaaGreat
open Go.Instr Go.RowKit
set_option linter.unusedVariables false
set_option maxHeartbeats 1000000 in
theorem flatLimbs_nil (w : World) : Calls Tryz.prog 54 #[.slice none 0 0] w fun e w' => e = .returned (.bool true) ∧ Below w.heap.size w w' := by
  obtain ⟨i0, hi, hz0, hz1, hz2⟩ := info_parts (show (Tryz.prog.info? 159).map (fun i => (i.zero, i.size, i.bytes)) = some (some (.slice none 0 0), 1, 24) by kernel_rfl)
  go_enter Tryz.func54, Tryz.ntmps54
  go_wp2_with fail
  go_loopg [3] 0 (fun g v wr => g = 0 ∧ v = .int .i64 0 ∧ Below w.heap.size w wr)
  case atStart => exact ⟨rfl, rfl, Below.refl _ _⟩
  case round =>
    obtain ⟨_, rfl, hb0⟩ := hrel
    go_wp2_with (refine wpList_make_full _ rfl _ _ 79 rfl wr.heap.size 159 i0 _ 1 Tryz.underlying79 hi hz0 hz1 _ _ 0 0 0 rfl rfl rfl rfl (by omega) (by decide) (Nat.le_refl _) ?_; intro w1 hown hgrow; have hm : Below w.heap.size w w1 := hb0.trans ((Below.refl _ _).grown hgrow hb0.size (fun g e => by cases e)))
    go_loopg [6] 0 (fun g v wr => g = 0 ∧ v = .int .i64 0 ∧ Below w.heap.size w wr)
    case atStart => exact ⟨rfl, rfl, hm⟩
    case round =>
      obtain ⟨_, rfl, hb1⟩ := hrel
      go_wp2_with fail
      go_loopg [9] 0 (fun g v wr => g = 0 ∧ v = .int .i64 0 ∧ Below w.heap.size w wr)
      case atStart => exact ⟨rfl, rfl, hb1⟩
      case round =>
        obtain ⟨_, rfl, hb2⟩ := hrel
        go_wp2_with fail
        go_loopg [11] 0 (fun g v wr => g = 0 ∧ v = .int .i64 0 ∧ Below w.heap.size w wr)
        case atStart => exact ⟨rfl, rfl, hb2⟩
        case round =>
          obtain ⟨_, rfl, hb3⟩ := hrel
          go_wp2_with fail
          go_loopg [14] 0 (fun g v wr => g = 0 ∧ v = .int .i64 0 ∧ Below w.heap.size w wr)
          case atStart => exact ⟨rfl, rfl, hb3⟩
          case round =>
            obtain ⟨_, rfl, hb4⟩ := hrel
            go_wp2_with fail
            go_ret
            exact ⟨rfl, hb4⟩
set_option maxHeartbeats 1000000 in
theorem flatWords_nil (w : World) : Calls Tryz.prog 55 #[.slice none 0 0] w fun e w' => e = .returned (.bool true) ∧ Below w.heap.size w w' := by
  obtain ⟨i0, hi, hz0, hz1, hz2⟩ := info_parts (show (Tryz.prog.info? 161).map (fun i => (i.zero, i.size, i.bytes)) = some (some (.slice none 0 0), 1, 24) by kernel_rfl)
  go_enter Tryz.func55, Tryz.ntmps55
  go_wp2_with fail
  go_loopg [3] 0 (fun g v wr => g = 0 ∧ v = .int .i64 0 ∧ Below w.heap.size w wr)
  case atStart => exact ⟨rfl, rfl, Below.refl _ _⟩
  case round =>
    obtain ⟨_, rfl, hb0⟩ := hrel
    go_wp2_with (refine wpList_make_full _ rfl _ _ 80 rfl wr.heap.size 161 i0 _ 1 Tryz.underlying80 hi hz0 hz1 _ _ 0 0 0 rfl rfl rfl rfl (by omega) (by decide) (Nat.le_refl _) ?_; intro w1 hown hgrow; have hm : Below w.heap.size w w1 := hb0.trans ((Below.refl _ _).grown hgrow hb0.size (fun g e => by cases e)))
    go_loopg [6] 0 (fun g v wr => g = 0 ∧ v = .int .i64 0 ∧ Below w.heap.size w wr)
    case atStart => exact ⟨rfl, rfl, hm⟩
    case round =>
      obtain ⟨_, rfl, hb1⟩ := hrel
      go_wp2_with fail
      go_loopg [9] 0 (fun g v wr => g = 0 ∧ v = .int .i64 0 ∧ Below w.heap.size w wr)
      case atStart => exact ⟨rfl, rfl, hb1⟩
      case round =>
        obtain ⟨_, rfl, hb2⟩ := hrel
        go_wp2_with fail
        go_loopg [11] 0 (fun g v wr => g = 0 ∧ v = .int .i64 0 ∧ Below w.heap.size w wr)
        case atStart => exact ⟨rfl, rfl, hb2⟩
        case round =>
          obtain ⟨_, rfl, hb3⟩ := hrel
          go_wp2_with fail
          go_loopg [14] 0 (fun g v wr => g = 0 ∧ v = .int .i64 0 ∧ Below w.heap.size w wr)
          case atStart => exact ⟨rfl, rfl, hb3⟩
          case round =>
            obtain ⟨_, rfl, hb4⟩ := hrel
            go_wp2_with fail
            go_ret
            exact ⟨rfl, hb4⟩
set_option maxHeartbeats 1000000 in
theorem flatInts_nil (w : World) : Calls Tryz.prog 56 #[.slice none 0 0] w fun e w' => e = .returned (.bool true) ∧ Below w.heap.size w w' := by
  obtain ⟨i0, hi, hz0, hz1, hz2⟩ := info_parts (show (Tryz.prog.info? 22).map (fun i => (i.zero, i.size, i.bytes)) = some (some (.slice none 0 0), 1, 24) by kernel_rfl)
  go_enter Tryz.func56, Tryz.ntmps56
  go_wp2_with fail
  go_loopg [3] 0 (fun g v wr => g = 0 ∧ v = .int .i64 0 ∧ Below w.heap.size w wr)
  case atStart => exact ⟨rfl, rfl, Below.refl _ _⟩
  case round =>
    obtain ⟨_, rfl, hb0⟩ := hrel
    go_wp2_with (refine wpList_make_full _ rfl _ _ 81 rfl wr.heap.size 22 i0 _ 1 Tryz.underlying81 hi hz0 hz1 _ _ 0 0 0 rfl rfl rfl rfl (by omega) (by decide) (Nat.le_refl _) ?_; intro w1 hown hgrow; have hm : Below w.heap.size w w1 := hb0.trans ((Below.refl _ _).grown hgrow hb0.size (fun g e => by cases e)))
    go_loopg [6] 0 (fun g v wr => g = 0 ∧ v = .int .i64 0 ∧ Below w.heap.size w wr)
    case atStart => exact ⟨rfl, rfl, hm⟩
    case round =>
      obtain ⟨_, rfl, hb1⟩ := hrel
      go_wp2_with fail
      go_loopg [9] 0 (fun g v wr => g = 0 ∧ v = .int .i64 0 ∧ Below w.heap.size w wr)
      case atStart => exact ⟨rfl, rfl, hb1⟩
      case round =>
        obtain ⟨_, rfl, hb2⟩ := hrel
        go_wp2_with fail
        go_loopg [11] 0 (fun g v wr => g = 0 ∧ v = .int .i64 0 ∧ Below w.heap.size w wr)
        case atStart => exact ⟨rfl, rfl, hb2⟩
        case round =>
          obtain ⟨_, rfl, hb3⟩ := hrel
          go_wp2_with fail
          go_loopg [14] 0 (fun g v wr => g = 0 ∧ v = .int .i64 0 ∧ Below w.heap.size w wr)
          case atStart => exact ⟨rfl, rfl, hb3⟩
          case round =>
            obtain ⟨_, rfl, hb4⟩ := hrel
            go_wp2_with fail
            go_ret
            exact ⟨rfl, hb4⟩
set_option maxHeartbeats 1000000 in
theorem flatLongs_nil (w : World) : Calls Tryz.prog 57 #[.slice none 0 0] w fun e w' => e = .returned (.bool true) ∧ Below w.heap.size w w' := by
  obtain ⟨i0, hi, hz0, hz1, hz2⟩ := info_parts (show (Tryz.prog.info? 163).map (fun i => (i.zero, i.size, i.bytes)) = some (some (.slice none 0 0), 1, 24) by kernel_rfl)
  go_enter Tryz.func57, Tryz.ntmps57
  go_wp2_with fail
  go_loopg [3] 0 (fun g v wr => g = 0 ∧ v = .int .i64 0 ∧ Below w.heap.size w wr)
  case atStart => exact ⟨rfl, rfl, Below.refl _ _⟩
  case round =>
    obtain ⟨_, rfl, hb0⟩ := hrel
    go_wp2_with (refine wpList_make_full _ rfl _ _ 82 rfl wr.heap.size 163 i0 _ 1 Tryz.underlying82 hi hz0 hz1 _ _ 0 0 0 rfl rfl rfl rfl (by omega) (by decide) (Nat.le_refl _) ?_; intro w1 hown hgrow; have hm : Below w.heap.size w w1 := hb0.trans ((Below.refl _ _).grown hgrow hb0.size (fun g e => by cases e)))
    go_loopg [6] 0 (fun g v wr => g = 0 ∧ v = .int .i64 0 ∧ Below w.heap.size w wr)
    case atStart => exact ⟨rfl, rfl, hm⟩
    case round =>
      obtain ⟨_, rfl, hb1⟩ := hrel
      go_wp2_with fail
      go_loopg [9] 0 (fun g v wr => g = 0 ∧ v = .int .i64 0 ∧ Below w.heap.size w wr)
      case atStart => exact ⟨rfl, rfl, hb1⟩
      case round =>
        obtain ⟨_, rfl, hb2⟩ := hrel
        go_wp2_with fail
        go_loopg [11] 0 (fun g v wr => g = 0 ∧ v = .int .i64 0 ∧ Below w.heap.size w wr)
        case atStart => exact ⟨rfl, rfl, hb2⟩
        case round =>
          obtain ⟨_, rfl, hb3⟩ := hrel
          go_wp2_with fail
          go_loopg [14] 0 (fun g v wr => g = 0 ∧ v = .int .i64 0 ∧ Below w.heap.size w wr)
          case atStart => exact ⟨rfl, rfl, hb3⟩
          case round =>
            obtain ⟨_, rfl, hb4⟩ := hrel
            go_wp2_with fail
            go_ret
            exact ⟨rfl, hb4⟩
set_option maxHeartbeats 1000000 in
theorem flatTexts_nil (w : World) : Calls Tryz.prog 58 #[.slice none 0 0] w fun e w' => e = .returned (.bool true) ∧ Below w.heap.size w w' := by
  obtain ⟨i0, hi, hz0, hz1, hz2⟩ := info_parts (show (Tryz.prog.info? 44).map (fun i => (i.zero, i.size, i.bytes)) = some (some (.slice none 0 0), 1, 24) by kernel_rfl)
  go_enter Tryz.func58, Tryz.ntmps58
  go_wp2_with fail
  go_loopg [3] 0 (fun g v wr => g = 0 ∧ v = .int .i64 0 ∧ Below w.heap.size w wr)
  case atStart => exact ⟨rfl, rfl, Below.refl _ _⟩
  case round =>
    obtain ⟨_, rfl, hb0⟩ := hrel
    go_wp2_with (refine wpList_make_full _ rfl _ _ 83 rfl wr.heap.size 44 i0 _ 1 Tryz.underlying83 hi hz0 hz1 _ _ 0 0 0 rfl rfl rfl rfl (by omega) (by decide) (Nat.le_refl _) ?_; intro w1 hown hgrow; have hm : Below w.heap.size w w1 := hb0.trans ((Below.refl _ _).grown hgrow hb0.size (fun g e => by cases e)))
    go_loopg [6] 0 (fun g v wr => g = 0 ∧ v = .int .i64 0 ∧ Below w.heap.size w wr)
    case atStart => exact ⟨rfl, rfl, hm⟩
    case round =>
      obtain ⟨_, rfl, hb1⟩ := hrel
      go_wp2_with fail
      go_loopg [9] 0 (fun g v wr => g = 0 ∧ v = .int .i64 0 ∧ Below w.heap.size w wr)
      case atStart => exact ⟨rfl, rfl, hb1⟩
      case round =>
        obtain ⟨_, rfl, hb2⟩ := hrel
        go_wp2_with fail
        go_loopg [11] 0 (fun g v wr => g = 0 ∧ v = .int .i64 0 ∧ Below w.heap.size w wr)
        case atStart => exact ⟨rfl, rfl, hb2⟩
        case round =>
          obtain ⟨_, rfl, hb3⟩ := hrel
          go_wp2_with fail
          go_loopg [14] 0 (fun g v wr => g = 0 ∧ v = .int .i64 0 ∧ Below w.heap.size w wr)
          case atStart => exact ⟨rfl, rfl, hb3⟩
          case round =>
            obtain ⟨_, rfl, hb4⟩ := hrel
            go_wp2_with fail
            go_ret
            exact ⟨rfl, hb4⟩
set_option maxHeartbeats 1000000 in
theorem flatBytes_nil (w : World) : Calls Tryz.prog 59 #[.slice none 0 0] w fun e w' => e = .returned (.bool true) ∧ Below w.heap.size w w' := by
  obtain ⟨i0, hi, hz0, hz1, hz2⟩ := info_parts (show (Tryz.prog.info? 32).map (fun i => (i.zero, i.size, i.bytes)) = some (some (.slice none 0 0), 1, 24) by kernel_rfl)
  go_enter Tryz.func59, Tryz.ntmps59
  go_wp2_with fail
  go_loopg [3] 0 (fun g v wr => g = 0 ∧ v = .int .i64 0 ∧ Below w.heap.size w wr)
  case atStart => exact ⟨rfl, rfl, Below.refl _ _⟩
  case round =>
    obtain ⟨_, rfl, hb0⟩ := hrel
    go_wp2_with (refine wpList_make_full _ rfl _ _ 84 rfl wr.heap.size 32 i0 _ 1 Tryz.underlying84 hi hz0 hz1 _ _ 0 0 0 rfl rfl rfl rfl (by omega) (by decide) (Nat.le_refl _) ?_; intro w1 hown hgrow; have hm : Below w.heap.size w w1 := hb0.trans ((Below.refl _ _).grown hgrow hb0.size (fun g e => by cases e)))
    go_loopg [6] 0 (fun g v wr => g = 0 ∧ v = .int .i64 0 ∧ Below w.heap.size w wr)
    case atStart => exact ⟨rfl, rfl, hm⟩
    case round =>
      obtain ⟨_, rfl, hb1⟩ := hrel
      go_wp2_with fail
      go_loopg [9] 0 (fun g v wr => g = 0 ∧ v = .int .i64 0 ∧ Below w.heap.size w wr)
      case atStart => exact ⟨rfl, rfl, hb1⟩
      case round =>
        obtain ⟨_, rfl, hb2⟩ := hrel
        go_wp2_with fail
        go_loopg [11] 0 (fun g v wr => g = 0 ∧ v = .int .i64 0 ∧ Below w.heap.size w wr)
        case atStart => exact ⟨rfl, rfl, hb2⟩
        case round =>
          obtain ⟨_, rfl, hb3⟩ := hrel
          go_wp2_with fail
          go_loopg [14] 0 (fun g v wr => g = 0 ∧ v = .int .i64 0 ∧ Below w.heap.size w wr)
          case atStart => exact ⟨rfl, rfl, hb3⟩
          case round =>
            obtain ⟨_, rfl, hb4⟩ := hrel
            go_wp2_with fail
            go_ret
            exact ⟨rfl, hb4⟩
set_option maxHeartbeats 1000000 in
theorem flatTokens_nil (w : World) : Calls Tryz.prog 60 #[.slice none 0 0] w fun e w' => e = .returned (.bool true) ∧ Below w.heap.size w w' := by
  obtain ⟨i0, hi, hz0, hz1, hz2⟩ := info_parts (show (Tryz.prog.info? 165).map (fun i => (i.zero, i.size, i.bytes)) = some (some (.slice none 0 0), 1, 24) by kernel_rfl)
  go_enter Tryz.func60, Tryz.ntmps60
  go_wp2_with fail
  go_loopg [3] 0 (fun g v wr => g = 0 ∧ v = .int .i64 0 ∧ Below w.heap.size w wr)
  case atStart => exact ⟨rfl, rfl, Below.refl _ _⟩
  case round =>
    obtain ⟨_, rfl, hb0⟩ := hrel
    go_wp2_with (refine wpList_make_full _ rfl _ _ 85 rfl wr.heap.size 165 i0 _ 1 Tryz.underlying85 hi hz0 hz1 _ _ 0 0 0 rfl rfl rfl rfl (by omega) (by decide) (Nat.le_refl _) ?_; intro w1 hown hgrow; have hm : Below w.heap.size w w1 := hb0.trans ((Below.refl _ _).grown hgrow hb0.size (fun g e => by cases e)))
    go_loopg [6] 0 (fun g v wr => g = 0 ∧ v = .int .i64 0 ∧ Below w.heap.size w wr)
    case atStart => exact ⟨rfl, rfl, hm⟩
    case round =>
      obtain ⟨_, rfl, hb1⟩ := hrel
      go_wp2_with fail
      go_loopg [9] 0 (fun g v wr => g = 0 ∧ v = .int .i64 0 ∧ Below w.heap.size w wr)
      case atStart => exact ⟨rfl, rfl, hb1⟩
      case round =>
        obtain ⟨_, rfl, hb2⟩ := hrel
        go_wp2_with fail
        go_loopg [11] 0 (fun g v wr => g = 0 ∧ v = .int .i64 0 ∧ Below w.heap.size w wr)
        case atStart => exact ⟨rfl, rfl, hb2⟩
        case round =>
          obtain ⟨_, rfl, hb3⟩ := hrel
          go_wp2_with fail
          go_loopg [14] 0 (fun g v wr => g = 0 ∧ v = .int .i64 0 ∧ Below w.heap.size w wr)
          case atStart => exact ⟨rfl, rfl, hb3⟩
          case round =>
            obtain ⟨_, rfl, hb4⟩ := hrel
            go_wp2_with fail
            go_ret
            exact ⟨rfl, hb4⟩
set_option maxHeartbeats 1000000 in
theorem flatFaults_nil (w : World) : Calls Tryz.prog 61 #[.slice none 0 0] w fun e w' => e = .returned (.bool true) ∧ Below w.heap.size w w' := by
  obtain ⟨i0, hi, hz0, hz1, hz2⟩ := info_parts (show (Tryz.prog.info? 170).map (fun i => (i.zero, i.size, i.bytes)) = some (some (.slice none 0 0), 1, 24) by kernel_rfl)
  go_enter Tryz.func61, Tryz.ntmps61
  go_wp2_with fail
  go_loopg [3] 0 (fun g v wr => g = 0 ∧ v = .int .i64 0 ∧ Below w.heap.size w wr)
  case atStart => exact ⟨rfl, rfl, Below.refl _ _⟩
  case round =>
    obtain ⟨_, rfl, hb0⟩ := hrel
    go_wp2_with (refine wpList_make_full _ rfl _ _ 86 rfl wr.heap.size 170 i0 _ 1 Tryz.underlying86 hi hz0 hz1 _ _ 0 0 0 rfl rfl rfl rfl (by omega) (by decide) (Nat.le_refl _) ?_; intro w1 hown hgrow; have hm : Below w.heap.size w w1 := hb0.trans ((Below.refl _ _).grown hgrow hb0.size (fun g e => by cases e)))
    go_loopg [6] 0 (fun g v wr => g = 0 ∧ v = .int .i64 0 ∧ Below w.heap.size w wr)
    case atStart => exact ⟨rfl, rfl, hm⟩
    case round =>
      obtain ⟨_, rfl, hb1⟩ := hrel
      go_wp2_with fail
      go_loopg [9] 0 (fun g v wr => g = 0 ∧ v = .int .i64 0 ∧ Below w.heap.size w wr)
      case atStart => exact ⟨rfl, rfl, hb1⟩
      case round =>
        obtain ⟨_, rfl, hb2⟩ := hrel
        go_wp2_with fail
        go_loopg [11] 0 (fun g v wr => g = 0 ∧ v = .int .i64 0 ∧ Below w.heap.size w wr)
        case atStart => exact ⟨rfl, rfl, hb2⟩
        case round =>
          obtain ⟨_, rfl, hb3⟩ := hrel
          go_wp2_with fail
          go_loopg [14] 0 (fun g v wr => g = 0 ∧ v = .int .i64 0 ∧ Below w.heap.size w wr)
          case atStart => exact ⟨rfl, rfl, hb3⟩
          case round =>
            obtain ⟨_, rfl, hb4⟩ := hrel
            go_wp2_with fail
            go_ret
            exact ⟨rfl, hb4⟩
set_option maxHeartbeats 1000000 in
theorem flatNodes_nil (w : World) : Calls Tryz.prog 62 #[.slice none 0 0] w fun e w' => e = .returned (.bool true) ∧ Below w.heap.size w w' := by
  obtain ⟨i0, hi, hz0, hz1, hz2⟩ := info_parts (show (Tryz.prog.info? 174).map (fun i => (i.zero, i.size, i.bytes)) = some (some (.slice none 0 0), 1, 24) by kernel_rfl)
  go_enter Tryz.func62, Tryz.ntmps62
  go_wp2_with fail
  go_loopg [3] 0 (fun g v wr => g = 0 ∧ v = .int .i64 0 ∧ Below w.heap.size w wr)
  case atStart => exact ⟨rfl, rfl, Below.refl _ _⟩
  case round =>
    obtain ⟨_, rfl, hb0⟩ := hrel
    go_wp2_with (refine wpList_make_full _ rfl _ _ 87 rfl wr.heap.size 174 i0 _ 1 Tryz.underlying87 hi hz0 hz1 _ _ 0 0 0 rfl rfl rfl rfl (by omega) (by decide) (Nat.le_refl _) ?_; intro w1 hown hgrow; have hm : Below w.heap.size w w1 := hb0.trans ((Below.refl _ _).grown hgrow hb0.size (fun g e => by cases e)))
    go_loopg [6] 0 (fun g v wr => g = 0 ∧ v = .int .i64 0 ∧ Below w.heap.size w wr)
    case atStart => exact ⟨rfl, rfl, hm⟩
    case round =>
      obtain ⟨_, rfl, hb1⟩ := hrel
      go_wp2_with fail
      go_loopg [9] 0 (fun g v wr => g = 0 ∧ v = .int .i64 0 ∧ Below w.heap.size w wr)
      case atStart => exact ⟨rfl, rfl, hb1⟩
      case round =>
        obtain ⟨_, rfl, hb2⟩ := hrel
        go_wp2_with fail
        go_loopg [11] 0 (fun g v wr => g = 0 ∧ v = .int .i64 0 ∧ Below w.heap.size w wr)
        case atStart => exact ⟨rfl, rfl, hb2⟩
        case round =>
          obtain ⟨_, rfl, hb3⟩ := hrel
          go_wp2_with fail
          go_loopg [14] 0 (fun g v wr => g = 0 ∧ v = .int .i64 0 ∧ Below w.heap.size w wr)
          case atStart => exact ⟨rfl, rfl, hb3⟩
          case round =>
            obtain ⟨_, rfl, hb4⟩ := hrel
            go_wp2_with fail
            go_ret
            exact ⟨rfl, hb4⟩
set_option maxHeartbeats 1000000 in
theorem flatValues_nil (w : World) : Calls Tryz.prog 64 #[.slice none 0 0] w fun e w' => e = .returned (.bool true) ∧ Below w.heap.size w w' := by
  obtain ⟨i0, hi, hz0, hz1, hz2⟩ := info_parts (show (Tryz.prog.info? 180).map (fun i => (i.zero, i.size, i.bytes)) = some (some (.slice none 0 0), 1, 24) by kernel_rfl)
  go_enter Tryz.func64, Tryz.ntmps64
  go_wp2_with fail
  go_loopg [3] 0 (fun g v wr => g = 0 ∧ v = .int .i64 0 ∧ Below w.heap.size w wr)
  case atStart => exact ⟨rfl, rfl, Below.refl _ _⟩
  case round =>
    obtain ⟨_, rfl, hb0⟩ := hrel
    go_wp2_with (refine wpList_make_full _ rfl _ _ 88 rfl wr.heap.size 180 i0 _ 1 Tryz.underlying88 hi hz0 hz1 _ _ 0 0 0 rfl rfl rfl rfl (by omega) (by decide) (Nat.le_refl _) ?_; intro w1 hown hgrow; have hm : Below w.heap.size w w1 := hb0.trans ((Below.refl _ _).grown hgrow hb0.size (fun g e => by cases e)))
    go_loopg [6] 0 (fun g v wr => g = 0 ∧ v = .int .i64 0 ∧ Below w.heap.size w wr)
    case atStart => exact ⟨rfl, rfl, hm⟩
    case round =>
      obtain ⟨_, rfl, hb1⟩ := hrel
      go_wp2_with fail
      go_loopg [9] 0 (fun g v wr => g = 0 ∧ v = .int .i64 0 ∧ Below w.heap.size w wr)
      case atStart => exact ⟨rfl, rfl, hb1⟩
      case round =>
        obtain ⟨_, rfl, hb2⟩ := hrel
        go_wp2_with fail
        go_loopg [11] 0 (fun g v wr => g = 0 ∧ v = .int .i64 0 ∧ Below w.heap.size w wr)
        case atStart => exact ⟨rfl, rfl, hb2⟩
        case round =>
          obtain ⟨_, rfl, hb3⟩ := hrel
          go_wp2_with fail
          go_loopg [14] 0 (fun g v wr => g = 0 ∧ v = .int .i64 0 ∧ Below w.heap.size w wr)
          case atStart => exact ⟨rfl, rfl, hb3⟩
          case round =>
            obtain ⟨_, rfl, hb4⟩ := hrel
            go_wp2_with fail
            go_ret
            exact ⟨rfl, hb4⟩
set_option maxHeartbeats 1000000 in
theorem flatOutcomes_nil (w : World) : Calls Tryz.prog 65 #[.slice none 0 0] w fun e w' => e = .returned (.bool true) ∧ Below w.heap.size w w' := by
  obtain ⟨i0, hi, hz0, hz1, hz2⟩ := info_parts (show (Tryz.prog.info? 185).map (fun i => (i.zero, i.size, i.bytes)) = some (some (.slice none 0 0), 1, 24) by kernel_rfl)
  go_enter Tryz.func65, Tryz.ntmps65
  go_wp2_with fail
  go_loopg [3] 0 (fun g v wr => g = 0 ∧ v = .int .i64 0 ∧ Below w.heap.size w wr)
  case atStart => exact ⟨rfl, rfl, Below.refl _ _⟩
  case round =>
    obtain ⟨_, rfl, hb0⟩ := hrel
    go_wp2_with (refine wpList_make_full _ rfl _ _ 89 rfl wr.heap.size 185 i0 _ 1 Tryz.underlying89 hi hz0 hz1 _ _ 0 0 0 rfl rfl rfl rfl (by omega) (by decide) (Nat.le_refl _) ?_; intro w1 hown hgrow; have hm : Below w.heap.size w w1 := hb0.trans ((Below.refl _ _).grown hgrow hb0.size (fun g e => by cases e)))
    go_loopg [6] 0 (fun g v wr => g = 0 ∧ v = .int .i64 0 ∧ Below w.heap.size w wr)
    case atStart => exact ⟨rfl, rfl, hm⟩
    case round =>
      obtain ⟨_, rfl, hb1⟩ := hrel
      go_wp2_with fail
      go_loopg [9] 0 (fun g v wr => g = 0 ∧ v = .int .i64 0 ∧ Below w.heap.size w wr)
      case atStart => exact ⟨rfl, rfl, hb1⟩
      case round =>
        obtain ⟨_, rfl, hb2⟩ := hrel
        go_wp2_with fail
        go_loopg [11] 0 (fun g v wr => g = 0 ∧ v = .int .i64 0 ∧ Below w.heap.size w wr)
        case atStart => exact ⟨rfl, rfl, hb2⟩
        case round =>
          obtain ⟨_, rfl, hb3⟩ := hrel
          go_wp2_with fail
          go_loopg [14] 0 (fun g v wr => g = 0 ∧ v = .int .i64 0 ∧ Below w.heap.size w wr)
          case atStart => exact ⟨rfl, rfl, hb3⟩
          case round =>
            obtain ⟨_, rfl, hb4⟩ := hrel
            go_wp2_with fail
            go_ret
            exact ⟨rfl, hb4⟩
set_option maxHeartbeats 1000000 in
theorem flatWordRow_nil (w : World) : Calls Tryz.prog 66 #[.slice none 0 0] w fun e w' => e = .returned (.bool true) ∧ Below w.heap.size w w' := by
  obtain ⟨i0, hi, hz0, hz1, hz2⟩ := info_parts (show (Tryz.prog.info? 190).map (fun i => (i.zero, i.size, i.bytes)) = some (some (.slice none 0 0), 1, 24) by kernel_rfl)
  go_enter Tryz.func66, Tryz.ntmps66
  go_wp2_with fail
  go_loopg [3] 0 (fun g v wr => g = 0 ∧ v = .int .i64 0 ∧ Below w.heap.size w wr)
  case atStart => exact ⟨rfl, rfl, Below.refl _ _⟩
  case round =>
    obtain ⟨_, rfl, hb0⟩ := hrel
    go_wp2_with (refine wpList_make_full _ rfl _ _ 90 rfl wr.heap.size 190 i0 _ 1 Tryz.underlying90 hi hz0 hz1 _ _ 0 0 0 rfl rfl rfl rfl (by omega) (by decide) (Nat.le_refl _) ?_; intro w1 hown hgrow; have hm : Below w.heap.size w w1 := hb0.trans ((Below.refl _ _).grown hgrow hb0.size (fun g e => by cases e)))
    go_loopg [6] 0 (fun g v wr => g = 0 ∧ v = .int .i64 0 ∧ Below w.heap.size w wr)
    case atStart => exact ⟨rfl, rfl, hm⟩
    case round =>
      obtain ⟨_, rfl, hb1⟩ := hrel
      go_wp2_with fail
      go_loopg [9] 0 (fun g v wr => g = 0 ∧ v = .int .i64 0 ∧ Below w.heap.size w wr)
      case atStart => exact ⟨rfl, rfl, hb1⟩
      case round =>
        obtain ⟨_, rfl, hb2⟩ := hrel
        go_wp2_with fail
        go_loopg [11] 0 (fun g v wr => g = 0 ∧ v = .int .i64 0 ∧ Below w.heap.size w wr)
        case atStart => exact ⟨rfl, rfl, hb2⟩
        case round =>
          obtain ⟨_, rfl, hb3⟩ := hrel
          go_wp2_with fail
          go_loopg [14] 0 (fun g v wr => g = 0 ∧ v = .int .i64 0 ∧ Below w.heap.size w wr)
          case atStart => exact ⟨rfl, rfl, hb3⟩
          case round =>
            obtain ⟨_, rfl, hb4⟩ := hrel
            go_wp2_with fail
            go_ret
            exact ⟨rfl, hb4⟩
set_option maxHeartbeats 1000000 in
theorem flatAlts_nil (w : World) : Calls Tryz.prog 67 #[.slice none 0 0] w fun e w' => e = .returned (.bool true) ∧ Below w.heap.size w w' := by
  obtain ⟨i0, hi, hz0, hz1, hz2⟩ := info_parts (show (Tryz.prog.info? 195).map (fun i => (i.zero, i.size, i.bytes)) = some (some (.slice none 0 0), 1, 24) by kernel_rfl)
  go_enter Tryz.func67, Tryz.ntmps67
  go_wp2_with fail
  go_loopg [3] 0 (fun g v wr => g = 0 ∧ v = .int .i64 0 ∧ Below w.heap.size w wr)
  case atStart => exact ⟨rfl, rfl, Below.refl _ _⟩
  case round =>
    obtain ⟨_, rfl, hb0⟩ := hrel
    go_wp2_with (refine wpList_make_full _ rfl _ _ 91 rfl wr.heap.size 195 i0 _ 1 Tryz.underlying91 hi hz0 hz1 _ _ 0 0 0 rfl rfl rfl rfl (by omega) (by decide) (Nat.le_refl _) ?_; intro w1 hown hgrow; have hm : Below w.heap.size w w1 := hb0.trans ((Below.refl _ _).grown hgrow hb0.size (fun g e => by cases e)))
    go_loopg [6] 0 (fun g v wr => g = 0 ∧ v = .int .i64 0 ∧ Below w.heap.size w wr)
    case atStart => exact ⟨rfl, rfl, hm⟩
    case round =>
      obtain ⟨_, rfl, hb1⟩ := hrel
      go_wp2_with fail
      go_loopg [9] 0 (fun g v wr => g = 0 ∧ v = .int .i64 0 ∧ Below w.heap.size w wr)
      case atStart => exact ⟨rfl, rfl, hb1⟩
      case round =>
        obtain ⟨_, rfl, hb2⟩ := hrel
        go_wp2_with fail
        go_loopg [11] 0 (fun g v wr => g = 0 ∧ v = .int .i64 0 ∧ Below w.heap.size w wr)
        case atStart => exact ⟨rfl, rfl, hb2⟩
        case round =>
          obtain ⟨_, rfl, hb3⟩ := hrel
          go_wp2_with fail
          go_loopg [14] 0 (fun g v wr => g = 0 ∧ v = .int .i64 0 ∧ Below w.heap.size w wr)
          case atStart => exact ⟨rfl, rfl, hb3⟩
          case round =>
            obtain ⟨_, rfl, hb4⟩ := hrel
            go_wp2_with fail
            go_ret
            exact ⟨rfl, hb4⟩
set_option maxHeartbeats 1000000 in
theorem flatRules_nil (w : World) : Calls Tryz.prog 68 #[.slice none 0 0] w fun e w' => e = .returned (.bool true) ∧ Below w.heap.size w w' := by
  obtain ⟨i0, hi, hz0, hz1, hz2⟩ := info_parts (show (Tryz.prog.info? 200).map (fun i => (i.zero, i.size, i.bytes)) = some (some (.slice none 0 0), 1, 24) by kernel_rfl)
  go_enter Tryz.func68, Tryz.ntmps68
  go_wp2_with fail
  go_loopg [3] 0 (fun g v wr => g = 0 ∧ v = .int .i64 0 ∧ Below w.heap.size w wr)
  case atStart => exact ⟨rfl, rfl, Below.refl _ _⟩
  case round =>
    obtain ⟨_, rfl, hb0⟩ := hrel
    go_wp2_with (refine wpList_make_full _ rfl _ _ 92 rfl wr.heap.size 200 i0 _ 1 Tryz.underlying92 hi hz0 hz1 _ _ 0 0 0 rfl rfl rfl rfl (by omega) (by decide) (Nat.le_refl _) ?_; intro w1 hown hgrow; have hm : Below w.heap.size w w1 := hb0.trans ((Below.refl _ _).grown hgrow hb0.size (fun g e => by cases e)))
    go_loopg [6] 0 (fun g v wr => g = 0 ∧ v = .int .i64 0 ∧ Below w.heap.size w wr)
    case atStart => exact ⟨rfl, rfl, hm⟩
    case round =>
      obtain ⟨_, rfl, hb1⟩ := hrel
      go_wp2_with fail
      go_loopg [9] 0 (fun g v wr => g = 0 ∧ v = .int .i64 0 ∧ Below w.heap.size w wr)
      case atStart => exact ⟨rfl, rfl, hb1⟩
      case round =>
        obtain ⟨_, rfl, hb2⟩ := hrel
        go_wp2_with fail
        go_loopg [11] 0 (fun g v wr => g = 0 ∧ v = .int .i64 0 ∧ Below w.heap.size w wr)
        case atStart => exact ⟨rfl, rfl, hb2⟩
        case round =>
          obtain ⟨_, rfl, hb3⟩ := hrel
          go_wp2_with fail
          go_loopg [14] 0 (fun g v wr => g = 0 ∧ v = .int .i64 0 ∧ Below w.heap.size w wr)
          case atStart => exact ⟨rfl, rfl, hb3⟩
          case round =>
            obtain ⟨_, rfl, hb4⟩ := hrel
            go_wp2_with fail
            go_ret
            exact ⟨rfl, hb4⟩
set_option maxHeartbeats 1000000 in
theorem flatDecls_nil (w : World) : Calls Tryz.prog 69 #[.slice none 0 0] w fun e w' => e = .returned (.bool true) ∧ Below w.heap.size w w' := by
  obtain ⟨i0, hi, hz0, hz1, hz2⟩ := info_parts (show (Tryz.prog.info? 205).map (fun i => (i.zero, i.size, i.bytes)) = some (some (.slice none 0 0), 1, 24) by kernel_rfl)
  go_enter Tryz.func69, Tryz.ntmps69
  go_wp2_with fail
  go_loopg [3] 0 (fun g v wr => g = 0 ∧ v = .int .i64 0 ∧ Below w.heap.size w wr)
  case atStart => exact ⟨rfl, rfl, Below.refl _ _⟩
  case round =>
    obtain ⟨_, rfl, hb0⟩ := hrel
    go_wp2_with (refine wpList_make_full _ rfl _ _ 93 rfl wr.heap.size 205 i0 _ 1 Tryz.underlying93 hi hz0 hz1 _ _ 0 0 0 rfl rfl rfl rfl (by omega) (by decide) (Nat.le_refl _) ?_; intro w1 hown hgrow; have hm : Below w.heap.size w w1 := hb0.trans ((Below.refl _ _).grown hgrow hb0.size (fun g e => by cases e)))
    go_loopg [6] 0 (fun g v wr => g = 0 ∧ v = .int .i64 0 ∧ Below w.heap.size w wr)
    case atStart => exact ⟨rfl, rfl, hm⟩
    case round =>
      obtain ⟨_, rfl, hb1⟩ := hrel
      go_wp2_with fail
      go_loopg [9] 0 (fun g v wr => g = 0 ∧ v = .int .i64 0 ∧ Below w.heap.size w wr)
      case atStart => exact ⟨rfl, rfl, hb1⟩
      case round =>
        obtain ⟨_, rfl, hb2⟩ := hrel
        go_wp2_with fail
        go_loopg [11] 0 (fun g v wr => g = 0 ∧ v = .int .i64 0 ∧ Below w.heap.size w wr)
        case atStart => exact ⟨rfl, rfl, hb2⟩
        case round =>
          obtain ⟨_, rfl, hb3⟩ := hrel
          go_wp2_with fail
          go_loopg [14] 0 (fun g v wr => g = 0 ∧ v = .int .i64 0 ∧ Below w.heap.size w wr)
          case atStart => exact ⟨rfl, rfl, hb3⟩
          case round =>
            obtain ⟨_, rfl, hb4⟩ := hrel
            go_wp2_with fail
            go_ret
            exact ⟨rfl, hb4⟩
end Go.Proofs.YtfpjleabmemieaaGreat
