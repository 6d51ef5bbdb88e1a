/- SameTexts over two rows that hold the same texts; the words. -/
import Derived.Test.YthkbdklbnmlpkabGreatFlA
import Derived.Test.YthkbdklbnmlpkabGreatRows
import Derived.WalkKit
import Derived.WalkLawsBesides
import Derived.WalkSpells
import Derived.Outline
import Derived.Lib.Hide
import Derived.Handy
import Derived.LoopTactic
import Derived.Deep.LoopGhost
import Derived.Deep.QuietTactic
import Derived.BigQuiet
import Derived.Deep.CutRange
set_option maxRecDepth 100000
namespace Go.Proofs.YthkbdklbnmlpkabGreat
open Go.Instr Go.RowKit FlT
set_option linter.unusedVariables false
set_option maxHeartbeats 2000000 in
theorem SameTexts_any (ts : List ByteArray) (a b ca cb : Nat) (w : World) (hl : ts.length < 1000000) (ha : ∀ (i : Nat) (t : ByteArray), ts[i]? = some t → w.cell? ⟨a, i, none⟩ = some (.string t)) (hb : ∀ (i : Nat) (t : ByteArray), ts[i]? = some t → w.cell? ⟨b, i, none⟩ = some (.string t)) :
    Calls Tryz.prog 7 #[.slice (some ⟨a, 0, none⟩) ts.length ca, .slice (some ⟨b, 0, none⟩) ts.length cb] w fun e w' => e = .returned (.bool true) ∧ Below w.heap.size w w' := by
  have HA := Lib.hid ha
  have HB := Lib.hid hb
  clear ha hb
  go_enter Tryz.func7, Tryz.ntmps7
  go_wp2_with fail
  go_loopg [5] ts.length (fun gg v wr => ∃ k : Nat, k ≤ ts.length ∧ gg = ts.length - k ∧ v = .int .i64 k ∧ Below w.heap.size w wr)
  case atStart => exact ⟨0, by omega, rfl, rfl, Below.refl _ _⟩
  case round =>
    obtain ⟨k, hk, hgk, rfl, hbl⟩ := hrel
    have HGK := Lib.hid hgk
    have HBL := Lib.hid hbl
    clear hgk hbl
    by_cases hlt : k < ts.length
    · have t1 : decide ((k : Int) < (ts.length : Int)) = true := decide_eq_true (by omega)
      obtain ⟨t, ht⟩ : ∃ t, ts[k]? = some t := ⟨_, List.getElem?_eq_getElem hlt⟩
      have c0 := (HBL.out.cell (World.block_lt_of_cell? _ _ (HA.out k t ht))).trans (HA.out k t ht)
      have d0 := (HBL.out.cell (World.block_lt_of_cell? _ _ (HB.out k t ht))).trans (HB.out k t ht)
      have k0 : (0 : Int) ≤ (k : Int) := by omega
      have k1 : (k : Int) < (ts.length : Int) := by omega
      have e1 : (t.toList == t.toList) = true := by simp
      clear ht
      go_upto_region 6 with fail
      go_quiet (fail)
      go_wp2_with fail
      go_roundg (ts.length - (k + 1))
      case rel => exact ⟨k + 1, by omega, rfl, by go_num, HBL.out.trans ⟨rfl, rfl, rfl, Nat.le_refl _, fun _ _ => rfl⟩⟩
      case measure => rw [HGK.out]; omega
    · have t1 : decide ((k : Int) < (ts.length : Int)) = false := decide_eq_false (by omega)
      go_wp2_with fail
      go_ret
      exact ⟨rfl, HBL.out⟩
def wordTexts : List ByteArray := [⟨#[98, 114, 101, 97, 107]⟩, ⟨#[99, 97, 115, 101]⟩, ⟨#[99, 111, 110, 116, 105, 110, 117, 101]⟩, ⟨#[100, 101, 102, 97, 117, 108, 116]⟩, ⟨#[101, 108, 115, 101]⟩, ⟨#[102, 111, 114]⟩, ⟨#[102, 117, 110, 99]⟩, ⟨#[105, 102]⟩, ⟨#[112, 97, 99, 107, 97, 103, 101]⟩, ⟨#[114, 101, 116, 117, 114, 110]⟩, ⟨#[115, 116, 114, 117, 99, 116]⟩, ⟨#[115, 119, 105, 116, 99, 104]⟩, ⟨#[116, 121, 112, 101]⟩, ⟨#[118, 97, 114]⟩, ⟨#[116, 114, 117, 101]⟩, ⟨#[102, 97, 108, 115, 101]⟩]
theorem WordsRow_any (w : World) : Calls Tryz.prog 8 #[] w fun e w' => e = .returned (.slice (some ⟨w.heap.size, 0, none⟩) 16 16) ∧ w' = w.alloc (.cells (wordTexts.map Value.string).toArray 9) := by
  go_enter Tryz.func8, Tryz.ntmps8
  go_wp2_with fail
  go_ret
  exact ⟨rfl, rfl⟩
theorem RefWords_any (w : World) : Calls Tryz.prog 9 #[] w fun e w' => e = .returned (.slice (some ⟨w.heap.size, 0, none⟩) 16 16) ∧ w' = w.alloc (.cells (wordTexts.map Value.string).toArray 9) := by
  go_enter Tryz.func9, Tryz.ntmps9
  go_wp2_with fail
  go_ret
  exact ⟨rfl, rfl⟩
end Go.Proofs.YthkbdklbnmlpkabGreat
