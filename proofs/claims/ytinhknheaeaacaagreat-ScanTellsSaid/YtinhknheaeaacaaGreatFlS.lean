/- SameTokens over two rows that hold the same tokens; two rows of tokens lie apart. -/
import Derived.Test.YtinhknheaeaacaaGreatScnZa
import Derived.Test.YtinhknheaeaacaaGreatFlP
import Derived.Test.YtinhknheaeaacaaGreatFlG
import Derived.Deep.QuietTactic
import Derived.BigQuiet
import Derived.Deep.CutRange
import Derived.Laws.StructEq
set_option maxRecDepth 100000
namespace Go.Proofs.YtinhknheaeaacaaGreat
open Go.Instr Go.RowKit ScnT FlT
set_option linter.unusedVariables false
set_option linter.unusedSimpArgs false
theorem neqTok (k q : Int) (t : ByteArray) (w : World) : (binOp .neq 45 (.agg #[.int .u8 k, .string t, .int .i64 q]) (.agg #[.int .u8 k, .string t, .int .i64 q])).run Tryz.prog w = .ok (.bool false) w := by simp [go_sem]
theorem neqgTok (k q : Int) (t : ByteArray) (x y : Operand) (w : World) : (eqGuard .neq 45 x y (.agg #[.int .u8 k, .string t, .int .i64 q]) (.agg #[.int .u8 k, .string t, .int .i64 q])).run Tryz.prog w = .ok () w := by simp [go_sem]
set_option maxHeartbeats 4000000 in
theorem SameTokens_any (ts : List Tok) (a b : Option Addr) (ca cb : Nat) (w : World) (hl : ts.length < 1000000) (ha : ToksAt w a ca ts) (hb : ToksAt w b cb ts) :
    Calls Tryz.prog 7 #[.slice a ts.length ca, .slice b ts.length cb] w fun e w' => e = .returned (.bool true) ∧ Below w.heap.size w w' := by
  have HA := Lib.hid ha
  have HB := Lib.hid hb
  clear ha hb
  go_enter Tryz.func7, Tryz.ntmps7
  go_wp2_with fail
  go_loopg [5] ts.length (fun gg v wr => ∃ k : Nat, k ≤ ts.length ∧ gg = ts.length - k ∧ v = .int .i64 k ∧ Below w.heap.size w wr)
  case atStart => exact ⟨0, by omega, rfl, rfl, Below.refl _ _⟩
  case round =>
    obtain ⟨k, hk, hgk, rfl, hbl⟩ := hrel
    have HGK := Lib.hid hgk
    have HBL := Lib.hid hbl
    clear hgk hbl
    by_cases hlt : k < ts.length
    · have t1 : decide ((k : Int) < (ts.length : Int)) = true := decide_eq_true (by omega)
      obtain ⟨t, ht⟩ : ∃ t, ts[k]? = some t := ⟨_, List.getElem?_eq_getElem hlt⟩
      obtain ⟨g1, rfl, _, c0, c1, c2⟩ := (HA.out.under HBL.out).at_ k t ht
      obtain ⟨g2, rfl, _, d0, d1, d2⟩ := (HB.out.under HBL.out).at_ k t ht
      have k0 : (0 : Int) ≤ (k : Int) := by omega
      have k1 : (k : Int) < (ts.length : Int) := by omega
      clear ht
      have EQ := fun n => neqTok (t.kind : Int) (t.place : Int) (mkS t.text) (wr.drewN n)
      have EG := fun n x y => neqgTok (t.kind : Int) (t.place : Int) (mkS t.text) x y (wr.drewN n)
      go_upto_region 6 with fail
      go_quiet (fail)
      go_wp2_with fail
      go_roundg (ts.length - (k + 1))
      case rel => exact ⟨k + 1, by omega, rfl, by go_num, HBL.out.trans ⟨rfl, rfl, rfl, Nat.le_refl _, fun _ _ => rfl⟩⟩
      case measure => rw [HGK.out]; omega
    · have t1 : decide ((k : Int) < (ts.length : Int)) = false := decide_eq_false (by omega)
      go_wp2_with fail
      go_ret
      exact ⟨rfl, HBL.out⟩
end Go.Proofs.YtinhknheaeaacaaGreat
