/- New, isMade, Deep, hindered, Open, innermost, the two that heed. -/
import Derived.Test.YtecncjbphdacjaaScoB
import Derived.Test.YtecncjbphdacjaaRows
import Derived.Test.YtecncjbphdacjaaProg
import Derived.WalkSpells
import Derived.Outline
import Derived.Lib.Hide
import Derived.Handy
import Derived.LoopTactic
import Derived.Deep.LoopGhost
import Derived.Deep.QuietTactic
import Derived.BigQuiet
import Derived.Deep.CutRange
import Derived.Laws.AppendOwn
import Derived.LaidEqlPtr
set_option maxRecDepth 100000
namespace Go.Proofs.Ytecncjbphdacjaa
open Go.Instr Go.RowKit ScoT
set_option linter.unusedVariables false
abbrev SC (w : World) (tag : Nat → Tag) (n₀ s : Nat) (A : Option Addr) (cap : Nat) (bs : List Bk) : Prop := Scp w tag n₀ 9 56 s A cap bs
theorem Try.infoScope : ∃ j, Try.prog.info? 27 = some j := by
  have h : (Try.prog.info? 27).isSome = true := by kernel_rfl
  exact Option.isSome_iff_exists.1 h
theorem run_eql_none_some (w : World) (a : Addr) : (binOp .eql 23 (.pointer none) (.pointer (some a))).run Try.prog w = .ok (.bool false) w := by
  have h : ∀ d : Nat, (Op.equalIn (d + 1) 23 (.pointer none) (.pointer (some a))).run Try.prog w = .ok false w := fun d => by
    simp [Op.equalIn, run_underlying Try.underlying23]
  simp only [binOp]
  simp [Op.equal, Op.maxDepth, h 9999]
theorem run_eql_self (w : World) (a : Addr) : (binOp .eql 23 (.pointer (some a)) (.pointer (some a))).run Try.prog w = .ok (.bool true) w := by
  obtain ⟨j, hj⟩ := Try.infoScope
  exact run_eql_ptr_same w a Try.underlying23 hj
theorem isMade_no0 (w : World) : Calls Try.prog 20 #[.pointer none] w fun e w' => e = .returned (.bool false) ∧ w' = w := by
  go_enter Try.func20, Try.ntmps20
  go_wp2_with fail
  go_ret
  exact ⟨rfl, rfl⟩
theorem isMade_no1 (b : Nat) (w : World) (h : w.cell? ⟨b, 1, none⟩ = some (.pointer none)) : Calls Try.prog 20 #[.pointer (some ⟨b, 0, none⟩)] w fun e w' => e = .returned (.bool false) ∧ w' = w := by
  have he := run_eql_none_some w ⟨b, 0, none⟩
  go_enter Try.func20, Try.ntmps20
  go_wp2_with fail
  go_ret
  exact ⟨rfl, rfl⟩
theorem isMade_yes (b : Nat) (w : World) (h : w.cell? ⟨b, 1, none⟩ = some (.pointer (some ⟨b, 0, none⟩))) : Calls Try.prog 20 #[.pointer (some ⟨b, 0, none⟩)] w fun e w' => e = .returned (.bool true) ∧ w' = w := by
  have he := run_eql_self w ⟨b, 0, none⟩
  go_enter Try.func20, Try.ntmps20
  go_wp2_with fail
  go_ret
  exact ⟨rfl, rfl⟩
/-- A scope that nobody made. -/
def NoScope (w : World) (p : Option Addr) : Prop := p = none ∨ ∃ b, p = some ⟨b, 0, none⟩ ∧ w.cell? ⟨b, 1, none⟩ = some (.pointer none)
theorem isMade_no (p : Option Addr) (w : World) (h : NoScope w p) : Calls Try.prog 20 #[.pointer p] w fun e w' => e = .returned (.bool false) ∧ w' = w := by
  rcases h with rfl | ⟨b, rfl, h⟩
  · exact isMade_no0 w
  · exact isMade_no1 b w h
theorem Deep_no (p : Option Addr) (w : World) (h : NoScope w p) : Calls Try.prog 10 #[.pointer p] w fun e w' => e = .returned (.int .i64 0) ∧ w' = w := by
  go_enter Try.func10, Try.ntmps10
  go_wp2_with (go_at_call 20; refine (isMade_no p _ h).mono ?_; rintro e w' ⟨rfl, rfl⟩)
  go_ret
  exact ⟨rfl, rfl⟩
theorem hindered_no (p : Option Addr) (w : World) (h : NoScope w p) : Calls Try.prog 22 #[.pointer p] w fun e w' => e = .returned (.int .i64 1) ∧ w' = w := by
  go_enter Try.func22, Try.ntmps22
  go_wp2_with (go_at_call 20; refine (isMade_no p _ h).mono ?_; rintro e w' ⟨rfl, rfl⟩)
  go_ret
  exact ⟨rfl, rfl⟩
theorem Open_no (p : Option Addr) (w : World) (h : NoScope w p) : Calls Try.prog 6 #[.pointer p] w fun e w' => e = .returned (.tuple #[]) ∧ w' = w := by
  go_enter Try.func6, Try.ntmps6
  go_wp2_with (go_at_call 20; refine (isMade_no p _ h).mono ?_; rintro e w' ⟨rfl, rfl⟩)
  go_end0
  exact ⟨rfl, rfl⟩
theorem Close_no (p : Option Addr) (w : World) (h : NoScope w p) : Calls Try.prog 7 #[.pointer p] w fun e w' => e = .returned (.tuple #[.slice none 0 0, .int .i64 1]) ∧ w' = w := by
  go_enter Try.func7, Try.ntmps7
  go_wp2_with (go_at_call 22; refine (hindered_no p _ h).mono ?_; rintro e w' ⟨rfl, rfl⟩)
  go_ret2
  exact ⟨rfl, rfl⟩
theorem New_any (w : World) : Calls Try.prog 14 #[] w fun e w' => e = .returned (.pointer (some ⟨w.heap.size, 0, none⟩)) ∧ w' = w.alloc (.cells #[.slice none 0 0, .pointer (some ⟨w.heap.size, 0, none⟩)] 27) := by
  go_enter Try.func14, Try.ntmps14
  go_wp2_with fail
  go_ret
  exact ⟨rfl, by rfl⟩
theorem kind_any (k : Nat) (hk : k < 256) (w : World) : Calls Try.prog 13 #[.int .u8 k] w fun e w' => e = .returned (.agg #[.int .u8 k, .string ⟨#[]⟩, .slice none 0 0]) ∧ Below w.heap.size w w' := by
  go_enter Try.func13, Try.ntmps13
  go_wp2_with fail
  exact bodyPost_ret (v := .agg #[.int .u8 k, .string ⟨#[]⟩, .slice none 0 0]) (by simp [results, Try.results13, go_sem]) rfl ⟨rfl, (Below.refl _ _).alloc (Nat.le_refl _) _⟩
end Go.Proofs.Ytecncjbphdacjaa
