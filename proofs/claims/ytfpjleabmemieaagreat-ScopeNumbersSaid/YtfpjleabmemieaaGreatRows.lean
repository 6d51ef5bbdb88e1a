/-
  NARROWER THAN 'FOR EVERY INPUT', by the rows' own cells (each row's printed sentence says how): ScopeLives: loops.
  DERIVED. THE GIVEN ROWS OF THIS SEAT. 2 by the template 'for every input the law returns true; each argument reads behind the call as it read before'; 0 by the template 'total and deterministic' (their statements: YtfpjleabmemieaaGreatTotals.lean).
  GIVEN WITH THE SEED: the statements are not yours to turn. If you find one false, say at which input.
  Laid BY PROGRAM, IN A SANDBOX (cutbox-rows.mjs): the forced cells as the released guide's own fill.sh prints them over the translation 23f258d22e06a769… (all of the seat's roots in one cut). By AI agents, Wed Nov 11 2026. No macro, syntax, notation, axiom, sorry.
-/
import Derived.Test.YtfpjleabmemieaaGreatChecked
import GoSem.Claim
import GoSem.ClaimJoined
import GoSem.ClaimMapViews
import Derived.JoinedTies
import Derived.KernelRfl
namespace Go.Proofs.YtfpjleabmemieaaGreat
/- THE CELL 'sum', in the pinned program and in every row, IS THE sha256 OF THE DUMP (.gsa) THAT YtfpjleabmemieaaGreatProg.lean LOADS. Nothing in Lean hashes anything: it is a label: what it is worth is what the hold of that sum in a sandbox is worth. -/
noncomputable def Tryz.pinned : Pinned := { name := "ytfpjleabmemieaagreat", sum := "23f258d22e06a76906d6140e517e97b31c5a225f651d0f7960454a4e14d87d7b", checked := Tryz.checked }
namespace Rows
def none {H : Type} : Left H := { results := [], args := [] }

/-- 'gristmilllaw06.ScopeNumbers': WHATEVER THE INPUT: true; the input reads as it did. -/
def scopeNumbersSpec : ChangeSpec := { name := "scopeNumbers", fn := fun _ => fun
  | [] => { results := [.lit (.bool true)], args := [] }
  | _ => none }
def scopeNumbersRow : OpenClaim := { program := "ytfpjleabmemieaagreat", sum := "23f258d22e06a76906d6140e517e97b31c5a225f651d0f7960454a4e14d87d7b", func := "gristmill/gristmilllaw06.ScopeNumbers", spec := "scopeNumbers", unfollowed := true, recurses := true, plainKeys := false, apart := false }
def ScopeNumbersSaid : Prop := scopeNumbersRow.holds Tryz.pinned (OpenSpec.ofChange scopeNumbersSpec)

/-- ITS FALSE NEIGHBOUR: 'it returns false'. Refute it at one input. -/
def scopeNumbersWrong : ChangeSpec := { name := "scopeNumbers", fn := fun _ => fun
  | [] => { results := [.lit (.bool false)], args := [] }
  | _ => none }
def ScopeNumbersWrongFalsely : Prop := scopeNumbersRow.holds Tryz.pinned (OpenSpec.ofChange scopeNumbersWrong)

/-- 'gristmilllaw06.ScopeLives': WHATEVER THE INPUT: true; the input reads as it did. -/
def scopeLivesSpec : ChangeSpec := { name := "scopeLives", fn := fun _ => fun
  | [d] => { results := [.lit (.bool true)], args := [d] }
  | _ => none }
def scopeLivesRow : OpenClaim := { program := "ytfpjleabmemieaagreat", sum := "23f258d22e06a76906d6140e517e97b31c5a225f651d0f7960454a4e14d87d7b", func := "gristmill/gristmilllaw06.ScopeLives", spec := "scopeLives", unfollowed := true, recurses := true, loops := true, plainKeys := false, apart := false }
def ScopeLivesSaid : Prop := scopeLivesRow.holds Tryz.pinned (OpenSpec.ofChange scopeLivesSpec)

/-- ITS FALSE NEIGHBOUR: 'it returns false'. Refute it at one input. -/
def scopeLivesWrong : ChangeSpec := { name := "scopeLives", fn := fun _ => fun
  | [d] => { results := [.lit (.bool false)], args := [d] }
  | _ => none }
def ScopeLivesWrongFalsely : Prop := scopeLivesRow.holds Tryz.pinned (OpenSpec.ofChange scopeLivesWrong)

/- THE SECOND FORM. 'bulk': how many values and letters a reading holds, each counted each time it is reached (what is shared counts as often as it is met; a slice's spare places count too). A statement '..UptoSaid' is the law's where the arguments, and the package variables that the reading takes, are together of bulk at most 1048576: NARROWER than '..Said'. Prove '..Said' where nothing that the law and all that it calls make is longer than what came in: it says more and counts as full. Else prove '..UptoSaid'. A law counts once. -/
mutual
def uptoBulk {H : Type} : DataW H → Nat
  | .lit (.string bytes) => bytes.length + 1
  | .lit _ => 1
  | .nil => 1
  | .ptr d => uptoBulk d + 1
  | .slice elems spare => uptoBulkAll elems + uptoBulkAll spare + 1
  | .agg parts => uptoBulkAll parts + 1
  | .iface _ d => uptoBulk d + 1
  | .map entries => uptoBulkEntries entries + 1
  | .held _ => 1
def uptoBulkAll {H : Type} : List (DataW H) → Nat
  | [] => 0
  | d :: r => uptoBulk d + uptoBulkAll r
def uptoBulkEntries {H : Type} : List (Lit × DataW H) → Nat
  | [] => 0
  | x :: r => uptoBulkEntry x + uptoBulkEntries r
def uptoBulkEntry {H : Type} : Lit × DataW H → Nat
  | (.string bytes, d) => bytes.length + uptoBulk d + 1
  | (_, d) => uptoBulk d + 1
 end
def uptoSmall : (H : Type) → List (DataW H) → Bool := fun _ ds => decide (uptoBulkAll ds ≤ 1048576)
def OpenSpec.upto (s : _root_.Go.ChangeSpec) : _root_.Go.OpenSpec := { _root_.Go.OpenSpec.ofChange s with cond := some uptoSmall }

/-- 'gristmilllaw06.ScopeNumbers', WHERE WHAT IT READS IS OF BULK AT MOST 1048576: true; the input reads as it did. -/
def scopeNumbersUptoRow : OpenClaim := { program := "ytfpjleabmemieaagreat", sum := "23f258d22e06a76906d6140e517e97b31c5a225f651d0f7960454a4e14d87d7b", func := "gristmill/gristmilllaw06.ScopeNumbers", spec := "scopeNumbers", unfollowed := true, recurses := true, plainKeys := false, apart := false, narrowed := true }
def ScopeNumbersUptoSaid : Prop := scopeNumbersUptoRow.holds Tryz.pinned (OpenSpec.upto scopeNumbersSpec)

/-- 'gristmilllaw06.ScopeLives', WHERE WHAT IT READS IS OF BULK AT MOST 1048576: true; the input reads as it did. -/
def scopeLivesUptoRow : OpenClaim := { program := "ytfpjleabmemieaagreat", sum := "23f258d22e06a76906d6140e517e97b31c5a225f651d0f7960454a4e14d87d7b", func := "gristmill/gristmilllaw06.ScopeLives", spec := "scopeLives", unfollowed := true, recurses := true, loops := true, plainKeys := false, apart := false, narrowed := true }
def ScopeLivesUptoSaid : Prop := scopeLivesUptoRow.holds Tryz.pinned (OpenSpec.upto scopeLivesSpec)

end Rows
end Go.Proofs.YtfpjleabmemieaaGreat
