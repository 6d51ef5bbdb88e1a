/-
  No cell of these rows narrows 'for every input' (looked for: loops, veiled, ifaces, maps, wideKeys, modest, calm, conditions, laid).
  DERIVED. THE GIVEN ROWS OF THIS SEAT. 2 by the template 'for every input the law returns true; each argument reads behind the call as it read before'; 0 by the template 'total and deterministic' (their statements: YtbgkigdlbiknnaaTotals.lean).
  GIVEN WITH THE SEED: the statements are not yours to turn. If you find one false, say at which input.
  Laid BY PROGRAM, IN A SANDBOX (cutbox-rows.mjs): the forced cells as the released guide's own fill.sh prints them over the translation f5d4cd6019dd2157… (all of the seat's roots in one cut). By AI agents, Wed Nov 11 2026. No macro, syntax, notation, axiom, sorry.
-/
import Derived.Test.YtbgkigdlbiknnaaChecked
import GoSem.Claim
import GoSem.ClaimJoined
import GoSem.ClaimMapViews
import Derived.JoinedTies
import Derived.KernelRfl
namespace Go.Proofs.Ytbgkigdlbiknnaa
/- THE CELL 'sum', in the pinned program and in every row, IS THE sha256 OF THE DUMP (.gsa) THAT YtbgkigdlbiknnaaProg.lean LOADS. Nothing in Lean hashes anything: it is a label: what it is worth is what the hold of that sum in a sandbox is worth. -/
noncomputable def Try.pinned : Pinned := { name := "ytbgkigdlbiknnaa", sum := "f5d4cd6019dd21579d23df63999d6b6d96f5de6b22b3e925083dfd7f3d3bafbe", checked := Try.checked }
namespace Rows
def none {H : Type} : Left H := { results := [], args := [] }

/-- 'gristmilllaw11.ReadPlaces': WHATEVER THE INPUT: true; the input reads as it did. -/
def readPlacesSpec : ChangeSpec := { name := "readPlaces", fn := fun _ => fun
  | [d] => { results := [.lit (.bool true)], args := [d] }
  | _ => none }
def readPlacesRow : OpenClaim := { program := "ytbgkigdlbiknnaa", sum := "f5d4cd6019dd21579d23df63999d6b6d96f5de6b22b3e925083dfd7f3d3bafbe", func := "gristmill/gristmilllaw11.ReadPlaces", spec := "readPlaces", unfollowed := true, recurses := true, apart := false }
def ReadPlacesSaid : Prop := readPlacesRow.holds Try.pinned (OpenSpec.ofChange readPlacesSpec)

/-- ITS FALSE NEIGHBOUR: 'it returns false'. Refute it at one input. -/
def readPlacesWrong : ChangeSpec := { name := "readPlaces", fn := fun _ => fun
  | [d] => { results := [.lit (.bool false)], args := [d] }
  | _ => none }
def ReadPlacesWrongFalsely : Prop := readPlacesRow.holds Try.pinned (OpenSpec.ofChange readPlacesWrong)

/-- 'gristmilllaw11.ReadRows': WHATEVER THE INPUT: true; the input reads as it did. -/
def readRowsSpec : ChangeSpec := { name := "readRows", fn := fun _ => fun
  | [d1, d2] => { results := [.lit (.bool true)], args := [d1, d2] }
  | _ => none }
def readRowsRow : OpenClaim := { program := "ytbgkigdlbiknnaa", sum := "f5d4cd6019dd21579d23df63999d6b6d96f5de6b22b3e925083dfd7f3d3bafbe", func := "gristmill/gristmilllaw11.ReadRows", spec := "readRows", unfollowed := true, recurses := true, apart := false }
def ReadRowsSaid : Prop := readRowsRow.holds Try.pinned (OpenSpec.ofChange readRowsSpec)

/-- ITS FALSE NEIGHBOUR: 'it returns false'. Refute it at one input. -/
def readRowsWrong : ChangeSpec := { name := "readRows", fn := fun _ => fun
  | [d1, d2] => { results := [.lit (.bool false)], args := [d1, d2] }
  | _ => none }
def ReadRowsWrongFalsely : Prop := readRowsRow.holds Try.pinned (OpenSpec.ofChange readRowsWrong)

/- THE SECOND FORM. 'bulk': how many values and letters a reading holds, each counted each time it is reached (what is shared counts as often as it is met; a slice's spare places count too). A statement '..UptoSaid' is the law's where the arguments, and the package variables that the reading takes, are together of bulk at most 1048576: NARROWER than '..Said'. Prove '..Said' where nothing that the law and all that it calls make is longer than what came in: it says more and counts as full. Else prove '..UptoSaid'. A law counts once. -/
mutual
def uptoBulk {H : Type} : DataW H → Nat
  | .lit (.string bytes) => bytes.length + 1
  | .lit _ => 1
  | .nil => 1
  | .ptr d => uptoBulk d + 1
  | .slice elems spare => uptoBulkAll elems + uptoBulkAll spare + 1
  | .agg parts => uptoBulkAll parts + 1
  | .iface _ d => uptoBulk d + 1
  | .map entries => uptoBulkEntries entries + 1
  | .held _ => 1
def uptoBulkAll {H : Type} : List (DataW H) → Nat
  | [] => 0
  | d :: r => uptoBulk d + uptoBulkAll r
def uptoBulkEntries {H : Type} : List (Lit × DataW H) → Nat
  | [] => 0
  | x :: r => uptoBulkEntry x + uptoBulkEntries r
def uptoBulkEntry {H : Type} : Lit × DataW H → Nat
  | (.string bytes, d) => bytes.length + uptoBulk d + 1
  | (_, d) => uptoBulk d + 1
 end
def uptoSmall : (H : Type) → List (DataW H) → Bool := fun _ ds => decide (uptoBulkAll ds ≤ 1048576)
def OpenSpec.upto (s : _root_.Go.ChangeSpec) : _root_.Go.OpenSpec := { _root_.Go.OpenSpec.ofChange s with cond := some uptoSmall }

/-- 'gristmilllaw11.ReadPlaces', WHERE WHAT IT READS IS OF BULK AT MOST 1048576: true; the input reads as it did. -/
def readPlacesUptoRow : OpenClaim := { program := "ytbgkigdlbiknnaa", sum := "f5d4cd6019dd21579d23df63999d6b6d96f5de6b22b3e925083dfd7f3d3bafbe", func := "gristmill/gristmilllaw11.ReadPlaces", spec := "readPlaces", unfollowed := true, recurses := true, apart := false, narrowed := true }
def ReadPlacesUptoSaid : Prop := readPlacesUptoRow.holds Try.pinned (OpenSpec.upto readPlacesSpec)

/-- 'gristmilllaw11.ReadRows', WHERE WHAT IT READS IS OF BULK AT MOST 1048576: true; the input reads as it did. -/
def readRowsUptoRow : OpenClaim := { program := "ytbgkigdlbiknnaa", sum := "f5d4cd6019dd21579d23df63999d6b6d96f5de6b22b3e925083dfd7f3d3bafbe", func := "gristmill/gristmilllaw11.ReadRows", spec := "readRows", unfollowed := true, recurses := true, apart := false, narrowed := true }
def ReadRowsUptoSaid : Prop := readRowsUptoRow.holds Try.pinned (OpenSpec.upto readRowsSpec)

end Rows
end Go.Proofs.Ytbgkigdlbiknnaa
