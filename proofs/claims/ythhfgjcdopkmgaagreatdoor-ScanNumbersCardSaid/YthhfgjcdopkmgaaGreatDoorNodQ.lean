/- A region that draws its order, whose operations read and whose callees make memory of their own and hand back plain values: one walk serves every order: Quiet.lean's theorem at the class 'worlds that came of w by new blocks and draws'. -/
import Derived.WalkKit
import Derived.Below
import Derived.BigQuiet
set_option maxRecDepth 100000
namespace Go
open Go.RowKit
structure Later (w : World) where
  to : World
  below : Below w.heap.size w to
instance laterInhabited (w : World) : Nonempty (Later w) := ⟨⟨w, Below.refl _ _⟩⟩
def World.ext (w : World) (x : Later w) : World := x.to
theorem World.ext_below (w : World) (x : Later w) : Below w.heap.size w (w.ext x) := x.below
theorem World.ext_cell {w : World} {p : Addr} {v : Value} (h : w.cell? p = some v) : ∀ x, (w.ext x).cell? p = some v := fun x => ((w.ext_below x).cell (World.block_lt_of_cell? _ _ h)).trans h
theorem World.ext_size (w : World) (x : Later w) : w.heap.size ≤ (w.ext x).heap.size := (w.ext_below x).size
theorem wp_region_ext_lit {P : Program} {id : Nat} {Q : Exit → Act → World → Prop} {a : Act} {w : World} {l : List Oper} (hm : P.follows .mixedOrders = true) (hB : Region.lexB .any l.toArray = true)
    (h : wpQuiet P l.toArray (fun w' => ∃ x, w' = w.ext x) (fun a' => ∀ w', (∃ x, w' = w.ext x) → Q .normal a' w') l a) : (Code.region id l.toArray true).wp P Q a w :=
  wp_region_quiet (C := fun w' => ∃ x, w' = w.ext x) hm hB ⟨⟨_, (Below.refl _ _).drew⟩, rfl⟩ (by simpa using h)
theorem Calls.ext_of {P : Program} {f : FuncId} {args : Array Value} {w : World} {x : Later w} {v : Value}
    (h : Calls P f args (w.ext x) fun e w' => e = .returned v ∧ Below (w.ext x).heap.size (w.ext x) w') : Calls P f args (w.ext x) fun e w'' => e = .returned v ∧ ∃ y, w'' = w.ext y :=
  h.mono fun _ w' ⟨he, hb⟩ => ⟨he, ⟨w', (w.ext_below x).trans (hb.mono (w.ext_size x))⟩, rfl⟩
end Go
