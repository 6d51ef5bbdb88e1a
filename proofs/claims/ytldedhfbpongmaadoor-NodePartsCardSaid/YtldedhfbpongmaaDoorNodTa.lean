/- What can be read as a node is a tree that lies in the world. -/
/- The laid table of operators, as the walk reads it. -/
import Derived.Test.YtldedhfbpongmaaDoorNodRi
import Derived.ProofKit
import Derived.OpenShut
import Derived.Test.YtldedhfbpongmaaDoorRows
import Derived.Test.YtldedhfbpongmaaDoorCards
import Derived.Test.YtldedhfbpongmaaDoorTie
import Derived.LaidOnce
import Derived.Lay
import Derived.Lib.LaidU8
import Derived.ChangeArms
import Derived.ChangeSlices
set_option maxRecDepth 100000
namespace Go.Proofs.YtldedhfbpongmaaDoor
open Go.Instr Go.RowKit NodT
set_option linter.unusedVariables false
theorem Tryd.cellsKind : Tryd.prog.cellsOf 22 = 1 := by kernel_rfl
theorem Tryd.cellsStr : Tryd.prog.cellsOf 9 = 1 := by kernel_rfl
theorem Tryd.cellsInt : Tryd.prog.cellsOf 3 = 1 := by kernel_rfl
theorem Tryd.cellsNodes : Tryd.prog.cellsOf 23 = 1 := by kernel_rfl
theorem Tryd.cellsNode : Tryd.prog.cellsOf 25 = 5 := by kernel_rfl
theorem wf_int {n : Int} (h : (Lit.int .i64 n).wf = true) : -9223372036854775808 ≤ n ∧ n ≤ 9223372036854775807 := by
  simp [Lit.wf, IntKind.min, IntKind.max, IntKind.signed, IntKind.bits] at h; omega
theorem wf_kind {n : Int} (h : (Lit.int .u8 n).wf = true) : 0 ≤ n ∧ n < 256 := by
  simp [Lit.wf, IntKind.min, IntKind.max, IntKind.signed, IntKind.bits] at h; omega
def default_nd : Nd := .mk 0 ⟨#[]⟩ 0 0 none 0 []
theorem take_one {cs : List Value} {k : Nat} {v : Value} (h : (cs.drop k).take 1 = [v]) : cs[k]? = some v := by
  have := congrArg (fun l => l[0]?) h
  simpa using this
theorem node_of_trod {H : Type} {enc : TypeId × Value → H} {w : World} {base : Nat} {spare : Nat → Bool} {held : Bool} : ∀ (fuel : Nat) (cs : List Value) (x : DataW H × List MemPlace),
    DataW.trod enc Tryd.prog w base spare held fuel 25 cs = some x → ∃ t : Nd, cs = t.cs ∧ In w w.heap.size t := by
  intro fuel
  induction fuel using Nat.strongRecOn with
  | _ fuel ih =>
    intro cs x h
    obtain ⟨xs, n, rfl, hx, hl, hxl, hf⟩ := DataW.trod_struct Tryd.underlying25 h
    rw [Tryd.cellsNode] at hl
    have get : ∀ i, i < 5 → ∃ y, xs[i]? = some y := fun i hi => ⟨_, List.getElem?_eq_getElem (by rw [hxl]; exact hi)⟩
    obtain ⟨y0, e0⟩ := get 0 (by omega)
    obtain ⟨y1, e1⟩ := get 1 (by omega)
    obtain ⟨y2, e2⟩ := get 2 (by omega)
    obtain ⟨y3, e3⟩ := get 3 (by omega)
    obtain ⟨y4, e4⟩ := get 4 (by omega)
    have f0 := hf 0 _ rfl
    have f1 := hf 1 _ rfl
    have f2 := hf 2 _ rfl
    have f3 := hf 3 _ rfl
    have f4 := hf 4 _ rfl
    rw [e0] at f0
    rw [e1] at f1
    rw [e2] at f2
    rw [e3] at f3
    rw [e4] at f4
    obtain ⟨k, k0, _, wk⟩ := DataW.trod_int Tryd.underlying22 f0
    obtain ⟨s, k1, _, ws⟩ := DataW.trod_string Tryd.underlying9 f1
    obtain ⟨m, k2, _, wm⟩ := DataW.trod_int Tryd.underlying3 f2
    obtain ⟨p, k3, _, wp⟩ := DataW.trod_int Tryd.underlying3 f3
    have c0 : cs[0]? = some (.int .u8 k) := take_one (by rw [← Tryd.cellsKind]; exact k0)
    have c1 : cs[1]? = some (.string s) := take_one (by rw [← Tryd.cellsStr]; exact k1)
    have c2 : cs[2]? = some (.int .i64 m) := take_one (by rw [← Tryd.cellsInt]; exact k2)
    have c3 : cs[3]? = some (.int .i64 p) := take_one (by rw [← Tryd.cellsInt]; exact k3)
    have hk := wf_kind wk
    have build : ∀ v, cs[4]? = some v → cs = [.int .u8 k, .string s, .int .i64 m, .int .i64 p, v] := by
      intro v c4
      match cs, hl with
      | [a0, a1, a2, a3, a4], _ =>
        simp only [List.getElem?_cons_zero, List.getElem?_cons_succ, Option.some.injEq] at c0 c1 c2 c3 c4
        rw [c0, c1, c2, c3, c4]
    rcases DataW.trod_slice Tryd.underlying23 f4 with ⟨k4, _⟩ | ⟨a, len, cap, elems, rest, n', hn, k4, _, hab, hlc, hcm, hel, hat, _, _⟩
    · have c4 : cs[4]? = some (.slice none 0 0) := take_one (by rw [← Tryd.cellsNodes]; exact k4)
      refine ⟨.mk k.toNat s m p none 0 [], ?_, .mk _ ⟨by show k.toNat < 256; omega, ws, wf_int wm, wf_int wp, Nat.le_refl _, Nat.zero_le _, fun _ => ⟨rfl, rfl⟩⟩ (fun h => by simp [Nd.kids] at h) (fun i u h => by simp [Nd.kids] at h)⟩
      rw [build _ c4]
      show _ = [Value.int .u8 (k.toNat : Nat), _, _, _, _]
      rw [show ((k.toNat : Nat) : Int) = k from by omega]
      rfl
    · have c4 : cs[4]? = some (.slice (some a) len cap) := take_one (by rw [← Tryd.cellsNodes]; exact k4)
      rw [Tryd.cellsNode] at hat
      have each : ∀ i, i < len → ∃ (u : Nd), In w w.heap.size u ∧ ∀ (j : Nat) (v : Value), u.cs[j]? = some v → w.cell? ((a.add (i * 5)).add j) = some v := by
        intro i hi
        have h1 := hat i hi
        rw [List.getElem?_eq_getElem (by omega)] at h1
        obtain ⟨vs, hvs, htv⟩ := Option.bind_eq_some_iff.1 h1
        obtain ⟨u, rfl, hin⟩ := ih n' (by omega) vs _ htv
        obtain ⟨_, _, hcell⟩ := World.cells?_some hvs
        refine ⟨u, hin, fun j v hv => ?_⟩
        have hj : j < 5 := by have := (List.getElem?_eq_some_iff.1 hv).1; simpa [Nd.cs] using this
        rw [hcell j hj]
        exact hv
      obtain ⟨ks, hks, hall⟩ : ∃ ks : List Nd, ks.length = len ∧ ∀ (i : Nat) (u : Nd), ks[i]? = some u → In w w.heap.size u ∧ ∀ (j : Nat) (v : Value), u.cs[j]? = some v → w.cell? ((a.add (i * 5)).add j) = some v := by
        refine ⟨(List.range len).map fun i => if h : i < len then (each i h).choose else default_nd, by simp, fun i u hu => ?_⟩
        rw [List.getElem?_map] at hu
        obtain ⟨i', hi', rfl⟩ := Option.map_eq_some_iff.1 hu
        have hlt : i < len := by have := (List.getElem?_eq_some_iff.1 hi').1; simpa using this
        have : i' = i := by
          rw [List.getElem?_range hlt] at hi'
          exact (Option.some.inj hi').symm
        subst this
        rw [dif_pos hlt]
        exact (each i' hlt).choose_spec
      refine ⟨.mk k.toNat s m p (some a) cap ks, ?_, .mk _ ⟨by show k.toNat < 256; omega, ws, wf_int wm, wf_int wp, by show ks.length ≤ cap; omega, hcm, fun h => by cases h⟩ ?_ (fun i u hi => (hall i u hi).1)⟩
      · rw [build _ c4]
        show _ = [Value.int .u8 (k.toNat : Nat), _, _, _, .slice (some a) ks.length cap]
        rw [show ((k.toNat : Nat) : Int) = k from by omega, hks]
        rfl
      · intro h0
        have h0' : 0 < ks.length := h0
        obtain ⟨u0, hu0⟩ : ∃ u, ks[0]? = some u := ⟨_, List.getElem?_eq_getElem h0'⟩
        have hc0 := (hall 0 u0 hu0).2 0 _ rfl
        have hspot := World.cell?_spot hc0
        obtain ⟨b, o, sp⟩ := a
        have hsp : sp = none := by
          cases sp with
          | none => rfl
          | some z => simp [Addr.add] at hspot
        subst hsp
        refine ⟨b, o, rfl, ?_, fun i u hi j v hv => ?_⟩
        · have := World.block_lt_of_cell? _ _ hc0
          simpa [Addr.add] using this
        · have := (hall i u hi).2 j v hv
          rw [Addr.add_mid, Addr.add_mid] at this
          exact this
end Go.Proofs.YtldedhfbpongmaaDoor
namespace Go.Proofs.YtldedhfbpongmaaDoor
open Go.Instr Go.RowKit NodT
set_option linter.unusedVariables false
theorem Tryd.cellsOp : Tryd.prog.cellsOf 62 = 2 := by kernel_rfl
theorem Tryd.cellsOps : Tryd.prog.cellsOf 63 = 30 := by kernel_rfl
theorem op_of {w : World} {n : Nat} {cs : List Value} {x : DataW Unit × List MemPlace} {l : List UInt8} {k : Int} (h : DataW.trod (fun _ => ()) Tryd.prog w 0 (fun _ => true) false n 62 cs = some x) (hx : x.1 = .agg [.lit (.string l), .lit (.int .i64 k)]) : cs = [.string ⟨l.toArray⟩, .int .i64 k] := by
  obtain ⟨xs, m, _, hx', hl, hxl, hf⟩ := DataW.trod_struct Tryd.underlying62 h
  rw [Tryd.cellsOp] at hl
  have f0 := hf 0 _ rfl
  have f1 := hf 1 _ rfl
  match xs, hxl with
  | [y0, y1], _ =>
    have f0' : DataW.trod (fun _ => ()) Tryd.prog w 0 (fun _ => true) false m 9 ((cs.drop 0).take (Tryd.prog.cellsOf 9)) = some y0 := f0
    have f1' : DataW.trod (fun _ => ()) Tryd.prog w 0 (fun _ => true) false m 3 ((cs.drop 1).take (Tryd.prog.cellsOf 3)) = some y1 := f1
    obtain ⟨s, k0, e0, _⟩ := DataW.trod_string Tryd.underlying9 f0'
    obtain ⟨i, k1, e1, _⟩ := DataW.trod_int Tryd.underlying3 f1'
    have c0 : cs[0]? = some (.string s) := take_one (by rw [← Tryd.cellsStr]; exact k0)
    have c1 : cs[1]? = some (.int .i64 i) := take_one (by rw [← Tryd.cellsInt]; exact k1)
    rw [hx', e0, e1] at hx
    simp only [List.map_cons, List.map_nil, DataW.agg.injEq, List.cons.injEq, DataW.lit.injEq, Lit.string.injEq, Lit.int.injEq, true_and, and_true] at hx
    obtain ⟨h1, h2⟩ := hx
    match cs, hl with
    | [a0, a1], _ =>
      simp only [List.getElem?_cons_zero, List.getElem?_cons_succ, Option.some.injEq] at c0 c1
      subst c0 c1
      rw [← h1, ← h2]
set_option maxRecDepth 100000 in
theorem laid_ops {w : World} (h : Lib.VarReads Tryd.prog w "gristmill/node.operators" Rows.laid_gristmill_node_operators) : OpsAt 0 w := by
  obtain ⟨g, t, cs, fuel, p, hg, ht, hv, htr⟩ := h
  obtain rfl : g = 0 := Option.some.inj (hg.symm.trans (by kernel_rfl))
  obtain rfl : t = 63 := Option.some.inj (ht.symm.trans (by kernel_rfl))
  obtain ⟨xs, n, _, hx, hl, hxl, hf⟩ := DataW.trod_array Tryd.underlying63 htr
  rw [Tryd.cellsOps] at hl
  have hd : xs.map (·.1) = (match (Rows.laid_gristmill_node_operators : DataW Unit) with | .agg l => l | _ => []) := by
    have := (Prod.mk.inj hx).1
    rw [this]
  have each : ∀ (i : Nat) (l : List UInt8) (k : Int), i < 15 → (match (Rows.laid_gristmill_node_operators : DataW Unit) with | .agg l => l | _ => [])[i]? = some (.agg [.lit (.string l), .lit (.int .i64 k)]) → cs.toList[i * 2]? = some (.string ⟨l.toArray⟩) ∧ cs.toList[i * 2 + 1]? = some (.int .i64 k) := by
    intro i l k hi hlk
    have h1 := hf i hi
    rw [Tryd.cellsOp, List.getElem?_eq_getElem (by omega)] at h1
    have hxi : (xs[i]'(by omega)).1 = .agg [.lit (.string l), .lit (.int .i64 k)] := by
      rw [← hd, List.getElem?_map, List.getElem?_eq_getElem (by omega)] at hlk
      exact Option.some.inj hlk
    have h2 := op_of h1 hxi
    have e0 := congrArg (fun l => l[0]?) h2
    have e1 := congrArg (fun l => l[1]?) h2
    simp only [List.getElem?_take, List.getElem?_drop] at e0 e1
    exact ⟨by simpa using e0, by simpa using e1⟩
  have hcs : cs = opsCells := by
    apply Array.ext'
    apply List.ext_getElem?
    intro j
    rcases Nat.lt_or_ge j 30 with hj | hj
    · obtain ⟨i, hi, hji⟩ : ∃ i, i < 15 ∧ (j = i * 2 ∨ j = i * 2 + 1) := ⟨j / 2, by omega, by omega⟩
      have : ∀ i, i < 15 → cs.toList[i * 2]? = opsCells.toList[i * 2]? ∧ cs.toList[i * 2 + 1]? = opsCells.toList[i * 2 + 1]? := by
        intro i hi
        match i, hi with
        | 0, h => exact each 0 _ _ h rfl
        | 1, h => exact each 1 _ _ h rfl
        | 2, h => exact each 2 _ _ h rfl
        | 3, h => exact each 3 _ _ h rfl
        | 4, h => exact each 4 _ _ h rfl
        | 5, h => exact each 5 _ _ h rfl
        | 6, h => exact each 6 _ _ h rfl
        | 7, h => exact each 7 _ _ h rfl
        | 8, h => exact each 8 _ _ h rfl
        | 9, h => exact each 9 _ _ h rfl
        | 10, h => exact each 10 _ _ h rfl
        | 11, h => exact each 11 _ _ h rfl
        | 12, h => exact each 12 _ _ h rfl
        | 13, h => exact each 13 _ _ h rfl
        | 14, h => exact each 14 _ _ h rfl
      rcases hji with rfl | rfl
      · exact (this i hi).1
      · exact (this i hi).2
    · rw [List.getElem?_eq_none (by omega), List.getElem?_eq_none (by show 30 ≤ j; exact hj)]
  simp only [World.var?, show Tryd.prog.globalNamed "gristmill/node.operators" = some 0 from by kernel_rfl, Option.bind_some] at hv
  split at hv
  · rename_i c tt fr hh
    obtain rfl : c = cs := Option.some.inj hv
    subst hcs
    exact ⟨tt, fr, hh⟩
  · cases hv
end Go.Proofs.YtldedhfbpongmaaDoor
