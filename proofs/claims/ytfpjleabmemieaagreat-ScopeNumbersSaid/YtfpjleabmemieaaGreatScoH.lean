/- A range over a method that is bound to a value: each round goes on and leaves memory as it was, or returns. -/
import Derived.Test.YtfpjleabmemieaaGreatScoF
import Derived.Test.YtfpjleabmemieaaGreatScoG
import Derived.RangeFuncNested
import Derived.RangeFuncBound
import Derived.RangeFuncCalls
import Derived.RangeFuncLeaves
import Derived.Shelf.Abstract
import Derived.Shelf.RegionOpen
import Derived.OwnWalkIn
import Derived.TacticsInMore
import Derived.LoopNIn
import Derived.LoopIn
set_option maxRecDepth 100000
namespace ScoT
open Go Go.RowKit
set_option linter.unusedVariables false
/-- How a round ends: it goes on; or it returns. -/
def endR (D : Nat) (p : Nat → Prop) (Fin : World → Prop) (i : Nat) (W : World) : Exit → Act → World → Prop
  | .normal, _, W' => Below W.heap.size W W' ∧ p (i + 1)
  | .ret, _, W' => W'.heap[D]? = W.heap[D]? ∧ W'.heap[D + 1]? = W.heap[D + 1]? ∧ Fin W'
  | _, _, _ => False
theorem below_put {B : Nat} {w W : World} (h : Below B w W) {l : Nat} (hl : B ≤ l) (o : Obj) : Below B w (W.putObj l o) :=
  ⟨h.os, h.tape, h.output, by rw [World.putObj_size]; exact h.size, fun k hk => (World.putObj_heap_other (by omega)).trans (h.block k hk)⟩
theorem range_bound {F : Fence} {n : Nat} {P : Program} {g : Operand} {ps : Array Tmp} {assign body : Code} {Q : Exit → Act → World → Prop} {a : Act} {w : World}
    (hro : F.round = none) (h1 : 1 ≤ n) {gf : Nat} {bound : Array Value} (hg : a.eval g = .func (.func gf) bound #[]) (hFg : F.fn gf) (eg : ∀ args w, (callFunc gf args).run P w = .ok (.enter gf args) w)
    (N : Nat) (vals : Nat → Value) (hps : ps.size = 1)
    (hit : ∀ (l : Nat) (J : Nat → World → Prop) (Jx : World → Prop) (W : World), (∀ i W, J i W → Below w.heap.size w W) →
      (∀ i W, J i W → i < N → YieldAt F (n - 1 - 1) P l #[vals i] W fun e W' => (e = .returned (.bool true) ∧ J (i + 1) W') ∨ (e = .returned (.bool false) ∧ Jx W')) → J 0 W →
      CallsIn F (n - 1) P gf (bound ++ #[.func (.yield l) #[] #[]]) W fun e W' => (∃ v, e = .returned v) ∧ (J N W' ∨ Jx W'))
    (p : Nat → Prop) (h0 : p 0) (Fin : World → Prop) (hFin : ∀ W o, w.heap.size + 1 < W.heap.size → Fin W → Fin (W.putObj (w.heap.size + 1) o))
    (a₁ : Nat → Act) (hassign : ∀ (i : Nat) (W : World) (K : Act → World → Prop), K (a₁ i) W →
      assign.wpIn (F.inRound (w.heap.size + 1)) (n - 1 - 1) P (Exit.then K (fun _ _ _ => False)) { tmps := (ps.zip #[vals i]).foldl (fun t (p, v) => t.setIfInBounds p v) a.tmps, defers := [] } W)
    (hbody : ∀ (i : Nat) (W : World), p i → i < N → Below w.heap.size w W → w.heap.size + 2 ≤ W.heap.size → body.wpIn (F.inRound (w.heap.size + 1)) (n - 1 - 1) P (endR w.heap.size p Fin i W) (a₁ i) W)
    (hdone : ∀ W, p N → Below w.heap.size w W → W.heap[w.heap.size]? = some (.deferred (some [])) → Q .normal { a with defers := { target := .collected w.heap.size, args := #[] } :: a.defers } W)
    (hstop : ∀ W, Fin W → W.heap[w.heap.size]? = some (.deferred (some [])) → Code.ret.wpIn F n P Q { a with defers := { target := .collected w.heap.size, args := #[] } :: a.defers } W) :
    (Code.rangeFunc g ps assign body).wpIn F n P Q a w := by
  obtain ⟨D, hD⟩ : ∃ D, w.heap.size = D := ⟨_, rfl⟩
  rw [hD] at hit hFin hassign hbody hdone hstop
  refine wpIn_rangeFunc fun fn hfn => ?_
  rw [hro]
  let rec_ : LoopState → Option Code → Obj := fun st pe => .loop { state := st, pending := pe, fn := fn, tmps := a.tmps, params := ps, assign := assign, body := body, defers := D }
  obtain ⟨W1, hW1⟩ : ∃ W1, W1 = (w.alloc (.deferred (some []))).alloc (rec_ .ready none) := ⟨_, rfl⟩
  have b1 : Below D w W1 := by rw [hW1]; exact ((Below.refl _ w).alloc (by omega) _).alloc (by simp; omega) _
  have d1 : W1.heap[D]? = some (.deferred (some [])) := by
    rw [hW1, Below.heap_alloc _ _ _ (by simp; omega), ← hD]; exact World.alloc_heap_new w _
  have l1 : W1.heap[D + 1]? = some (rec_ .ready none) := by
    have := World.alloc_heap_new (w.alloc (.deferred (some []))) (rec_ .ready none)
    rw [World.size_alloc, hD] at this
    rw [hW1]; exact this
  refine ⟨D + 1, [{ target := .collected D, args := #[] }], W1, { target := .fn (.func gf) #[], args := bound ++ #[.func (.yield (D + 1)) #[] #[]] }, W1, gf, bound ++ #[.func (.yield (D + 1)) #[] #[]], W1, ?_, ?_, ?_, ?_, fun _ => h1, ?_⟩
  · subst hD; rw [hW1]; exact run_enterLoop_outer _ _ _ _ _
  · simp only [resolve, hg]
    simp [go_sem]
  · intro f' hf'; simp [Target.leads] at hf'; subst hf'; exact hFg
  · simp [invoke, go_sem, eg]
  refine (hit (D + 1) (fun i W => p i ∧ Below D w W ∧ W.heap[D + 1]? = some (rec_ .ready none) ∧ W.heap[D]? = some (.deferred (some [])))
    (fun W => Fin W ∧ W.heap[D + 1]? = some (rec_ .done (some .ret)) ∧ W.heap[D]? = some (.deferred (some []))) W1 (fun i W h => h.2.1) ?_ ⟨h0, b1, l1, d1⟩).mono ?_
  · rintro i W ⟨hp, hb, hl, hd⟩ hi
    have hlt : D + 1 < W.heap.size := (Array.getElem?_eq_some_iff.1 hl).1
    refine ⟨fn, _, assign, body, run_yield hl (by simp [hps]), roundIn_of_wpIn hfn (hassign i W _ ?_)⟩
    refine ⟨_, run_beginRound hl rfl, ?_⟩
    have hb2 : Below D w (W.putObj (D + 1) (rec_ .busy none)) := below_put hb (by omega) _
    have hl2 : (W.putObj (D + 1) (rec_ .busy none)).heap[D + 1]? = some (rec_ .busy none) := World.putObj_heap_same hlt
    have hd2 : (W.putObj (D + 1) (rec_ .busy none)).heap[D]? = some (.deferred (some [])) := (World.putObj_heap_other (by omega)).trans hd
    refine wpIn_mono (hbody i _ hp hi hb2 (by rw [World.putObj_size]; omega)) ?_
    intro e a3 W3 hq
    cases e with
    | normal =>
      obtain ⟨hb3, hp3⟩ := hq
      rw [World.putObj_size] at hb3
      have hl3 := (hb3.block (D + 1) hlt).trans hl2
      refine ⟨_, _, run_endRound none hl3, .inl ⟨rfl, hp3, below_put (hb2.trans (hb3.mono (by omega))) (by omega) _, World.putObj_heap_same (Array.getElem?_eq_some_iff.1 hl3).1, ?_⟩⟩
      exact (World.putObj_heap_other (by omega)).trans ((hb3.block D (by omega)).trans hd2)
    | ret =>
      obtain ⟨q1, q2, q3⟩ := hq
      have hl3 := q2.trans hl2
      refine ⟨_, _, run_endRound (some .ret) hl3, .inr ⟨rfl, hFin _ _ (Array.getElem?_eq_some_iff.1 hl3).1 q3, World.putObj_heap_same (Array.getElem?_eq_some_iff.1 hl3).1, ?_⟩⟩
      exact (World.putObj_heap_other (by omega)).trans (q1.trans hd2)
    | exit id => exact hq.elim
    | goto t => exact hq.elim
    | panic ch => exact hq.elim
    | outgrown => exact hq.elim
  · rintro e W2 ⟨⟨v, rfl⟩, (⟨hp, hb, hl, hd⟩ | ⟨hf, hl, hd⟩)⟩
    · exact ⟨none, _, run_endLoop hl (fun e => by cases e), hdone _ hp (below_put hb (by omega) _) ((World.putObj_heap_other (by omega)).trans hd)⟩
    · exact ⟨some .ret, _, run_endLoop hl (fun e => by cases e), hstop _ (hFin _ _ (Array.getElem?_eq_some_iff.1 hl).1 hf) ((World.putObj_heap_other (by omega)).trans hd)⟩
end ScoT
namespace Go.Proofs.YtfpjleabmemieaaGreat
open Go.Instr Go.RowKit Go.Shelf ScoT
set_option linter.unusedVariables false
attribute [local go_sem] Oper.semAt_some
set_option maxHeartbeats 2000000 in
/-- The blocks from the innermost on. -/
theorem outward_in (F : Fence) (n : Nat) (h31 : F.fn 48) (hro : F.round = none) (hn : 1 ≤ n) (A : Option Addr) (N c : Nat) (hN : N ≤ 1000000) (loc : Nat → Nat) (w0 : World) (hA : ∀ i, i < N → ∃ g, A = some ⟨g, 0, none⟩ ∧ w0.cell? ⟨g, N - 1 - i, none⟩ = some (.pointer (some ⟨loc i, 0, none⟩)))
    (l : Nat) (J : Nat → World → Prop) (Jx : World → Prop) (W : World) (hJ : ∀ i W, J i W → Below w0.heap.size w0 W)
    (hY : ∀ i W, J i W → i < N → YieldAt F (n - 1) Tryz.prog l #[.pointer (some ⟨loc i, 0, none⟩)] W fun e W' => (e = .returned (.bool true) ∧ J (i + 1) W') ∨ (e = .returned (.bool false) ∧ Jx W')) (h0 : J 0 W) :
    CallsIn F n Tryz.prog 48 (#[.slice A N c] ++ #[.func (.yield l) #[] #[]]) W fun e W' => (∃ v, e = .returned v) ∧ (J N W' ∨ Jx W') := by
  refine callsIn_of_wp Tryz.func48 rfl h31 ?_ hro
  simp only [Tryz.ntmps48, List.size_toArray, List.length_cons, List.length_nil, Nat.reduceAdd, Nat.reduceSub, Array.replicate_succ, Array.replicate_zero, List.push_toArray, List.append_toArray, List.nil_append, List.cons_append]
  gi_wp2
  gi_loopw [7] (fun v wr => ∃ i : Nat, v = .int .i64 i ∧ i ≤ N ∧ J i wr) (fun v wr => N - (intOf v).toNat)
  case atStart => exact ⟨0, rfl, by omega, h0⟩
  case round =>
    obtain ⟨i, rfl, hi, hJi⟩ := hrel
    by_cases hlt : i < N
    · have t1 : decide ((i : Int) < (N : Int)) = true := decide_eq_true (by omega)
      obtain ⟨g, rfl, hc⟩ := hA i hlt
      have c0 := ((hJ i wr hJi).cell (World.block_lt_of_cell? _ _ hc)).trans hc
      have e0 : IntKind.i64.wrap ((N : Int) - 1) = (N : Int) - 1 := IntWalk.i64_in _ (by omega)
      have e1 : IntKind.i64.wrap ((N : Int) - 1 - (i : Int)) = ((N - 1 - i : Nat) : Int) := by rw [IntWalk.i64_in _ (by omega)]; omega
      have k0 : ((N - 1 - i : Nat) : Int) < (N : Int) := by omega
      obtain ⟨fn, tmps, assign, body, hy, hR⟩ := hY i wr hJi hlt
      gi_wp2
      refine hR.mono ?_
      rintro e W3 (⟨rfl, hJ3⟩ | ⟨rfl, hx3⟩)
      · gi_wp2
        go_roundw
        case rel => exact ⟨i + 1, by go_num, by omega, hJ3⟩
        case measure => simp [intOf]; omega
      · gi_wp2
        refine bodyPost_ret (results_none rfl _ _ _) rfl ?_
        exact ⟨⟨_, rfl⟩, .inr hx3⟩
    · have t1 : decide ((i : Int) < (N : Int)) = false := decide_eq_false (by omega)
      obtain rfl : i = N := by omega
      gi_wp2
      go_end0
      exact ⟨⟨_, rfl⟩, .inl hJi⟩
end Go.Proofs.YtfpjleabmemieaaGreat
