import Derived.Test.YtgncihoioacgjaaGreatDoorRows
import Derived.Test.YtgncihoioacgjaaGreatDoorNumMaps
import Derived.Test.YtgncihoioacgjaaGreatDoorNumFloat
import Derived.WalkKit
import Derived.WalkLawsBesides
import Derived.WalkSpells
import Derived.Defers
import Derived.Recover
import Derived.Below
import Derived.Outline
import Derived.Lib.Hide
import Derived.Handy
namespace Go.Proofs.YtgncihoioacgjaaGreatDoor
open Go.Instr Go.RowKit
set_option linter.unusedVariables false

def fv (k : Nat) : Value := .func (.func k) #[] #[]
def mi1 : Array MapEntry := #[{ key := .string ⟨#[43]⟩, val := fv 47, born := 0 }]
def mi2 : Array MapEntry := mi1.push { key := .string ⟨#[45]⟩, val := fv 48, born := 1 }
def mi3 : Array MapEntry := mi2.push { key := .string ⟨#[42]⟩, val := fv 49, born := 2 }
def mi4 : Array MapEntry := mi3.push { key := .string ⟨#[47]⟩, val := fv 50, born := 3 }
def mi5 : Array MapEntry := mi4.push { key := .string ⟨#[37]⟩, val := fv 52, born := 4 }

theorem intOps_any (w : World) : Calls Tryz.prog 28 #[] w fun e w' => e = .returned (.map (some w.heap.size)) ∧ w.alloc (.map mi5 5) = w' := by
  have hmm := @run_makeMap Tryz.prog
  have h1 : (mapUpdate 48 (.map (some w.heap.size)) (.string ⟨#[43]⟩) (fv 47)).run Tryz.prog (w.alloc (.map #[] 0)) = .ok () (w.alloc (.map mi1 1)) := run_mapUpdate_lit 48 9 46 w #[] 0 _ _ Tryz.underlying48 Tryz.underlying9 rfl
  have h2 : (mapUpdate 48 (.map (some w.heap.size)) (.string ⟨#[45]⟩) (fv 48)).run Tryz.prog (w.alloc (.map mi1 1)) = .ok () (w.alloc (.map mi2 2)) := run_mapUpdate_lit 48 9 46 w mi1 1 _ _ Tryz.underlying48 Tryz.underlying9 rfl
  have h3 : (mapUpdate 48 (.map (some w.heap.size)) (.string ⟨#[42]⟩) (fv 49)).run Tryz.prog (w.alloc (.map mi2 2)) = .ok () (w.alloc (.map mi3 3)) := run_mapUpdate_lit 48 9 46 w mi2 2 _ _ Tryz.underlying48 Tryz.underlying9 rfl
  have h4 : (mapUpdate 48 (.map (some w.heap.size)) (.string ⟨#[47]⟩) (fv 50)).run Tryz.prog (w.alloc (.map mi3 3)) = .ok () (w.alloc (.map mi4 4)) := run_mapUpdate_lit 48 9 46 w mi3 3 _ _ Tryz.underlying48 Tryz.underlying9 rfl
  have h5 : (mapUpdate 48 (.map (some w.heap.size)) (.string ⟨#[37]⟩) (fv 52)).run Tryz.prog (w.alloc (.map mi4 4)) = .ok () (w.alloc (.map mi5 5)) := run_mapUpdate_lit 48 9 46 w mi4 4 _ _ Tryz.underlying48 Tryz.underlying9 rfl
  simp only [fv] at h1 h2 h3 h4 h5
  go_enter Tryz.func28, Tryz.ntmps28
  go_wp2
  go_ret
  exact ⟨rfl, rfl⟩

theorem catch_panicking (p q : Addr) (hpq : p ≠ q) (x y : Value) (u : TypeId) (pv : Value) (older : List PanicEntry) (w : World) (hc : w.cell? p = some x) (hz : w.frozen? p = false) (hd : w.cell? q = some y) (hy : w.frozen? q = false) :
    CallsD Tryz.prog 53 #[.pointer (some p), .pointer (some q)] (.panicking ({ v := .iface u pv, recovered := false } :: older)) w fun e u' w' =>
      e = .returned (.tuple #[]) ∧ u' = .panicking ({ v := .iface u pv, recovered := true } :: older) ∧ w' = (w.setCell p (.int .i64 0)).setCell q (.int .i64 201) := by
  refine callsD_of_wpS Tryz.func53 rfl fun c₀ cs hu => ?_
  have hd' : (w.setCell p (.int .i64 0)).cell? q = some y := by rw [World.cell?_setCell_other (h := hpq)]; exact hd
  apply wpS_seq
  apply wpS_region
  simp [wpOpsS, go_sem, recoverD, hu, Tryz.ntmps53, Exit.thenS]
  refine wpS_cond (t := true) (by simp [Act.eval, Array.replicate]) ?_
  simp only [if_true]
  apply wpS_region
  simp [wpOpsS, go_sem, hc, hz, hd', hy, bodyPostS, results, Tryz.results53]

theorem catch_idle (p q : Addr) (w : World) :
    CallsD Tryz.prog 53 #[.pointer (some p), .pointer (some q)] .returning w fun e u' w' => e = .returned (.tuple #[]) ∧ u' = .returning ∧ w' = w := by
  refine callsD_of_wpS Tryz.func53 rfl fun c₀ cs hu => ?_
  apply wpS_seq
  apply wpS_region
  simp [wpOpsS, go_sem, recoverD, hu, Tryz.ntmps53, Exit.thenS]
  refine wpS_cond (t := false) (by simp [Act.eval, Array.replicate]) ?_
  simp only [Bool.false_eq_true, if_false]
  refine wpS_of_wp (wp_skip ?_)
  cases c₀
  simp_all [bodyPostS, results, Tryz.results53]


theorem unless_add (a b : Int) (w : World) :
    Calls Tryz.prog 29 #[fv 47, .int .i64 a, .int .i64 b] w fun e w' => e = .returned (.tuple #[.int .i64 (wrap64 (a + b)), .int .i64 0]) ∧ Below w.heap.size w w' := by
  have hmf : ∀ (fn : Fn) (first cap : Array Value) (w : World), (Instr.makeFunc fn first cap).run Tryz.prog w = .ok (.func fn first cap) w := fun _ _ _ _ => rfl
  unfold fv
  go_enter_defers Tryz.func29, Tryz.ntmps29
  go_wp2
  refine leaves_cons (f := 53) (args := #[.pointer (some ⟨w.heap.size, 0, none⟩), .pointer (some ⟨w.heap.size + 1, 0, none⟩)]) (by simp) (by simp [go_sem]) ?_
  refine (catch_idle ⟨w.heap.size, 0, none⟩ ⟨w.heap.size + 1, 0, none⟩ _).mono ?_
  rintro e u' w'' ⟨rfl, rfl, rfl⟩
  simp [Leaves, settle, results, Tryz.results29, go_sem]
  go_grown

theorem unless_sub (a b : Int) (w : World) :
    Calls Tryz.prog 29 #[fv 48, .int .i64 a, .int .i64 b] w fun e w' => e = .returned (.tuple #[.int .i64 (wrap64 (a - b)), .int .i64 0]) ∧ Below w.heap.size w w' := by
  have hmf : ∀ (fn : Fn) (first cap : Array Value) (w : World), (Instr.makeFunc fn first cap).run Tryz.prog w = .ok (.func fn first cap) w := fun _ _ _ _ => rfl
  unfold fv
  go_enter_defers Tryz.func29, Tryz.ntmps29
  go_wp2
  refine leaves_cons (f := 53) (args := #[.pointer (some ⟨w.heap.size, 0, none⟩), .pointer (some ⟨w.heap.size + 1, 0, none⟩)]) (by simp) (by simp [go_sem]) ?_
  refine (catch_idle ⟨w.heap.size, 0, none⟩ ⟨w.heap.size + 1, 0, none⟩ _).mono ?_
  rintro e u' w'' ⟨rfl, rfl, rfl⟩
  simp [Leaves, settle, results, Tryz.results29, go_sem]
  go_grown

theorem unless_mul (a b : Int) (w : World) :
    Calls Tryz.prog 29 #[fv 49, .int .i64 a, .int .i64 b] w fun e w' => e = .returned (.tuple #[.int .i64 (wrap64 (a * b)), .int .i64 0]) ∧ Below w.heap.size w w' := by
  have hmf : ∀ (fn : Fn) (first cap : Array Value) (w : World), (Instr.makeFunc fn first cap).run Tryz.prog w = .ok (.func fn first cap) w := fun _ _ _ _ => rfl
  unfold fv
  go_enter_defers Tryz.func29, Tryz.ntmps29
  go_wp2
  refine leaves_cons (f := 53) (args := #[.pointer (some ⟨w.heap.size, 0, none⟩), .pointer (some ⟨w.heap.size + 1, 0, none⟩)]) (by simp) (by simp [go_sem]) ?_
  refine (catch_idle ⟨w.heap.size, 0, none⟩ ⟨w.heap.size + 1, 0, none⟩ _).mono ?_
  rintro e u' w'' ⟨rfl, rfl, rfl⟩
  simp [Leaves, settle, results, Tryz.results29, go_sem]
  go_grown

theorem unless_quo (a b : Int) (hb0 : ¬ b = 0) (hb : (b == 0) = false) (w : World) :
    Calls Tryz.prog 29 #[fv 50, .int .i64 a, .int .i64 b] w fun e w' => e = .returned (.tuple #[.int .i64 (wrap64 (a.tdiv b)), .int .i64 0]) ∧ Below w.heap.size w w' := by
  have hmf : ∀ (fn : Fn) (first cap : Array Value) (w : World), (Instr.makeFunc fn first cap).run Tryz.prog w = .ok (.func fn first cap) w := fun _ _ _ _ => rfl
  unfold fv
  go_enter_defers Tryz.func29, Tryz.ntmps29
  go_wp2
  refine leaves_cons (f := 53) (args := #[.pointer (some ⟨w.heap.size, 0, none⟩), .pointer (some ⟨w.heap.size + 1, 0, none⟩)]) (by simp) (by simp [go_sem]) ?_
  refine (catch_idle ⟨w.heap.size, 0, none⟩ ⟨w.heap.size + 1, 0, none⟩ _).mono ?_
  rintro e u' w'' ⟨rfl, rfl, rfl⟩
  simp [Leaves, settle, results, Tryz.results29, go_sem]
  go_grown

theorem unless_rem (a b : Int) (hb0 : ¬ b = 0) (hb : (b == 0) = false) (w : World) :
    Calls Tryz.prog 29 #[fv 52, .int .i64 a, .int .i64 b] w fun e w' => e = .returned (.tuple #[.int .i64 (a.tmod b), .int .i64 0]) ∧ Below w.heap.size w w' := by
  have hmf : ∀ (fn : Fn) (first cap : Array Value) (w : World), (Instr.makeFunc fn first cap).run Tryz.prog w = .ok (.func fn first cap) w := fun _ _ _ _ => rfl
  unfold fv
  go_enter_defers Tryz.func29, Tryz.ntmps29
  go_wp2
  refine leaves_cons (f := 53) (args := #[.pointer (some ⟨w.heap.size, 0, none⟩), .pointer (some ⟨w.heap.size + 1, 0, none⟩)]) (by simp) (by simp [go_sem]) ?_
  refine (catch_idle ⟨w.heap.size, 0, none⟩ ⟨w.heap.size + 1, 0, none⟩ _).mono ?_
  rintro e u' w'' ⟨rfl, rfl, rfl⟩
  simp [Leaves, settle, results, Tryz.results29, go_sem]
  go_grown

theorem unless_quo0 (a : Int) (w : World) :
    Calls Tryz.prog 29 #[fv 50, .int .i64 a, .int .i64 0] w fun e w' => e = .returned (.tuple #[.int .i64 0, .int .i64 201]) ∧ Below w.heap.size w w' := by
  have hmf : ∀ (fn : Fn) (first cap : Array Value) (w : World), (Instr.makeFunc fn first cap).run Tryz.prog w = .ok (.func fn first cap) w := fun _ _ _ _ => rfl
  unfold fv
  go_enter_defers Tryz.func29, Tryz.ntmps29
  go_wp2
  refine ⟨rfl, ?_⟩
  refine ⟨rfl, ?_⟩
  refine leaves_cons (f := 53) (args := #[.pointer (some ⟨w.heap.size, 0, none⟩), .pointer (some ⟨w.heap.size + 1, 0, none⟩)]) (by simp) (by simp [go_sem]) ?_
  refine (catch_panicking ⟨w.heap.size, 0, none⟩ ⟨w.heap.size + 1, 0, none⟩ (by simp) (.int .i64 0) (.int .i64 0) _ _ [] _ ?_ ?_ ?_ ?_).mono ?_
  · simp [go_sem]
  · simp [go_sem]
  · simp [go_sem]
  · simp [go_sem]
  rintro e u' w'' ⟨rfl, rfl, rfl⟩
  simp [Leaves, settle, results, Tryz.results29, go_sem]
  go_grown

theorem unless_rem0 (a : Int) (w : World) :
    Calls Tryz.prog 29 #[fv 52, .int .i64 a, .int .i64 0] w fun e w' => e = .returned (.tuple #[.int .i64 0, .int .i64 201]) ∧ Below w.heap.size w w' := by
  have hmf : ∀ (fn : Fn) (first cap : Array Value) (w : World), (Instr.makeFunc fn first cap).run Tryz.prog w = .ok (.func fn first cap) w := fun _ _ _ _ => rfl
  unfold fv
  go_enter_defers Tryz.func29, Tryz.ntmps29
  go_wp2
  refine ⟨rfl, ?_⟩
  refine ⟨rfl, ?_⟩
  refine leaves_cons (f := 53) (args := #[.pointer (some ⟨w.heap.size, 0, none⟩), .pointer (some ⟨w.heap.size + 1, 0, none⟩)]) (by simp) (by simp [go_sem]) ?_
  refine (catch_panicking ⟨w.heap.size, 0, none⟩ ⟨w.heap.size + 1, 0, none⟩ (by simp) (.int .i64 0) (.int .i64 0) _ _ [] _ ?_ ?_ ?_ ?_).mono ?_
  · simp [go_sem]
  · simp [go_sem]
  · simp [go_sem]
  · simp [go_sem]
  rintro e u' w'' ⟨rfl, rfl, rfl⟩
  simp [Leaves, settle, results, Tryz.results29, go_sem]
  go_grown

end Go.Proofs.YtgncihoioacgjaaGreatDoor
