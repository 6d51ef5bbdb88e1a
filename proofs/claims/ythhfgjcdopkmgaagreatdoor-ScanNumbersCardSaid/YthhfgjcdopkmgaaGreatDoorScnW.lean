/- Tokens. -/
import Derived.Test.YthhfgjcdopkmgaaGreatDoorScnV
import Derived.Defers
import Derived.Recover
import Derived.RegionTactic
import Derived.ChangeAlike
set_option maxRecDepth 100000
namespace Go.Proofs.YthhfgjcdopkmgaaGreatDoor
open Go.Instr Go.RowKit ScnT
set_option linter.unusedVariables false
/-- What the deferred call leaves where a fault was panicked with. -/
structure Caught (b : Nat) (c q : Int) (w w' : World) : Prop where
  c0 : w'.cell? ⟨b, 0, none⟩ = some (.slice none 0 0)
  c1 : w'.cell? ⟨b + 1, 0, none⟩ = some (.int .i64 c)
  c2 : w'.cell? ⟨b + 1, 1, none⟩ = some (.int .i64 q)
  below : Below b w w'
theorem caught_of {b n : Nat} {c q : Int} {x y0 y1 : Value} {w W : World} (h : Below n w W) (hb : b ≤ n) (g0 : W.cell? ⟨b, 0, none⟩ = some x) (g1 : W.cell? ⟨b + 1, 0, none⟩ = some y0) (g2 : W.cell? ⟨b + 1, 1, none⟩ = some y1) :
    Caught b c q w (((W.setCell ⟨b, 0, none⟩ (.slice none 0 0)).setCell ⟨b + 1, 0, none⟩ (.int .i64 c)).setCell ⟨b + 1, 1, none⟩ (.int .i64 q)).drew := by
  refine ⟨by simp [go_sem, g0], by simp [go_sem, g1], by simp [go_sem, g2], ?_⟩
  exact (((((h.mono hb).setCell (p := ⟨b, 0, none⟩) (Nat.le_refl _) _).setCell (p := ⟨b + 1, 0, none⟩) (by show b ≤ b + 1; omega) _).setCell (p := ⟨b + 1, 1, none⟩) (by show b ≤ b + 1; omega) _)).drew
set_option maxHeartbeats 1000000 in
theorem tokens_catch (b : Nat) (x y0 y1 : Value) (c q : Int) (older : List PanicEntry) (w : World) (hb : b + 1 < w.heap.size) (h0 : w.cell? ⟨b, 0, none⟩ = some x) (z0 : w.frozen? ⟨b, 0, none⟩ = false) (h1 : w.cell? ⟨b + 1, 0, none⟩ = some y0) (h2 : w.cell? ⟨b + 1, 1, none⟩ = some y1) (z1 : w.frozen? ⟨b + 1, 0, none⟩ = false) (z2 : w.frozen? ⟨b + 1, 1, none⟩ = false) :
    CallsD Tryz.prog 25 #[.pointer (some ⟨b, 0, none⟩), .pointer (some ⟨b + 1, 0, none⟩)] (.panicking ({ v := .iface 32 (.agg #[.int .i64 c, .int .i64 q]), recovered := false } :: older)) w fun e u' w' =>
      e = .returned (.tuple #[]) ∧ u' = .panicking ({ v := .iface 32 (.agg #[.int .i64 c, .int .i64 q]), recovered := true } :: older) ∧ Caught b c q w w' := by
  have hta : ∀ w : World, (typeAssert (.iface 32 (.agg #[.int .i64 c, .int .i64 q])) 20 32 true).run Tryz.prog w = .ok (.tuple #[.agg #[.int .i64 c, .int .i64 q], .bool true]) w := fun _ => by kernel_rfl
  refine callsD_of_wpS Tryz.func25 rfl fun c₀ cs hu => ?_
  apply wpS_seq
  apply wpS_region
  simp [wpOpsS, go_sem, recoverD, hu, hta, Tryz.ntmps25, Exit.thenS]
  refine wpS_of_wp ?_
  simp only [Array.replicate, List.replicate, List.setIfInBounds_toArray, List.set_cons_succ, List.set_cons_zero, List.append_toArray, List.cons_append, List.nil_append]
  clear hta
  have hbw : Below w.heap.size w (w.alloc (.cells #[.int .i64 c, .int .i64 q] 32)) := (Below.refl _ _).alloc (Nat.le_refl _) _
  have g0 := (hbw.cell (p := ⟨b, 0, none⟩) (by show b < _; omega)).trans h0
  have g1 := (hbw.cell (p := ⟨b + 1, 0, none⟩) (by show b + 1 < _; omega)).trans h1
  have g2 := (hbw.cell (p := ⟨b + 1, 1, none⟩) (by show b + 1 < _; omega)).trans h2
  have f0 := (hbw.frozen (p := ⟨b, 0, none⟩) (by show b < _; omega)).trans z0
  have f1 := (hbw.frozen (p := ⟨b + 1, 0, none⟩) (by show b + 1 < _; omega)).trans z1
  have f2 := (hbw.frozen (p := ⟨b + 1, 1, none⟩) (by show b + 1 < _; omega)).trans z2
  have k0 : (w.alloc (.cells #[.int .i64 c, .int .i64 q] 32)).cell? ⟨w.heap.size, 0, none⟩ = some (.int .i64 c) := by simp [go_sem]
  have k1 : (w.alloc (.cells #[.int .i64 c, .int .i64 q] 32)).cell? ⟨w.heap.size, 1, none⟩ = some (.int .i64 q) := by simp [go_sem]
  clear h0 h1 h2 z0 z1 z2
  have HBW := Lib.hid hbw
  clear hbw
  generalize w.alloc (.cells #[.int .i64 c, .int .i64 q] 32) = W at *
  obtain ⟨n, hn⟩ : ∃ n, w.heap.size = n := ⟨_, rfl⟩
  rw [hn] at k0 k1 hb HBW ⊢
  have HNN := Lib.hid hn
  clear hn
  have hn0 : ¬ b = n := by omega
  have hn1 : ¬ b + 1 = n := by omega
  have hn2 : ¬ n = b := by omega
  have hn3 : ¬ n = b + 1 := by omega
  go_wp2_with fail
  go_region
  all_goals
    simp +zetaDelta [bodyPostS, results, Tryz.results25]
    exact caught_of HBW.out (by omega) g0 g1 g2
set_option maxHeartbeats 1000000 in
theorem tokens_idle (p q : Addr) (w : World) :
    CallsD Tryz.prog 25 #[.pointer (some p), .pointer (some q)] .returning w fun e u' w' => e = .returned (.tuple #[]) ∧ u' = .returning ∧ w' = w.alloc (.cells #[.int .i64 0, .int .i64 0] 32) := by
  have hta : ∀ w : World, (typeAssert .nilIface 20 32 true).run Tryz.prog w = .ok (.tuple #[.agg #[.int .i64 0, .int .i64 0], .bool false]) w := fun _ => by kernel_rfl
  refine callsD_of_wpS Tryz.func25 rfl fun c₀ cs hu => ?_
  apply wpS_seq
  apply wpS_region
  simp [wpOpsS, go_sem, recoverD, hu, hta, Tryz.ntmps25, Exit.thenS]
  refine wpS_of_wp ?_
  simp only [Array.replicate, List.replicate, List.setIfInBounds_toArray, List.set_cons_succ, List.set_cons_zero, List.append_toArray, List.cons_append, List.nil_append]
  clear hta
  go_wp2_with fail
  cases c₀
  simp_all +zetaDelta [bodyPostS, results, Tryz.results25]
theorem Clone_any (s : ByteArray) (w : World) (hs : s.size ≤ 65536) : Calls Tryz.prog 26 #[.string s] w fun e w' => e = .returned (.string s) ∧ Below w.heap.size w w' := by
  have H := Lib.hid (Go.Proofs.Tryz.stringslite_Clone s w (by omega))
  go_enter Tryz.func26, Tryz.ntmps26
  go_wp2_with fail
  refine H.out.mono ?_
  rintro e w1 ⟨rfl, hb⟩
  have HB := Lib.hid hb
  clear hb
  go_wp2_with fail
  go_ret
  exact ⟨rfl, HB.out⟩
end Go.Proofs.YthhfgjcdopkmgaaGreatDoor
