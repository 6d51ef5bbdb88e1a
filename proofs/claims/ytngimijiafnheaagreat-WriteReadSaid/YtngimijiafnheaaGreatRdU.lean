/- A grammar's text of its bytes. -/
import Derived.Test.YtngimijiafnheaaGreatRdT
import Derived.Test.YtngimijiafnheaaGreatLexO
import Derived.Test.YtngimijiafnheaaGreatLexD
import Derived.Defers
import Derived.Recover
import Derived.RegionTactic
import Derived.ChangeAlike
import Derived.BigRegion
set_option maxRecDepth 100000
set_option linter.unusedSimpArgs false
namespace LexT
open Go Go.RowKit
set_option linter.unusedVariables false
/-- The document's text of a grammar's bytes. -/
def textT (s : Bs) : Except Er Tx :=
  match tokensT s with
  | .error e => .error e
  | .ok ts => match textF (ts.length + 1) ts with
    | some (.ok (x, _)) => .ok x
    | some (.error e) => .error e
    | none => .error (0, 0)
theorem tokens_fine {s : Bs} {ts : List Tok} (h : tokensT s = .ok ts) : Fine ts ∧ (∀ t ∈ ts, t.place ≤ s.length) := by
  unfold tokensT at h
  split at h
  · cases h
  · have := go_keeps (s.length + 1) s 0 [] (by omega) (by omega)
    rw [List.drop_zero, h] at this
    obtain ⟨us, rfl, hl, hg⟩ := this
    refine ⟨⟨[] ++ us, ⟨7, [], s.length⟩, by simp, rfl, rfl⟩, ?_⟩
    intro t ht
    simp only [List.nil_append, List.mem_append, List.mem_singleton] at ht
    rcases ht with ht | rfl
    · have key : ∀ (us : List Tok) (b : Nat), Lies s b us → ∀ t ∈ us, t.place ≤ s.length := by
        intro us
        induction us with
        | nil => intro b _ t ht; simp at ht
        | cons u us ih =>
          intro b hh t ht
          obtain ⟨h1, h2, h3, h4⟩ := hh
          rcases List.mem_cons.1 ht with rfl | ht
          · omega
          · exact ih _ h4 t ht
      exact key us 0 hl t ht
    · exact Nat.le_refl _
theorem tokens_err {s : Bs} {c q : Nat} (h : tokensT s = .error (c, q)) : c ≠ 0 := by
  unfold tokensT at h
  split at h
  · injection h with h; injection h with h1 h2; omega
  · have := go_keeps (s.length + 1) s 0 [] (by omega) (by omega)
    rw [List.drop_zero, h] at this
    omega
theorem textT_1 {s : Bs} {c q : Nat} (h : tokensT s = .error (c, q)) : textT s = .error (c, q) := by unfold textT; rw [h]
theorem textT_2 {s : Bs} {ts : List Tok} {e : Er} (h : tokensT s = .ok ts) (h2 : textF (ts.length + 1) ts = some (.error e)) : textT s = .error e := by unfold textT; rw [h]; simp only [h2]
theorem textT_3 {s : Bs} {ts l : List Tok} {x : Tx} (h : tokensT s = .ok ts) (h2 : textF (ts.length + 1) ts = some (.ok (x, l))) : textT s = .ok x := by unfold textT; rw [h]; simp only [h2]
end LexT
namespace Go.Proofs.YtngimijiafnheaaGreat
open Go.Instr Go.RowKit LexT
set_option linter.unusedVariables false
/-- What the deferred call leaves where a fault was panicked with. -/
structure CaughtT (b : Nat) (c q : Int) (w w' : World) : Prop where
  c0 : w'.cell? ⟨b, 0, none⟩ = some (.slice none 0 0)
  c1 : w'.cell? ⟨b, 1, none⟩ = some (.slice none 0 0)
  c2 : w'.cell? ⟨b + 1, 0, none⟩ = some (.int .i64 c)
  c3 : w'.cell? ⟨b + 1, 1, none⟩ = some (.int .i64 q)
  below : Below b w w'
theorem caughtT_of {b n : Nat} {c q : Int} {x0 x1 y0 y1 : Value} {w W : World} (h : Below n w W) (hb : b ≤ n) (g0 : W.cell? ⟨b, 0, none⟩ = some x0) (g1 : W.cell? ⟨b, 1, none⟩ = some x1) (g2 : W.cell? ⟨b + 1, 0, none⟩ = some y0) (g3 : W.cell? ⟨b + 1, 1, none⟩ = some y1) :
    CaughtT b c q w ((((W.setCell ⟨b, 0, none⟩ (.slice none 0 0)).setCell ⟨b, 1, none⟩ (.slice none 0 0)).setCell ⟨b + 1, 0, none⟩ (.int .i64 c)).setCell ⟨b + 1, 1, none⟩ (.int .i64 q)).drew := by
  refine ⟨by simp [go_sem, g0], by simp [go_sem, g1], by simp [go_sem, g2], by simp [go_sem, g3], ?_⟩
  exact ((((((h.mono hb).setCell (p := ⟨b, 0, none⟩) (Nat.le_refl _) _).setCell (p := ⟨b, 1, none⟩) (Nat.le_refl _) _).setCell (p := ⟨b + 1, 0, none⟩) (by show b ≤ b + 1; omega) _).setCell (p := ⟨b + 1, 1, none⟩) (by show b ≤ b + 1; omega) _)).drew
set_option maxHeartbeats 2000000 in
theorem text_catch (b : Nat) (x0 x1 y0 y1 : Value) (c q : Int) (older : List PanicEntry) (w : World) (hb : b + 1 < w.heap.size) (h0 : w.cell? ⟨b, 0, none⟩ = some x0) (h01 : w.cell? ⟨b, 1, none⟩ = some x1) (z0 : w.frozen? ⟨b, 0, none⟩ = false) (z01 : w.frozen? ⟨b, 1, none⟩ = false) (h1 : w.cell? ⟨b + 1, 0, none⟩ = some y0) (h2 : w.cell? ⟨b + 1, 1, none⟩ = some y1) (z1 : w.frozen? ⟨b + 1, 0, none⟩ = false) (z2 : w.frozen? ⟨b + 1, 1, none⟩ = false) :
    CallsD Tryz.prog 19 #[.pointer (some ⟨b, 0, none⟩), .pointer (some ⟨b + 1, 0, none⟩)] (.panicking ({ v := .iface 32 (.agg #[.int .i64 c, .int .i64 q]), recovered := false } :: older)) w fun e u' w' =>
      e = .returned (.tuple #[]) ∧ u' = .panicking ({ v := .iface 32 (.agg #[.int .i64 c, .int .i64 q]), recovered := true } :: older) ∧ CaughtT b c q w w' := by
  have hta : ∀ w : World, (typeAssert (.iface 32 (.agg #[.int .i64 c, .int .i64 q])) 20 32 true).run Tryz.prog w = .ok (.tuple #[.agg #[.int .i64 c, .int .i64 q], .bool true]) w := fun _ => by kernel_rfl
  refine callsD_of_wpS Tryz.func19 rfl fun c₀ cs hu => ?_
  apply wpS_seq
  apply wpS_region
  simp [wpOpsS, go_sem, recoverD, hu, hta, Tryz.ntmps19, Exit.thenS]
  refine wpS_of_wp ?_
  simp only [Array.replicate, List.replicate, List.setIfInBounds_toArray, List.set_cons_succ, List.set_cons_zero, List.append_toArray, List.cons_append, List.nil_append]
  clear hta
  have hbw : Below w.heap.size w (w.alloc (.cells #[.int .i64 c, .int .i64 q] 32)) := (Below.refl _ _).alloc (Nat.le_refl _) _
  have g0 := (hbw.cell (p := ⟨b, 0, none⟩) (by show b < _; omega)).trans h0
  have g01 := (hbw.cell (p := ⟨b, 1, none⟩) (by show b < _; omega)).trans h01
  have g1 := (hbw.cell (p := ⟨b + 1, 0, none⟩) (by show b + 1 < _; omega)).trans h1
  have g2 := (hbw.cell (p := ⟨b + 1, 1, none⟩) (by show b + 1 < _; omega)).trans h2
  have f0 := (hbw.frozen (p := ⟨b, 0, none⟩) (by show b < _; omega)).trans z0
  have f01 := (hbw.frozen (p := ⟨b, 1, none⟩) (by show b < _; omega)).trans z01
  have f1 := (hbw.frozen (p := ⟨b + 1, 0, none⟩) (by show b + 1 < _; omega)).trans z1
  have f2 := (hbw.frozen (p := ⟨b + 1, 1, none⟩) (by show b + 1 < _; omega)).trans z2
  have k0 : (w.alloc (.cells #[.int .i64 c, .int .i64 q] 32)).cell? ⟨w.heap.size, 0, none⟩ = some (.int .i64 c) := by simp [go_sem]
  have k1 : (w.alloc (.cells #[.int .i64 c, .int .i64 q] 32)).cell? ⟨w.heap.size, 1, none⟩ = some (.int .i64 q) := by simp [go_sem]
  clear h0 h01 h1 h2 z0 z01 z1 z2
  have HBW := Lib.hid hbw
  clear hbw
  generalize w.alloc (.cells #[.int .i64 c, .int .i64 q] 32) = W at *
  obtain ⟨n, hn⟩ : ∃ n, w.heap.size = n := ⟨_, rfl⟩
  rw [hn] at k0 k1 hb HBW ⊢
  have HNN := Lib.hid hn
  clear hn
  have hn0 : ¬ b = n := by omega
  have hn1 : ¬ b + 1 = n := by omega
  have hn2 : ¬ n = b := by omega
  have hn3 : ¬ n = b + 1 := by omega
  go_wp2_with fail
  go_region
  all_goals
    simp +zetaDelta [bodyPostS, results, Tryz.results19]
    exact caughtT_of HBW.out (by omega) g0 g01 g1 g2
set_option maxHeartbeats 1000000 in
theorem text_idle (p q : Addr) (w : World) :
    CallsD Tryz.prog 19 #[.pointer (some p), .pointer (some q)] .returning w fun e u' w' => e = .returned (.tuple #[]) ∧ u' = .returning ∧ w' = w.alloc (.cells #[.int .i64 0, .int .i64 0] 32) := by
  have hta : ∀ w : World, (typeAssert .nilIface 20 32 true).run Tryz.prog w = .ok (.tuple #[.agg #[.int .i64 0, .int .i64 0], .bool false]) w := fun _ => by kernel_rfl
  refine callsD_of_wpS Tryz.func19 rfl fun c₀ cs hu => ?_
  apply wpS_seq
  apply wpS_region
  simp [wpOpsS, go_sem, recoverD, hu, hta, Tryz.ntmps19, Exit.thenS]
  refine wpS_of_wp ?_
  simp only [Array.replicate, List.replicate, List.setIfInBounds_toArray, List.set_cons_succ, List.set_cons_zero, List.append_toArray, List.cons_append, List.nil_append]
  clear hta
  go_wp2_with fail
  cases c₀
  simp_all +zetaDelta [bodyPostS, results, Tryz.results19]
/-- What Text tells. -/
def ToldT (R : Except Er Tx) (w : World) (e : Ending) (w' : World) : Prop :=
  (∃ x S xs, R = .ok x ∧ e = .returned (.tuple #[.agg xs.toArray, .agg #[.int .i64 0, .int .i64 0]]) ∧ AtL w' (textC x) S xs ∧ S.Nodup ∧ (∀ s ∈ S, w.heap.size ≤ s) ∧ Below w.heap.size w w') ∨
  (∃ c q : Nat, R = .error (c, q) ∧ e = .returned (.tuple #[.agg #[.slice none 0 0, .slice none 0 0], .agg #[.int .i64 (c : Int), .int .i64 (q : Int)]]) ∧ Below w.heap.size w w')
end Go.Proofs.YtngimijiafnheaaGreat
