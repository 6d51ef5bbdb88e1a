/- Pairs of strings: a map that the call itself made. -/
import Derived.Test.YthhfgjcdopkmgaaGreatDoorScnL
set_option maxRecDepth 100000
namespace Go
open Go.Instr
section
variable {P : Program}
theorem run_checkKey_u8_succ (b : Bool) (n : Nat) (K : TypeId) (w : World) (k : Int) (hK : P.underlying K = some (.int .u8)) :
    (checkKey b (n + 1) K (.int .u8 k)).run P w = .ok () w := by
  simp [checkKey, run_underlying hK]
theorem run_checkKey_u8 (b : Bool) (K : TypeId) (w : World) (k : Int) (hK : P.underlying K = some (.int .u8)) :
    (checkKey b 10000 K (.int .u8 k)).run P w = .ok () w := run_checkKey_u8_succ b 9999 K w k hK
theorem run_findKey_u8 (K : TypeId) (w : World) (k : Value) (es : List MapEntry) (r : Option (Nat × Value)) (d : TypeDesc) (hK : P.underlying K = some d)
    (hn : findNow d k es 0 = some r) : (findKey K k es).run P w = .ok r w := by
  simp [findKey, run_underlying hK, hn]
theorem run_getObj_lastU (w : World) (es : Array MapEntry) (c : Nat) : (getObj w.heap.size).run P (w.alloc (.map es c)) = .ok (.map es c) (w.alloc (.map es c)) := by
  have h : (w.alloc (.map es c)).heap[w.heap.size]? = some (.map es c) := (MapKept.heap_alloc w _).1
  simp only [getObj, Sem.run, h]
theorem run_setObj_lastU (w : World) (es : Array MapEntry) (c : Nat) (o' : Obj) : (setObj w.heap.size o').run P (w.alloc (.map es c)) = .ok () (w.alloc o') := by
  have h : (w.alloc (.map es c)).heap[w.heap.size]? = some (.map es c) := (MapKept.heap_alloc w _).1
  have e : (w.heap.push (.map es c)).setIfInBounds w.heap.size o' = w.heap.push o' := by
    apply Array.ext
    · simp
    · intro i h1 h2
      simp only [Array.size_setIfInBounds, Array.size_push] at h1
      by_cases hi : i = w.heap.size
      · subst hi; simp
      · rw [Array.getElem_setIfInBounds_ne (by simpa using h1) (by omega)]; simp [Array.getElem_push, show i < w.heap.size by omega]
  simp only [setObj, Sem.run, h]
  show Result.ok () { w.alloc (.map es c) with heap := (w.heap.push (.map es c)).setIfInBounds w.heap.size o' } = _
  rw [e]; rfl
theorem run_mapUpdate_u8 (T K E : TypeId) (w : World) (es : Array MapEntry) (c : Nat) (s : Int) (v : Value)
    (hT : P.underlying T = some (.map K E)) (hK : P.underlying K = some (.int .u8))
    (hn : findNow (.int .u8) (.int .u8 s) es.toList 0 = some none) :
    (mapUpdate T (.map (some w.heap.size)) (.int .u8 s) v).run P (w.alloc (.map es c)) =
      .ok () (w.alloc (.map (es.push { key := .int .u8 s, val := v, born := c }) (c + 1))) := by
  have h1 := run_checkKey_u8 (P := P) false K (w.alloc (.map es c)) s hK
  have h2 := run_findKey_u8 (P := P) K (w.alloc (.map es c)) (.int .u8 s) es.toList none _ hK hn
  have h3 := run_getObj_lastU (P := P) w es c
  have h4 := run_setObj_lastU (P := P) w es c (.map (es.push { key := .int .u8 s, val := v, born := c }) (c + 1))
  unfold mapUpdate
  simp only [Sem.run_bind, run_underlying hT, h1, h2, h3, h4, Result.andThen]
theorem run_lookup_u8_there (T K E : TypeId) (w : World) (b : Nat) (es : Array MapEntry) (c : Nat) (s : Int) (i : Nat) (v : Value)
    (hT : P.underlying T = some (.map K E)) (hK : P.underlying K = some (.int .u8)) (hb : w.heap[b]? = some (.map es c))
    (hn : findNow (.int .u8) (.int .u8 s) es.toList 0 = some (some (i, v))) :
    (lookup T (.map (some b)) (.int .u8 s) true).run P w = .ok (.tuple #[v, .bool true]) w := by
  have h1 := fun bb => run_checkKey_u8 (P := P) bb K w s hK
  have h2 := run_findKey_u8 (P := P) K w (.int .u8 s) es.toList _ _ hK hn
  have h3 : (getObj b).run P w = .ok (.map es c) w := by simp [getObj, Sem.run, hb]
  unfold lookup
  simp only [Sem.run_bind, run_underlying hT, h1, h2, h3, Result.andThen, Sem.run_pure]
  rfl
theorem run_lookup_u8_not (T K E : TypeId) (w : World) (b : Nat) (es : Array MapEntry) (c : Nat) (s : Int) (z : Value)
    (hT : P.underlying T = some (.map K E)) (hK : P.underlying K = some (.int .u8)) (hb : w.heap[b]? = some (.map es c))
    (hz : (zeroValue E).run P w = .ok z w)
    (hn : findNow (.int .u8) (.int .u8 s) es.toList 0 = some none) :
    (lookup T (.map (some b)) (.int .u8 s) true).run P w = .ok (.tuple #[z, .bool false]) w := by
  have h1 := fun bb => run_checkKey_u8 (P := P) bb K w s hK
  have h2 := run_findKey_u8 (P := P) K w (.int .u8 s) es.toList _ _ hK hn
  have h3 : (getObj b).run P w = .ok (.map es c) w := by simp [getObj, Sem.run, hb]
  unfold lookup
  simp only [Sem.run_bind, run_underlying hT, h1, h2, h3, hz, Result.andThen, Sem.run_pure]
  rfl
end
end Go
namespace ScnT
open Go Go.Instr
/-- The entries of pairs. -/
def pairEs : Array MapEntry := #[{ key := .int .u8 110, val := .int .u8 10, born := 0 }, { key := .int .u8 116, val := .int .u8 9, born := 1 }, { key := .int .u8 114, val := .int .u8 13, born := 2 }, { key := .int .u8 92, val := .int .u8 92, born := 3 }, { key := .int .u8 34, val := .int .u8 34, born := 4 }]
theorem pair_find (c : UInt8) : match pairB c with | some x => ∃ i, findNow (.int .u8) (.int .u8 (c.toNat : Int)) pairEs.toList 0 = some (some (i, .int .u8 (x.toNat : Int))) | none => findNow (.int .u8) (.int .u8 (c.toNat : Int)) pairEs.toList 0 = some none := by
  unfold pairB
  by_cases h1 : c = 110
  · subst h1; exact ⟨0, rfl⟩
  by_cases h2 : c = 116
  · subst h2; exact ⟨1, rfl⟩
  by_cases h3 : c = 114
  · subst h3; exact ⟨2, rfl⟩
  by_cases h4 : c = 92
  · subst h4; exact ⟨3, rfl⟩
  by_cases h5 : c = 34
  · subst h5; exact ⟨4, rfl⟩
  have g : ∀ k : UInt8, ¬ c = k → ((c.toNat : Int) == (k.toNat : Int)) = false := by
    intro k hk
    rw [← Bool.not_eq_true, beq_iff_eq]
    intro h
    exact hk (UInt8.toNat_inj.1 (by omega))
  have g1 := g 110 h1
  have g2 := g 116 h2
  have g3 := g 114 h3
  have g4 := g 92 h4
  have g5 := g 34 h5
  simp only [beq_iff_eq, h1, h2, h3, h4, h5, if_false]
  generalize (c.toNat : Int) = n at *
  have e1 : ((110 : UInt8).toNat : Int) = 110 := rfl
  have e2 : ((116 : UInt8).toNat : Int) = 116 := rfl
  have e3 : ((114 : UInt8).toNat : Int) = 114 := rfl
  have e4 : ((92 : UInt8).toNat : Int) = 92 := rfl
  have e5 : ((34 : UInt8).toNat : Int) = 34 := rfl
  rw [e1] at g1; rw [e2] at g2; rw [e3] at g3; rw [e4] at g4; rw [e5] at g5
  simp [pairEs, findNow, sameNow, g1, g2, g3, g4, g5]
/-- What the map of pairs is worth in a world. -/
def PairsAt (w : World) (m : Nat) : Prop := w.heap[m]? = some (.map pairEs 5)
end ScnT
namespace Go.Proofs.YthhfgjcdopkmgaaGreatDoor
open Go.Instr Go.RowKit ScnT
set_option linter.unusedVariables false
theorem pairs_any (w : World) : Calls Tryz.prog 27 #[] w fun e w' => e = .returned (.map (some w.heap.size)) ∧ w.alloc (.map pairEs 5) = w' := by
  have hm := fun es c s v hn => run_mapUpdate_u8 (P := Tryz.prog) 60 5 5 w es c s v Tryz.underlying60 Tryz.underlying5 hn
  have m1 := hm #[] 0 110 (.int .u8 10) rfl
  have m2 := hm #[{ key := .int .u8 110, val := .int .u8 10, born := 0 }] 1 116 (.int .u8 9) rfl
  have m3 := hm #[{ key := .int .u8 110, val := .int .u8 10, born := 0 }, { key := .int .u8 116, val := .int .u8 9, born := 1 }] 2 114 (.int .u8 13) rfl
  have m4 := hm #[{ key := .int .u8 110, val := .int .u8 10, born := 0 }, { key := .int .u8 116, val := .int .u8 9, born := 1 }, { key := .int .u8 114, val := .int .u8 13, born := 2 }] 3 92 (.int .u8 92) rfl
  have m5 := hm #[{ key := .int .u8 110, val := .int .u8 10, born := 0 }, { key := .int .u8 116, val := .int .u8 9, born := 1 }, { key := .int .u8 114, val := .int .u8 13, born := 2 }, { key := .int .u8 92, val := .int .u8 92, born := 3 }] 4 34 (.int .u8 34) rfl
  clear hm
  simp only [List.push_toArray, List.cons_append, List.nil_append, Nat.zero_add] at m1 m2 m3 m4 m5
  have hmm := @run_makeMap Tryz.prog
  go_enter Tryz.func27, Tryz.ntmps27
  go_wp2_with fail
  go_ret
  exact ⟨rfl, rfl⟩
end Go.Proofs.YthhfgjcdopkmgaaGreatDoor
