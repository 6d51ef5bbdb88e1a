/- What the bytes of an action do. -/
import Derived.Test.YtngimijiafnheaaGreatLexH
set_option maxRecDepth 100000
namespace Go
open Go.Instr
section
variable {P : Program}
theorem run_checkKey_u8_succ (b : Bool) (n : Nat) (K : TypeId) (w : World) (k : Int) (hK : P.underlying K = some (.int .u8)) :
    (checkKey b (n + 1) K (.int .u8 k)).run P w = .ok () w := by
  simp [checkKey, run_underlying hK]
theorem run_checkKey_u8 (b : Bool) (K : TypeId) (w : World) (k : Int) (hK : P.underlying K = some (.int .u8)) :
    (checkKey b 10000 K (.int .u8 k)).run P w = .ok () w := run_checkKey_u8_succ b 9999 K w k hK
theorem run_findKey_u8 (K : TypeId) (w : World) (k : Value) (es : List MapEntry) (r : Option (Nat × Value)) (d : TypeDesc) (hK : P.underlying K = some d)
    (hn : findNow d k es 0 = some r) : (findKey K k es).run P w = .ok r w := by
  simp [findKey, run_underlying hK, hn]
theorem run_getObj_lastU (w : World) (es : Array MapEntry) (c : Nat) : (getObj w.heap.size).run P (w.alloc (.map es c)) = .ok (.map es c) (w.alloc (.map es c)) := by
  have h : (w.alloc (.map es c)).heap[w.heap.size]? = some (.map es c) := (MapKept.heap_alloc w _).1
  simp only [getObj, Sem.run, h]
theorem run_setObj_lastU (w : World) (es : Array MapEntry) (c : Nat) (o' : Obj) : (setObj w.heap.size o').run P (w.alloc (.map es c)) = .ok () (w.alloc o') := by
  have h : (w.alloc (.map es c)).heap[w.heap.size]? = some (.map es c) := (MapKept.heap_alloc w _).1
  have e : (w.heap.push (.map es c)).setIfInBounds w.heap.size o' = w.heap.push o' := by
    apply Array.ext
    · simp
    · intro i h1 h2
      simp only [Array.size_setIfInBounds, Array.size_push] at h1
      by_cases hi : i = w.heap.size
      · subst hi; simp
      · rw [Array.getElem_setIfInBounds_ne (by simpa using h1) (by omega)]; simp [Array.getElem_push, show i < w.heap.size by omega]
  simp only [setObj, Sem.run, h]
  show Result.ok () { w.alloc (.map es c) with heap := (w.heap.push (.map es c)).setIfInBounds w.heap.size o' } = _
  rw [e]; rfl
theorem run_mapUpdate_u8 (T K E : TypeId) (w : World) (es : Array MapEntry) (c : Nat) (s : Int) (v : Value)
    (hT : P.underlying T = some (.map K E)) (hK : P.underlying K = some (.int .u8))
    (hn : findNow (.int .u8) (.int .u8 s) es.toList 0 = some none) :
    (mapUpdate T (.map (some w.heap.size)) (.int .u8 s) v).run P (w.alloc (.map es c)) =
      .ok () (w.alloc (.map (es.push { key := .int .u8 s, val := v, born := c }) (c + 1))) := by
  have h1 := run_checkKey_u8 (P := P) false K (w.alloc (.map es c)) s hK
  have h2 := run_findKey_u8 (P := P) K (w.alloc (.map es c)) (.int .u8 s) es.toList none _ hK hn
  have h3 := run_getObj_lastU (P := P) w es c
  have h4 := run_setObj_lastU (P := P) w es c (.map (es.push { key := .int .u8 s, val := v, born := c }) (c + 1))
  unfold mapUpdate
  simp only [Sem.run_bind, run_underlying hT, h1, h2, h3, h4, Result.andThen]
theorem run_lookup_u8_there (T K E : TypeId) (w : World) (b : Nat) (es : Array MapEntry) (c : Nat) (s : Int) (i : Nat) (v : Value)
    (hT : P.underlying T = some (.map K E)) (hK : P.underlying K = some (.int .u8)) (hb : w.heap[b]? = some (.map es c))
    (hn : findNow (.int .u8) (.int .u8 s) es.toList 0 = some (some (i, v))) :
    (lookup T (.map (some b)) (.int .u8 s) true).run P w = .ok (.tuple #[v, .bool true]) w := by
  have h1 := fun bb => run_checkKey_u8 (P := P) bb K w s hK
  have h2 := run_findKey_u8 (P := P) K w (.int .u8 s) es.toList _ _ hK hn
  have h3 : (getObj b).run P w = .ok (.map es c) w := by simp [getObj, Sem.run, hb]
  unfold lookup
  simp only [Sem.run_bind, run_underlying hT, h1, h2, h3, Result.andThen, Sem.run_pure]
  rfl
theorem run_lookup_u8_not (T K E : TypeId) (w : World) (b : Nat) (es : Array MapEntry) (c : Nat) (s : Int) (z : Value)
    (hT : P.underlying T = some (.map K E)) (hK : P.underlying K = some (.int .u8)) (hb : w.heap[b]? = some (.map es c))
    (hz : (zeroValue E).run P w = .ok z w)
    (hn : findNow (.int .u8) (.int .u8 s) es.toList 0 = some none) :
    (lookup T (.map (some b)) (.int .u8 s) true).run P w = .ok (.tuple #[z, .bool false]) w := by
  have h1 := fun bb => run_checkKey_u8 (P := P) bb K w s hK
  have h2 := run_findKey_u8 (P := P) K w (.int .u8 s) es.toList _ _ hK hn
  have h3 : (getObj b).run P w = .ok (.map es c) w := by simp [getObj, Sem.run, hb]
  unfold lookup
  simp only [Sem.run_bind, run_underlying hT, h1, h2, h3, hz, Result.andThen, Sem.run_pure]
  rfl
end
end Go
namespace Go.Proofs.YtngimijiafnheaaGreat
open Go.Instr Go.RowKit LexT
set_option linter.unusedVariables false
variable {b fr a o : Nat} {S : ByteArray} {tv pm : Value}
/-- A method of the reader, bound to it. -/
def bound (f b : Nat) : Value := .func (.func f) #[.pointer (some ⟨b, 0, none⟩)] #[]
def acts (b : Nat) : Array MapEntry := #[{ key := .int .u8 123, val := bound 51 b, born := 0 }, { key := .int .u8 125, val := bound 52 b, born := 1 }, { key := .int .u8 34, val := bound 53 b, born := 2 }, { key := .int .u8 47, val := bound 54 b, born := 3 }]
/-- What the map of acts is worth in a world. -/
def ActsAt (w : World) (m b : Nat) : Prop := w.heap[m]? = some (.map (acts b) 4)
theorem doings_any (b : Nat) (w : World) : Calls Tryz.prog 32 #[.pointer (some ⟨b, 0, none⟩)] w fun e w' => e = .returned (.map (some w.heap.size)) ∧ w.alloc (.map (acts b) 4) = w' := by
  have hm := fun es c s v hn => run_mapUpdate_u8 (P := Tryz.prog) 84 5 1 w es c s v Tryz.underlying84 Tryz.underlying5 hn
  have m1 := hm #[] 0 123 (bound 51 b) rfl
  have m2 := hm #[{ key := .int .u8 123, val := bound 51 b, born := 0 }] 1 125 (bound 52 b) rfl
  have m3 := hm #[{ key := .int .u8 123, val := bound 51 b, born := 0 }, { key := .int .u8 125, val := bound 52 b, born := 1 }] 2 34 (bound 53 b) rfl
  have m4 := hm #[{ key := .int .u8 123, val := bound 51 b, born := 0 }, { key := .int .u8 125, val := bound 52 b, born := 1 }, { key := .int .u8 34, val := bound 53 b, born := 2 }] 3 47 (bound 54 b) rfl
  clear hm
  simp only [List.push_toArray, List.cons_append, List.nil_append, Nat.zero_add, bound] at m1 m2 m3 m4
  have hmm := @run_makeMap Tryz.prog
  have hmf : ∀ (fn : Fn) (first cap : Array Value) (w : World), (Instr.makeFunc fn first cap).run Tryz.prog w = .ok (.func fn first cap) w := fun _ _ _ _ => rfl
  go_enter Tryz.func32, Tryz.ntmps32
  go_wp2_with fail
  go_ret
  exact ⟨rfl, rfl⟩
theorem openBrace_any (w : World) (h : Box w b S fr a tv o pm) (ho : o ≤ 100000) :
    Calls Tryz.prog 51 #[.pointer (some ⟨b, 0, none⟩)] w fun e w' => e = .returned (.tuple #[]) ∧ Box w' b S fr a tv (o + 1) pm ∧ w.grownBy w' (some b) := by
  have HB := Lib.hid h
  obtain ⟨c0, c1, c2, c3, c4, c5, f1, f2, f3, f4⟩ := h
  go_enter Tryz.func51, Tryz.ntmps51
  go_wp2_with fail
  go_end0
  refine ⟨rfl, ?_, grown_set _ _ _ _⟩
  have := HB.out.turn (o + 1)
  simpa using this
theorem closeBrace_any (w : World) (h : Box w b S fr a tv o pm) (ho : o ≤ 100000) (h1 : 1 ≤ o) :
    Calls Tryz.prog 52 #[.pointer (some ⟨b, 0, none⟩)] w fun e w' => e = .returned (.tuple #[]) ∧ Box w' b S fr a tv (o - 1) pm ∧ w.grownBy w' (some b) := by
  have HB := Lib.hid h
  have HE : Hid (((o - 1 : Nat) : Int) = (o : Int) - 1) := by show _ = _; omega
  obtain ⟨c0, c1, c2, c3, c4, c5, f1, f2, f3, f4⟩ := h
  go_enter Tryz.func52, Tryz.ntmps52
  go_wp2_with fail
  go_end0
  refine ⟨rfl, ?_, grown_set _ _ _ _⟩
  have := HB.out.turn (o - 1)
  rw [HE.out] at this
  simpa using this
/-- How far a slash goes by. -/
def slashB (l : Bs) : Nat := if [47].isPrefixOf l then (l.takeWhile notNL).length else 0
theorem passSlash_any (w : World) (h : Box w b S fr a tv o pm) (ha : a ≤ S.size) (hS : S.size ≤ 100000) :
    Calls Tryz.prog 54 #[.pointer (some ⟨b, 0, none⟩)] w fun e w' => e = .returned (.tuple #[]) ∧ Box w' b S fr (a + slashB (restB S a)) tv o pm ∧ w.grownBy w' (some b) := by
  have HB := Lib.hid h
  have HS := Lib.hid (startsWith_slash w h ha)
  have HL : Hid (∀ w1, Below w.heap.size w w1 → Calls Tryz.prog 81 #[.pointer (some ⟨b, 0, none⟩)] w1 (PassPost notNL w1 b S fr a tv o pm)) := fun w1 hb => passLine_any w1 (h.under hb h.lt) ha hS
  unfold PassPost at HL
  unfold slashB
  clear h
  cases e : [47].isPrefixOf (restB S a) <;> rw [e] at HS <;> clear e
  · go_enter Tryz.func54, Tryz.ntmps54
    go_wp2_with fail
    refine HS.out.mono ?_
    rintro e w1 ⟨rfl, hb⟩
    have HB1 := Lib.hid hb
    clear hb
    go_wp2_with fail
    go_end0
    exact ⟨rfl, by simpa using HB.out.under HB1.out HB.out.lt, grown_below HB1.out _⟩
  · go_enter Tryz.func54, Tryz.ntmps54
    go_wp2_with fail
    refine HS.out.mono ?_
    rintro e w1 ⟨rfl, hb⟩
    have HB1 := Lib.hid hb
    clear hb
    go_wp2_with fail
    refine (HL.out w1 HB1.out).mono ?_
    rintro e w2 ⟨rfl, hb2, hg2⟩
    have HB2 := Lib.hid (And.intro hb2 hg2)
    clear hb2 hg2
    go_wp2_with fail
    go_end0
    exact ⟨rfl, by simpa using HB2.out.1, grown_trans (grown_below HB1.out _) HB2.out.2⟩
end Go.Proofs.YtngimijiafnheaaGreat
