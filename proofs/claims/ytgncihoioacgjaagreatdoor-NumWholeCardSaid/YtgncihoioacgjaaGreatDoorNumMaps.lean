import Derived.WalkKit
import Derived.WalkLawsBesides
namespace Go
open Go.Instr
section
variable {P : Program}

theorem run_checkKey_string_succ (b : Bool) (n : Nat) (K : TypeId) (w : World) (s : ByteArray) (hK : P.underlying K = some .string) :
    (checkKey b (n + 1) K (.string s)).run P w = .ok () w := by
  simp [checkKey, run_underlying hK]
theorem run_checkKey_string (b : Bool) (K : TypeId) (w : World) (s : ByteArray) (hK : P.underlying K = some .string) :
    (checkKey b 10000 K (.string s)).run P w = .ok () w := run_checkKey_string_succ b 9999 K w s hK
theorem run_findKey_now (K : TypeId) (w : World) (k : Value) (es : List MapEntry) (r : Option (Nat × Value)) (d : TypeDesc) (hK : P.underlying K = some d)
    (hn : findNow d k es 0 = some r) : (findKey K k es).run P w = .ok r w := by
  simp [findKey, run_underlying hK, hn]

theorem run_getObj_last (w : World) (es : Array MapEntry) (c : Nat) : (getObj w.heap.size).run P (w.alloc (.map es c)) = .ok (.map es c) (w.alloc (.map es c)) := by
  have h : (w.alloc (.map es c)).heap[w.heap.size]? = some (.map es c) := (MapKept.heap_alloc w _).1
  simp only [getObj, Sem.run, h]
theorem run_setObj_last (w : World) (es : Array MapEntry) (c : Nat) (o' : Obj) : (setObj w.heap.size o').run P (w.alloc (.map es c)) = .ok () (w.alloc o') := by
  have h : (w.alloc (.map es c)).heap[w.heap.size]? = some (.map es c) := (MapKept.heap_alloc w _).1
  have e : (w.heap.push (.map es c)).setIfInBounds w.heap.size o' = w.heap.push o' := by
    apply Array.ext
    · simp
    · intro i h1 h2
      simp only [Array.size_setIfInBounds, Array.size_push] at h1
      by_cases hi : i = w.heap.size
      · subst hi; simp
      · rw [Array.getElem_setIfInBounds_ne (by simpa using h1) (by omega)]; simp [Array.getElem_push, show i < w.heap.size by omega]
  simp only [setObj, Sem.run, h]
  show Result.ok () { w.alloc (.map es c) with heap := (w.heap.push (.map es c)).setIfInBounds w.heap.size o' } = _
  rw [e]; rfl

/-- A literal's next entry, under a key that is not there yet: the map is the newest block. -/
theorem run_mapUpdate_lit (T K E : TypeId) (w : World) (es : Array MapEntry) (c : Nat) (s : ByteArray) (v : Value)
    (hT : P.underlying T = some (.map K E)) (hK : P.underlying K = some .string)
    (hn : findNow .string (.string s) es.toList 0 = some none) :
    (mapUpdate T (.map (some w.heap.size)) (.string s) v).run P (w.alloc (.map es c)) =
      .ok () (w.alloc (.map (es.push { key := .string s, val := v, born := c }) (c + 1))) := by
  have h1 := run_checkKey_string (P := P) false K (w.alloc (.map es c)) s hK
  have h2 := run_findKey_now (P := P) K (w.alloc (.map es c)) (.string s) es.toList none _ hK hn
  have h3 := run_getObj_last (P := P) w es c
  have h4 := run_setObj_last (P := P) w es c (.map (es.push { key := .string s, val := v, born := c }) (c + 1))
  unfold mapUpdate
  simp only [Sem.run_bind, run_underlying hT, h1, h2, h3, h4, Result.andThen]

/-- 'v, ok := m[k]' in such a map, the key there. -/
theorem run_lookup_ok_there (T K E : TypeId) (w : World) (b : Nat) (es : Array MapEntry) (c : Nat) (s : ByteArray) (i : Nat) (v : Value)
    (hT : P.underlying T = some (.map K E)) (hK : P.underlying K = some .string) (hb : w.heap[b]? = some (.map es c))
    (hn : findNow .string (.string s) es.toList 0 = some (some (i, v))) :
    (lookup T (.map (some b)) (.string s) true).run P w = .ok (.tuple #[v, .bool true]) w := by
  have h1 := fun bb => run_checkKey_string (P := P) bb K w s hK
  have h2 := run_findKey_now (P := P) K w (.string s) es.toList _ _ hK hn
  have h3 : (getObj b).run P w = .ok (.map es c) w := by simp [getObj, Sem.run, hb]
  unfold lookup
  simp only [Sem.run_bind, run_underlying hT, h1, h2, h3, Result.andThen, Sem.run_pure]
  rfl
theorem run_lookup_ok_not (T K E : TypeId) (w : World) (b : Nat) (es : Array MapEntry) (c : Nat) (s : ByteArray) (z : Value)
    (hT : P.underlying T = some (.map K E)) (hK : P.underlying K = some .string) (hb : w.heap[b]? = some (.map es c))
    (hz : (zeroValue E).run P w = .ok z w)
    (hn : findNow .string (.string s) es.toList 0 = some none) :
    (lookup T (.map (some b)) (.string s) true).run P w = .ok (.tuple #[z, .bool false]) w := by
  have h1 := fun bb => run_checkKey_string (P := P) bb K w s hK
  have h2 := run_findKey_now (P := P) K w (.string s) es.toList _ _ hK hn
  have h3 : (getObj b).run P w = .ok (.map es c) w := by simp [getObj, Sem.run, hb]
  unfold lookup
  simp only [Sem.run_bind, run_underlying hT, h1, h2, h3, hz, Result.andThen, Sem.run_pure]
  rfl
end
end Go
