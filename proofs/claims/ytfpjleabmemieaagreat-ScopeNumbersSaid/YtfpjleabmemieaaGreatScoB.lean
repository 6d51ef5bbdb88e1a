/- A map with string keys, anywhere in memory: one entry more; what stands under a key. -/
import Derived.Test.YtfpjleabmemieaaGreatScoA
import Derived.WalkLawsBesides
import Derived.RangeFuncRecord
set_option maxRecDepth 100000
namespace Go
open Go.Instr
section
variable {P : Program}
theorem run_checkKey_string_succ (b : Bool) (n : Nat) (K : TypeId) (w : World) (s : ByteArray) (hK : P.underlying K = some .string) :
    (checkKey b (n + 1) K (.string s)).run P w = .ok () w := by
  simp [checkKey, run_underlying hK]
theorem run_checkKey_string (b : Bool) (K : TypeId) (w : World) (s : ByteArray) (hK : P.underlying K = some .string) :
    (checkKey b 10000 K (.string s)).run P w = .ok () w := run_checkKey_string_succ b 9999 K w s hK
theorem run_findKey_now (K : TypeId) (w : World) (k : Value) (es : List MapEntry) (r : Option (Nat × Value)) (d : TypeDesc) (hK : P.underlying K = some d)
    (hn : findNow d k es 0 = some r) : (findKey K k es).run P w = .ok r w := by
  simp [findKey, run_underlying hK, hn]
/-- One entry more, under a key that is not there yet. -/
theorem run_mapUpdate_at (T K E : TypeId) (w : World) (b : Nat) (es : Array MapEntry) (c : Nat) (s : ByteArray) (v : Value)
    (hT : P.underlying T = some (.map K E)) (hK : P.underlying K = some .string) (hb : w.heap[b]? = some (.map es c))
    (hn : findNow .string (.string s) es.toList 0 = some none) :
    (mapUpdate T (.map (some b)) (.string s) v).run P w = .ok () (w.putObj b (.map (es.push { key := .string s, val := v, born := c }) (c + 1))) := by
  have h1 := run_checkKey_string (P := P) false K w s hK
  have h2 := run_findKey_now (P := P) K w (.string s) es.toList none _ hK hn
  have h3 : (getObj b).run P w = .ok (.map es c) w := by simp [getObj, Sem.run, hb]
  have h4 : (setObj b (.map (es.push { key := .string s, val := v, born := c }) (c + 1))).run P w = .ok () (w.putObj b (.map (es.push { key := .string s, val := v, born := c }) (c + 1))) := by
    simp [setObj, Sem.run, hb, World.putObj]
  unfold mapUpdate
  simp only [Sem.run_bind, run_underlying hT, h1, h2, h3, h4, Result.andThen]
/-- 'v, ok := m[k]' and 'm[k]', the key there. -/
theorem run_lookup_there (ok : Bool) (T K E : TypeId) (w : World) (b : Nat) (es : Array MapEntry) (c : Nat) (s : ByteArray) (i : Nat) (v : Value)
    (hT : P.underlying T = some (.map K E)) (hK : P.underlying K = some .string) (hb : w.heap[b]? = some (.map es c))
    (hn : findNow .string (.string s) es.toList 0 = some (some (i, v))) :
    (lookup T (.map (some b)) (.string s) ok).run P w = .ok (if ok then .tuple #[v, .bool true] else v) w := by
  have h1 := fun bb => run_checkKey_string (P := P) bb K w s hK
  have h2 := run_findKey_now (P := P) K w (.string s) es.toList _ _ hK hn
  have h3 : (getObj b).run P w = .ok (.map es c) w := by simp [getObj, Sem.run, hb]
  unfold lookup
  simp only [Sem.run_bind, run_underlying hT, h1, h2, h3, Result.andThen, Sem.run_pure]
theorem run_lookup_not (ok : Bool) (T K E : TypeId) (w : World) (b : Nat) (es : Array MapEntry) (c : Nat) (s : ByteArray) (z : Value)
    (hT : P.underlying T = some (.map K E)) (hK : P.underlying K = some .string) (hb : w.heap[b]? = some (.map es c))
    (hz : (zeroValue E).run P w = .ok z w)
    (hn : findNow .string (.string s) es.toList 0 = some none) :
    (lookup T (.map (some b)) (.string s) ok).run P w = .ok (if ok then .tuple #[z, .bool false] else z) w := by
  have h1 := fun bb => run_checkKey_string (P := P) bb K w s hK
  have h2 := run_findKey_now (P := P) K w (.string s) es.toList _ _ hK hn
  have h3 : (getObj b).run P w = .ok (.map es c) w := by simp [getObj, Sem.run, hb]
  unfold lookup
  simp only [Sem.run_bind, run_underlying hT, h1, h2, h3, hz, Result.andThen, Sem.run_pure]
end
end Go
