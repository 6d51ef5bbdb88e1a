/- Trees that the call itself builds, out of literal rows. -/
import Derived.Test.YtldedhfbpongmaaDoorNodBa
set_option maxRecDepth 100000
namespace NodT
open Go Go.RowKit
set_option linter.unusedVariables false
/-- All of these lie in the world. -/
def Live (w : World) (L : List Nd) : Prop := ∀ t ∈ L, In w w.heap.size t
theorem Live.nil (w : World) : Live w [] := fun _ h => by simp at h
theorem Live.below {w w1 : World} {L : List Nd} (h : Live w L) (hb : Below w.heap.size w w1) : Live w1 L := fun t ht => ((h t ht).under hb).more hb.size
theorem Live.alloc {w : World} {L : List Nd} (h : Live w L) (o : Obj) : Live (w.alloc o) L := h.below ((Below.refl _ _).alloc (Nat.le_refl _) _)
theorem Live.sub {w : World} {L L' : List Nd} (h : Live w L) (hs : ∀ t ∈ L', t ∈ L) : Live w L' := fun t ht => h t (hs t ht)
theorem Live.one {w : World} {L : List Nd} {t : Nd} (h : Live w L) (ht : In w w.heap.size t) : Live w (t :: L) := fun u hu => by
  rcases List.mem_cons.1 hu with rfl | hu
  · exact ht
  · exact h u hu
theorem row_lit {w : World} {ks : List Nd} {e : TypeId} (h : Live w ks) (hm : ks.length ≤ maxLen) : InL (w.alloc (.cells (cells ks).toArray e)) (w.heap.size + 1) (some ⟨w.heap.size, 0, none⟩) ks.length ks := by
  have ho := own_lit w w.heap.size e ks (Nat.le_refl _) hm
  have hl := lies_of_own ho
  have hs : (w.alloc (.cells (cells ks).toArray e)).heap.size = w.heap.size + 1 := by simp
  rw [hs] at hl
  refine ⟨hl, Nat.le_refl _, (fun h => by cases h), hm, fun t ht => ?_⟩
  have := (h.alloc (.cells (cells ks).toArray e)) t ht
  rw [hs] at this
  exact this
theorem mk_in {w : World} {ks : List Nd} {A : Option Addr} {c B : Nat} (h : InL w B A c ks) (k : Nat) (s : ByteArray) (n : Int) (hk : k < 256) (hs : s.size ≤ maxLen) (hn : -9223372036854775808 ≤ n ∧ n ≤ 9223372036854775807) : In w B (.mk k s n 0 A c ks) :=
  .mk _ ⟨hk, hs, hn, ⟨by show (-9223372036854775808 : Int) ≤ 0; decide, by show (0 : Int) ≤ 9223372036854775807; decide⟩, h.len, h.cap, h.nil⟩ h.rows fun i u hi => h.kid hi
theorem nil_lit (w : World) (B : Nat) : InL w B none 0 [] := ⟨fun h => by simp at h, Nat.le_refl _, fun _ => ⟨rfl, rfl⟩, Nat.zero_le _, fun _ h => by simp at h⟩
end NodT
