/- A copy of a type that has no elements. -/
import Derived.Test.YtfpjleabmemieaaGreatScoE
import Derived.Test.YtfpjleabmemieaaGreatScoAa
import Derived.Test.YtfpjleabmemieaaGreatScoShelf
set_option maxRecDepth 100000
namespace Go.Proofs.YtfpjleabmemieaaGreat
open Go.Instr Go.RowKit ScoT
set_option linter.unusedVariables false
theorem Clone_any (s : ByteArray) (w : World) (hl : s.size ≤ 281474976710656) : Calls Tryz.prog 50 #[.string s] w fun e w' => e = .returned (.string s) ∧ Below w.heap.size w w' := by
  have H := Lib.hid hl
  clear hl
  go_enter Tryz.func50, Tryz.ntmps50
  go_wp2_with (go_at_call 86; refine (Tryz.stringslite_Clone s _ H.out).mono ?_; rintro e w' ⟨rfl, hb⟩; have HB := Lib.hid hb; clear hb)
  go_ret
  exact ⟨rfl, HB.out⟩
/-- The three cells of a type. -/
def Cs3 (w : World) (b : Nat) (v0 v1 v2 : Value) : Prop := w.cell? ⟨b, 0, none⟩ = some v0 ∧ w.cell? ⟨b, 1, none⟩ = some v1 ∧ w.cell? ⟨b, 2, none⟩ = some v2
theorem apart_leaf (b m : Nat) (v0 : Value) (s : ByteArray) (A : Option Addr) (c : Nat) (w : World) (h : Cs3 w b v0 (.string s) (.slice A 0 c)) (hf : ∀ o, w.frozen? ⟨b, o, none⟩ = false) (hl : s.size ≤ 281474976710656) :
    Calls Tryz.prog 85 #[.pointer (some ⟨b, 0, none⟩), .map (some m)] w fun e w' => e = .returned (.slice none 0 0) ∧ Cs3 w' b v0 (.string s) (.slice none 0 0) ∧ w.grownBy w' (some b) := by
  obtain ⟨c0, c1, c2⟩ := h
  have hb := World.block_lt_of_cell? _ _ c0
  have H := Lib.hid (And.intro c0 (And.intro c1 (And.intro c2 hf)))
  have HL := Lib.hid hl
  clear c2 hl hf
  go_enter Tryz.func85, Tryz.ntmps85
  go_wp2_with (go_at_call 50; refine (Clone_any s _ HL.out).mono ?_; rintro e w1 ⟨rfl, hb1⟩
               have d0 : w1.cell? ⟨b, 0, none⟩ = some v0 := (hb1.cell (p := ⟨b, 0, none⟩) hb).trans H.out.1
               have d1 : w1.cell? ⟨b, 1, none⟩ = some (.string s) := (hb1.cell (p := ⟨b, 1, none⟩) hb).trans H.out.2.1
               have d2 : w1.cell? ⟨b, 2, none⟩ = some (.slice A 0 c) := (hb1.cell (p := ⟨b, 2, none⟩) hb).trans H.out.2.2.1
               have df : ∀ o, w1.frozen? ⟨b, o, none⟩ = false := fun o => (hb1.frozen (p := ⟨b, o, none⟩) hb).trans (H.out.2.2.2 o)
               have HB1 := Lib.hid hb1; clear hb1)
  go_ret
  refine ⟨rfl, ⟨?_, ?_, ?_⟩, ?_⟩
  · rw [World.cell?_setCell_other _ _ _ _ (by simp), World.cell?_setCell_other _ _ _ _ (by simp)]; exact d0
  · rw [World.cell?_setCell_other _ _ _ _ (by simp)]; exact World.cell?_setCell_same' _ _ _ (by rw [d1]; rfl)
  · exact World.cell?_setCell_same' _ _ _ (by rw [World.cell?_setCell_other _ _ _ _ (by simp), d2]; rfl)
  · obtain ⟨q1, q2, q3, q4, q5⟩ := HB1.out
    refine ⟨q1, q2, q3, by rw [set_size, set_size]; exact q4, fun k hk hne => ?_⟩
    have hkb : k ≠ b := fun e => hne (by rw [e])
    rw [set_heap _ _ _ _ _ hkb, set_heap _ _ _ _ _ hkb]; exact q5 k hk
theorem grown_trans {x y z : World} {r : Option Nat} (h1 : x.grownBy y r) (h2 : y.grownBy z r) : x.grownBy z r :=
  ⟨h2.os.trans h1.os, h2.tape.trans h1.tape, h2.output.trans h1.output, Nat.le_trans h1.size h2.size, fun k hk hne => (h2.block k (Nat.lt_of_lt_of_le hk h1.size) hne).trans (h1.block k hk hne)⟩
theorem alloc4 (w : World) (a b c d : Obj) : ((((w.alloc a).alloc b).alloc c).alloc d).heap[w.heap.size]? = some a ∧ ((((w.alloc a).alloc b).alloc c).alloc d).heap[w.heap.size + 1]? = some b ∧ ((((w.alloc a).alloc b).alloc c).alloc d).heap[w.heap.size + 3]? = some d := by
  refine ⟨?_, ?_, ?_⟩
  · rw [Below.heap_alloc _ _ _ (by simp; omega), Below.heap_alloc _ _ _ (by simp; omega), Below.heap_alloc _ _ _ (by simp)]
    exact World.alloc_heap_new _ _
  · rw [Below.heap_alloc _ _ _ (by simp), Below.heap_alloc _ _ _ (by simp)]
    have := World.alloc_heap_new (w.alloc a) b
    rwa [World.size_alloc] at this
  · have := World.alloc_heap_new (((w.alloc a).alloc b).alloc c) d
    simpa using this
theorem cs3_of {w : World} {b : Nat} {v0 v1 v2 : Value} {t : TypeId} (h : w.heap[b]? = some (.cells #[v0, v1, v2] t)) : Cs3 w b v0 v1 v2 ∧ ∀ o, w.frozen? ⟨b, o, none⟩ = false := by
  refine ⟨⟨?_, ?_, ?_⟩, fun o => ?_⟩ <;> simp [World.cell?, World.frozen?, h]
/-- What a copy tells. -/
def Copied (t : Ty) (w : World) (e : Ending) (w' : World) : Prop := ∃ t', e = .returned t'.val ∧ same t t' = true ∧ InO 26 w' w.heap.size t' ∧ Below w.heap.size w w'
set_option maxHeartbeats 2000000 in
theorem copied_leaf (t : Ty) (w : World) (h : Fits t) (hl : leaf t) : Calls Tryz.prog 49 #[t.val] w (Copied t w) := by
  obtain ⟨k, s, A, c, es⟩ := t
  obtain rfl : es = [] := hl
  have hz := h.name
  have H := Lib.hid h
  change s.size ≤ _ at hz
  have HS := Lib.hid hz
  clear h hz
  have hmm := @run_makeMap Tryz.prog
  show Calls Tryz.prog 49 #[.agg #[.int .u8 k, .string s, .slice A 0 c]] w _
  go_enter Tryz.func49, Tryz.ntmps49
  go_wp2_with fail
  obtain ⟨n, hn⟩ : ∃ n, w.heap.size = n := ⟨_, rfl⟩
  rw [hn]
  obtain ⟨W0, hW0⟩ : ∃ W0, W0 = ((((w.alloc (.cells #[.int .u8 (k : Int), .string s, .slice A 0 c] 26)).alloc (.cells #[.int .u8 0, .string ⟨#[]⟩, .slice none 0 0] 26)).alloc (.map #[] 0)).alloc (.cells #[.pointer (some ⟨n, 0, none⟩), .pointer none, .int .i64 0] 155)) := ⟨_, rfl⟩
  rw [← hW0]
  have hs0 : W0.heap.size = n + 4 := by rw [hW0]; simp [hn]
  have ha4 := alloc4 w (.cells #[.int .u8 (k : Int), .string s, .slice A 0 c] 26) (.cells #[.int .u8 0, .string ⟨#[]⟩, .slice none 0 0] 26) (.map #[] 0) (.cells #[.pointer (some ⟨n, 0, none⟩), .pointer none, .int .i64 0] 155)
  rw [hn, ← hW0] at ha4
  have hc0 := cs3_of ha4.1
  have hr0 := cs3_of ha4.2.1
  have ht0 := cs3_of ha4.2.2
  have hb0 : Below n w W0 := by
    rw [hW0]
    exact (((((Below.refl _ w).alloc (by omega) _).alloc (by simp; omega) _).alloc (by simp; omega) _).alloc (by simp; omega) _)
  have HB0 := Lib.hid hb0
  have HF := Lib.hid (And.intro hs0 (And.intro hc0 (And.intro hr0 ht0)))
  have HN := Lib.hid hn
  clear hW0 hs0 ha4 hc0 hr0 ht0 hb0 hmm hn
  go_loopg [4] 1 (fun gg v wr => (gg = 1 ∧ v = .slice (some ⟨n + 3, 0, none⟩) 1 1 ∧ wr = W0) ∨ (gg = 0 ∧ v = .slice (some ⟨n + 3, 0, none⟩) 0 1 ∧ Cs3 wr n (.int .u8 (k : Int)) (.string s) (.slice none 0 0) ∧ W0.grownBy wr (some n)))
  case atStart => exact .inl ⟨rfl, rfl, rfl⟩
  case round =>
    rcases hrel with ⟨rfl, rfl, rfl⟩ | ⟨rfl, rfl, hc, hb⟩
    · obtain ⟨hs0, ⟨⟨c0, c1, c2⟩, cf⟩, ⟨⟨r0, r1, r2⟩, rf⟩, ⟨t0, t1, t2⟩, tf⟩ := HF.out
      go_wp2_with (go_at_call 85; refine (apart_leaf n _ (.int .u8 (k : Int)) s A c _ ⟨?_, ?_, ?_⟩ ?_ HS.out).mono ?_)
      · rw [World.cell?_alloc_lt _ _ _ (by rw [hs0]; show n < n + 4; omega)]; exact c0
      · rw [World.cell?_alloc_lt _ _ _ (by rw [hs0]; show n < n + 4; omega)]; exact c1
      · rw [World.cell?_alloc_lt _ _ _ (by rw [hs0]; show n < n + 4; omega)]; exact c2
      · intro o; exact (World.frozen?_of_block (a := ⟨n, o, none⟩) (Below.heap_alloc _ _ _ (by rw [hs0]; show n < n + 4; omega))).trans (cf o)
      rintro e w2 ⟨rfl, hc2, hg2⟩
      have HC2 := Lib.hid (And.intro hc2 hg2)
      clear hc2 hg2
      go_wp2_with fail
      go_roundg 0
      case rel => exact .inr ⟨rfl, rfl, HC2.out.1, grown_trans (World.grownBy_alloc _ _ _) HC2.out.2⟩
      case measure => omega
    · obtain ⟨hs0, hc0, ⟨⟨r0, r1, r2⟩, rf⟩, _⟩ := HF.out
      obtain ⟨c0, c1, c2⟩ := hc
      have e1 : wr.heap[n + 1]? = W0.heap[n + 1]? := hb.block (n + 1) (by omega) (by simp)
      have d0 : wr.cell? ⟨n + 1, 0, none⟩ = some (.int .u8 0) := (World.cell?_of_block e1).trans r0
      have d1 : wr.cell? ⟨n + 1, 1, none⟩ = some (.string ⟨#[]⟩) := (World.cell?_of_block e1).trans r1
      have d2 : wr.cell? ⟨n + 1, 2, none⟩ = some (.slice none 0 0) := (World.cell?_of_block e1).trans r2
      have df : ∀ o, wr.frozen? ⟨n + 1, o, none⟩ = false := fun o => (World.frozen?_of_block (a := ⟨n + 1, o, none⟩) e1).trans (rf o)
      have HB := Lib.hid (And.intro hb hs0)
      clear hb hs0 hc0 r0 r1 r2 rf e1
      go_wp2_with fail
      refine bodyPost_ret (v := .agg #[.int .u8 (k : Int), .string s, .slice none 0 0]) (by simp [results, Tryz.results49, go_sem, d0, d1, d2]) rfl ?_
      have hf := H.out
      refine ⟨.mk k s none 0 [], rfl, ?_, ⟨.mk _ ⟨hf.kind, hf.name, Nat.le_refl _, Nat.zero_le _, fun _ => ⟨rfl, rfl⟩⟩ (fun h => absurd h (Nat.lt_irrefl _)) (fun i u hi => by simp [Ty.els] at hi), Apt.leaf⟩, ?_⟩
      · rw [same_eq]; simp [Ty.kind, Ty.name, Ty.els, sameL]
      · rw [HN.out]
        have hg : Below n W0 wr := ⟨HB.out.1.os, HB.out.1.tape, HB.out.1.output, HB.out.1.size, fun i hi => HB.out.1.block i (by have := HB.out.2; omega) (fun e => by cases e; omega)⟩
        exact (((HB0.out.trans hg).setCell (p := ⟨n + 1, 0, none⟩) (by show n ≤ n + 1; omega) _).setCell (p := ⟨n + 1, 1, none⟩) (by show n ≤ n + 1; omega) _).setCell (p := ⟨n + 1, 2, none⟩) (by show n ≤ n + 1; omega) _
end Go.Proofs.YtfpjleabmemieaaGreat
