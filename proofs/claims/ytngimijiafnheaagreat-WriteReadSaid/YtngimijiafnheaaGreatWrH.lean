/- write's writer: a builder within it: a text written, a row of texts, all that was written. -/
/- write's writer: a row of texts. -/
/- write's writer: a row in brackets, whatever writes one. -/
/- write's writer: words. -/
/- write's writer: alternatives. -/
/- write's writer: rules. -/
/- write's writer: declarations, a text. -/
import Derived.Test.YtngimijiafnheaaGreatRdIb
import Derived.Test.YtngimijiafnheaaGreatLexShelf
import Derived.Lib.Slices
import Derived.Lib.Walk
import Derived.Lib.Builder
import Derived.Lib.AppendStr
import Derived.Lib.UnsafeStr
import Derived.Laws.Externs
import Derived.Laws.IdiomCopy
import Derived.Laws.BitsLemmas
import Derived.OwnWalk
import Derived.Deep.LoopGhost
import Derived.Test.YtngimijiafnheaaGreatLexF
import Derived.Test.YtngimijiafnheaaGreatWrE
import Derived.Deep.RegionLaw
set_option maxRecDepth 100000
namespace LexT
open Go Go.RowKit
set_option linter.unusedVariables false
/-- A block is the builder's: its own, or the one where its bytes lie. -/
def OwnB (w : World) (b k : Nat) : Prop := k = b ∨ ∃ p v T, w.heap[b]? = some (.cells #[p, v] T (0, 0)) ∧ v.ownBlock = some k
/-- A block that is not the builder's, and holds no bytes. -/
def NoB (e : TypeId) (b : Nat) (w : World) (k : Nat) : Prop := k < w.heap.size ∧ ¬ OwnB w b k ∧ ∀ cur, w.heap[k]? ≠ some (.cells cur e (0, 0))
/-- What writing leaves as it was. -/
def Fr (e : TypeId) (b : Nat) (w w' : World) : Prop := ∀ k, NoB e b w k → w'.heap[k]? = w.heap[k]? ∧ NoB e b w' k
theorem Fr.refl (e : TypeId) (b : Nat) (w : World) : Fr e b w w := fun k h => ⟨rfl, h⟩
theorem Fr.trans {e : TypeId} {b : Nat} {w w1 w2 : World} (h : Fr e b w w1) (h' : Fr e b w1 w2) : Fr e b w w2 := fun k hk => by
  obtain ⟨h1, h2⟩ := h k hk
  obtain ⟨h3, h4⟩ := h' k h2
  exact ⟨h3.trans h1, h4⟩
theorem Fr.of {e : TypeId} {b : Nat} {w w' : World} (hb : b < w.heap.size) (hs : Below w.heap.size w w') : Fr e b w w' := fun k ⟨h1, h2, h3⟩ => by
  refine ⟨hs.block k h1, Nat.lt_of_lt_of_le h1 hs.size, fun ho => h2 ?_, fun cur => by rw [hs.block k h1]; exact h3 cur⟩
  rcases ho with rfl | ⟨p, v, T, h4, h5⟩
  · exact .inl rfl
  · exact .inr ⟨p, v, T, by rw [← hs.block b hb]; exact h4, h5⟩
theorem Fr.alloc {e : TypeId} {b : Nat} (w : World) (hb : b < w.heap.size) (o : Obj) : Fr e b w (w.alloc o) := Fr.of hb ((Below.refl _ _).alloc (Nat.le_refl _) o)
/-- A block that was made behind the builder. -/
theorem NoB.new {e : TypeId} {b : Nat} {w : World} {cs : Array Value} {T : TypeId} (hb : b < w.heap.size) (ho : ∀ p v T, w.heap[b]? = some (.cells #[p, v] T (0, 0)) → v.ownBlock ≠ some w.heap.size) (hT : T ≠ e) : NoB e b (w.alloc (.cells cs T)) w.heap.size := by
  refine ⟨by simp, fun h => ?_, fun cur h => ?_⟩
  · rcases h with h | ⟨p, v, T', h4, h5⟩
    · omega
    · rw [heap_alloc_old _ _ hb] at h4
      exact ho p v T' h4 h5
  · rw [heap_alloc_new] at h
    injection h with h
    injection h with _ h
    exact hT h
end LexT
namespace Go.Proofs.YtngimijiafnheaaGreat
open Go.Instr Go.RowKit LexT
set_option linter.unusedVariables false
theorem Tryz.infoByteW : (Tryz.prog.info? 5).map (fun i => (i.zero, i.size, i.bytes)) = some (some (.int .u8 0), 1, 1) := by kernel_rfl
theorem Tryz.sizeBuilderW : (Tryz.prog.info? 59).map (·.size) = some 2 := by kernel_rfl
theorem Tryz.liesWriter : liesAt Tryz.prog Tryz.prog.depth 61 (2 / Tryz.prog.cellsOf 61) 0 59 1 = true := by kernel_rfl
theorem wcheck_used (b : Nat) (w : World) (h0 : w.cell? ⟨b, 0, none⟩ = some (.pointer (some ⟨b, 0, none⟩))) :
    Calls Tryz.prog 76 #[.pointer (some ⟨b, 0, none⟩)] w fun e w' => e = .returned (.tuple #[]) ∧ w' = w := by
  obtain ⟨j, hj, _⟩ := Option.map_eq_some_iff.1 Tryz.sizeBuilderW
  go_enter Tryz.func76, Tryz.ntmps76
  go_wp2
  rw [Lib.run_neq_ptr_same w _ Tryz.underlying56 hj]
  go_wp2
  go_end0
  exact ⟨rfl, rfl⟩
theorem wcheck_fresh (b : Nat) (w : World) (h0 : w.cell? ⟨b, 0, none⟩ = some (.pointer none)) (hsh : w.shape? b = some (61, 2)) (hfz : w.frozen? ⟨b, 0, none⟩ = false) :
    Calls Tryz.prog 76 #[.pointer (some ⟨b, 0, none⟩)] w fun e w' => e = .returned (.tuple #[]) ∧ w' = w.setCell ⟨b, 0, none⟩ (.pointer (some ⟨b, 0, none⟩)) := by
  obtain ⟨j, hj, hjs⟩ := Option.map_eq_some_iff.1 Tryz.sizeBuilderW
  go_enter Tryz.func76, Tryz.ntmps76
  go_wp2
  rw [Lib.run_to_unsafe w ⟨b, 0, none⟩ Tryz.underlying56 Tryz.underlying135 hj (by rw [hjs]; decide) hsh (Nat.zero_lt_succ 1)]
  simp only [Result.andThen]
  rw [Oper.upon_value]
  go_wp2
  rw [run_callFunc_extern Tryz.func102 (by kernel_rfl) (by kernel_rfl) (by kernel_rfl) (e := Extern.AbiNoEscape.same) (by kernel_rfl)]
  rw [Lib.run_noEscape]
  simp only [Result.andThen]
  rw [Oper.upon_value]
  go_wp2
  rw [Lib.run_from_unsafe w ⟨b, 0, none⟩ Tryz.underlying135 Tryz.underlying56 hj hsh Tryz.liesWriter]
  simp only [Result.andThen]
  rw [Oper.upon_value]
  go_wp2
  go_end0
  exact ⟨rfl, rfl⟩
theorem wcheck_any (B b : Nat) (bs : List Value) (w : World) (h : Lib.IsBuilder 61 5 B b bs w) :
    Calls Tryz.prog 76 #[.pointer (some ⟨b, 0, none⟩)] w fun e w' => e = .returned (.tuple #[]) ∧ (Lib.BuilderAt 61 5 B b (.pointer (some ⟨b, 0, none⟩)) bs w' ∧ Below B w w' ∧ Fr 5 b w w') := by
  rcases h with h | h
  · refine (wcheck_fresh b w h.cell0 h.shape h.frozen0).mono ?_
    rintro e w' ⟨rfl, rfl⟩
    refine ⟨rfl, h.used _, (Below.refl B w).setCell (p := ⟨b, 0, none⟩) h.1 _, fun k ⟨k1, k2, k3⟩ => ?_⟩
    have hkb : k ≠ b := fun e => k2 (.inl e)
    have hh : (w.setCell ⟨b, 0, none⟩ (.pointer (some ⟨b, 0, none⟩))).heap[k]? = w.heap[k]? := Below.heap_setCell _ _ _ _ hkb
    refine ⟨hh, by simpa [World.setCell] using k1, fun ho => ?_, fun cur => by rw [hh]; exact k3 cur⟩
    obtain ⟨_, v, hbk, _, _⟩ := h
    rcases ho with ho | ⟨p, v', T, h4, h5⟩
    · exact hkb ho
    · rw [heap_setCell_same _ _ _ _ _ _ hbk] at h4
      injection h4 with h4
      injection h4 with h4 _
      have : v' = v := by
        have := congrArg (fun a => a[1]?) h4
        simpa using this.symm
      subst this
      exact k2 (.inr ⟨_, _, _, hbk, h5⟩)
  · refine (wcheck_used b w h.cell0).mono ?_
    rintro e w' ⟨rfl, rfl⟩
    exact ⟨rfl, h, Below.refl B _, Fr.refl _ _ _⟩
set_option maxHeartbeats 2000000 in
theorem wstring_any (B b : Nat) (bs : List Value) (s : ByteArray) (w : World) (h : Lib.IsBuilder 61 5 B b bs w) (hlen : bs.length + s.size ≤ 140737488355328) (hBw : B ≤ w.heap.size) :
    Calls Tryz.prog 46 #[.pointer (some ⟨b, 0, none⟩), .string s] w fun e w' => e = .returned (.tuple #[.int .i64 s.size, .nilIface]) ∧ (Lib.IsBuilder 61 5 B b (bs ++ Lib.strCells s) w' ∧ Below B w w' ∧ Fr 5 b w w') := by
  obtain ⟨i0, hi, hz0, hz1, hz2⟩ := info_parts Tryz.infoByteW
  go_enter Tryz.func46, Tryz.ntmps46
  go_wp2_with (go_at_call 76; refine (wcheck_any B b bs _ h).mono ?_)
  rintro e w1 ⟨rfl, h1, hb1, hfr1⟩
  have HFR := Lib.hid hfr1
  clear hfr1
  obtain ⟨hB, v, hbk, hown, hne⟩ := h1
  have c0 : w1.cell? ⟨b, 0, none⟩ = some (.pointer (some ⟨b, 0, none⟩)) := by rw [Lib.cell_of_heap hbk]; rfl
  have c1 : w1.cell? ⟨b, 1, none⟩ = some v := by rw [Lib.cell_of_heap hbk]; rfl
  go_wp2_with (at_builtin; refine Lib.wpList_append_own_string _ rfl _ _ 57 9 rfl B 5 i0 Tryz.underlying57 Tryz.underlying9 hi hz0 hz1 hz2 _ _ _ rfl hown s rfl ?c3 ?c4 ?c5 ?_)
  case c3 => unfold maxLen; omega
  case c4 => omega
  case c5 => have := hb1.size; omega
  intro v' w2 hown' hgrow _
  have hlt : b < w1.heap.size := by
    rcases Nat.lt_or_ge b w1.heap.size with h' | h'
    · exact h'
    · simp [Array.getElem?_eq_none h'] at hbk
  have hb2 : w2.heap[b]? = some (.cells #[.pointer (some ⟨b, 0, none⟩), v] 61 (0, 0)) := by
    rw [hgrow.block b hlt (fun e => hne e.symm)]
    exact hbk
  have d0 : w2.cell? ⟨b, 0, none⟩ = some (.pointer (some ⟨b, 0, none⟩)) := by rw [Lib.cell_of_heap hb2]; rfl
  have d1 : w2.cell? ⟨b, 1, none⟩ = some v := by rw [Lib.cell_of_heap hb2]; rfl
  have f1 : w2.frozen? ⟨b, 1, none⟩ = false := Lib.frozen_of_heap hb2 1
  obtain ⟨ao, n', cap, rfl⟩ : ∃ ao n' cap, v' = .slice ao n' cap := by
    rcases hown'.2 with ⟨hv, _⟩ | ⟨g, cap, cur, hv, _⟩
    · exact ⟨_, _, _, hv⟩
    · exact ⟨_, _, _, hv⟩
  go_wp2
  go_ret2
  refine ⟨rfl, .inr ?_, ?_, HFR.out.trans ?_⟩
  · exact Lib.BuilderAt.put (T := 61) (e := 5) hB hb2 (bs' := bs ++ Lib.strCells s) (by simpa [Lib.strCells_length] using hown') (by decide)
  · exact (hb1.grown hgrow (by have := hb1.size; omega) (fun k hk => (hown.lt k hk).1)).setCell (p := ⟨b, 1, none⟩) hB _
  · intro k ⟨k1, k2, k3⟩
    have hkb : k ≠ b := fun e => k2 (.inl e)
    have hkv : v.ownBlock ≠ some k := fun e => k2 (.inr ⟨_, _, _, hbk, e⟩)
    have h2 : w2.heap[k]? = w1.heap[k]? := hgrow.block k k1 (fun e => hkv e.symm)
    have hh : (w2.setCell ⟨b, 1, none⟩ (.slice ao n' cap)).heap[k]? = w1.heap[k]? := (Below.heap_setCell _ _ _ _ hkb).trans h2
    refine ⟨hh, by have := hgrow.size; simp [World.setCell]; omega, fun ho => ?_, fun cur => by rw [hh]; exact k3 cur⟩
    rcases ho with ho | ⟨p, v', T, h4, h5⟩
    · exact hkb ho
    · rw [heap_setCell_same _ _ _ _ _ _ hb2] at h4
      injection h4 with h4
      injection h4 with h4 _
      have : v' = .slice ao n' cap := by
        have := congrArg (fun a => a[1]?) h4
        simpa using this.symm
      subst this
      rcases hown'.2 with ⟨hv, _⟩ | ⟨g, cap', cur, hv, _, hg, _⟩
      · rw [hv] at h5; cases h5
      · rw [hv] at h5
        injection h5 with h5
        have h5 : g = k := h5
        subst h5
        exact k3 cur (h2.symm.trans hg)
theorem wbuilder_kept {T e : TypeId} {B b x : Nat} {bs : List Value} {w w' : World} (h : Lib.IsBuilder T e B b bs w) (hg : w.grownBy w' (some x)) (hx : x < B) : Lib.IsBuilder T e B b bs w' := by
  have key : ∀ p, Lib.BuilderAt T e B b p bs w → Lib.BuilderAt T e B b p bs w' := by
    intro p h
    have hlt := h.lt
    obtain ⟨hB, v, hb, hown, hne⟩ := h
    refine ⟨hB, v, ?_, hown.kept hg (Or.inr ?_), hne⟩
    · rw [hg.block b hlt (by intro h; injection h; omega)]; exact hb
    · intro h
      have := hown.lt x h
      omega
  rcases h with h | h
  · exact .inl (key _ h)
  · exact .inr (key _ h)
end Go.Proofs.YtngimijiafnheaaGreat
set_option linter.unusedSimpArgs false
namespace LexT
open Go Go.RowKit
set_option linter.unusedVariables false
theorem byte_app (l : Bs) (s : Bs) : Lib.byteCells l ++ Lib.strCells (mkS s) = Lib.byteCells (l ++ s) := by
  unfold Lib.strCells Lib.byteCells
  rw [mkS_list, List.map_append]
end LexT
namespace Go.Proofs.YtngimijiafnheaaGreat
open Go.Instr Go.RowKit LexT
set_option linter.unusedVariables false
/-- The writer holds these bytes. -/
def Bd (B b : Nat) (l : Bs) (w : World) : Prop := Lib.IsBuilder 61 5 B b (Lib.byteCells l) w
theorem Bd.lt {B b : Nat} {l : Bs} {w : World} (h : Bd B b l w) : b < w.heap.size := by
  rcases h with h | h
  · exact h.lt
  · exact h.lt
theorem Bd.lo {B b : Nat} {l : Bs} {w : World} (h : Bd B b l w) : B ≤ b := by
  rcases h with h | h
  · exact h.1
  · exact h.1
theorem Bd.room {B b : Nat} {l : Bs} {w : World} (h : Bd B b l w) : ∀ p v T, w.heap[b]? = some (.cells #[p, v] T (0, 0)) → v.ownBlock ≠ some w.heap.size := by
  have key : ∀ p, Lib.BuilderAt 61 5 B b p (Lib.byteCells l) w → ∀ p v T, w.heap[b]? = some (.cells #[p, v] T (0, 0)) → v.ownBlock ≠ some w.heap.size := by
    rintro p ⟨_, v, hbk, hown, _⟩ p2 v2 T2 h2 e
    rw [hbk] at h2
    injection h2 with h2
    injection h2 with h2 _
    have : v2 = v := by
      have := congrArg (fun a => a[1]?) h2
      simpa using this.symm
    subst this
    have := (hown.lt _ e).2
    omega
  rcases h with h | h
  · exact key _ h
  · exact key _ h
theorem Bd.alloc {B b : Nat} {l : Bs} {w : World} (h : Bd B b l w) (o : Obj) : Bd B b l (w.alloc o) := by
  have key : ∀ p, Lib.BuilderAt 61 5 B b p (Lib.byteCells l) w → Lib.BuilderAt 61 5 B b p (Lib.byteCells l) (w.alloc o) := by
    intro p h
    have hlt := h.lt
    obtain ⟨hB, v, hb, hown, hne⟩ := h
    exact ⟨hB, v, by rw [heap_alloc_old _ _ hlt]; exact hb, hown.alloc _, hne⟩
  rcases h with h | h
  · exact .inl (key _ h)
  · exact .inr (key _ h)
/-- What writing leaves as it was. -/
structure Fw (B b : Nat) (w w' : World) : Prop where
  below : Below B w w'
  fr : Fr 5 b w w'
theorem Fw.refl (B b : Nat) (w : World) : Fw B b w w := ⟨Below.refl _ _, Fr.refl _ _ _⟩
theorem Fw.trans {B b : Nat} {w w1 w2 : World} (h : Fw B b w w1) (h' : Fw B b w1 w2) : Fw B b w w2 := ⟨h.below.trans h'.below, h.fr.trans h'.fr⟩
theorem Fw.alloc {B b : Nat} {l : Bs} {w : World} (h : Bd B b l w) (o : Obj) : Fw B b w (w.alloc o) := by
  have := h.lt
  have := h.lo
  exact ⟨(Below.refl _ _).alloc (by omega) _, Fr.alloc _ h.lt _⟩
theorem Bd.new {B b : Nat} {l : Bs} {w : World} (h : Bd B b l w) (cs : Array Value) (T : TypeId) (hT : T ≠ 5) : NoB 5 b (w.alloc (.cells cs T)) w.heap.size := NoB.new h.lt h.room hT
theorem Bd.write {B b : Nat} {l : Bs} {w : World} (h : Bd B b l w) (s : Bs) (hlen : l.length + s.length ≤ 140737488355328) :
    Calls Tryz.prog 46 #[.pointer (some ⟨b, 0, none⟩), .string (mkS s)] w fun e w' => e = .returned (.tuple #[.int .i64 ((mkS s).size : Int), .nilIface]) ∧ Bd B b (l ++ s) w' ∧ Fw B b w w' := by
  have := h.lt
  have := h.lo
  refine (wstring_any B b (Lib.byteCells l) (mkS s) w h (by rw [Lib.byteCells_length, mkS_size]; exact hlen) (by omega)).mono ?_
  rintro e w' ⟨rfl, h1, h2, h3⟩
  rw [byte_app] at h1
  exact ⟨rfl, h1, h2, h3⟩
set_option maxHeartbeats 4000000 in
theorem wput_any (B b g : Nat) (ts : List Bs) (l : Bs) (w : World) (h : Bd B b l w) (hn : NoB 5 b w g) (hr : ∀ i t, ts[i]? = some t → w.cell? ⟨g, i, none⟩ = some (.string (mkS t))) (hl : l.length + ts.flatten.length ≤ 140737488355328) (hts : ts.length ≤ 1000) :
    Calls Tryz.prog 28 #[.pointer (some ⟨b, 0, none⟩), .slice (some ⟨g, 0, none⟩) ts.length ts.length] w fun e w' => e = .returned (.tuple #[]) ∧ Bd B b (l ++ ts.flatten) w' ∧ Fw B b w w' := by
  have HX := Lib.hid (And.intro h (And.intro hn (And.intro hr hl)))
  have hglt := hn.1
  clear h hn hr hl
  obtain ⟨n, hn⟩ : ∃ n, ts.length = n := ⟨_, rfl⟩
  rw [hn] at hts ⊢
  have HN := Lib.hid hn
  clear hn
  go_enter Tryz.func28, Tryz.ntmps28
  go_wp2_with fail
  go_loopg [8] n (fun gg v wr => ∃ i, i ≤ n ∧ gg = n - i ∧ v = .int .i64 i ∧ Bd B b (l ++ (ts.take i).flatten) wr ∧ Fw B b w wr)
  case atStart => exact ⟨0, by omega, rfl, rfl, by simpa using HX.out.1, Fw.refl _ _ _⟩
  case round =>
    obtain ⟨i, hi, hgi, rfl, hbd, hfw⟩ := hrel
    have HR := Lib.hid (And.intro hgi (And.intro hbd hfw))
    have hblt := hbd.lt
    clear hgi hbd hfw
    by_cases hlt : i < n
    · obtain ⟨t, ht⟩ : ∃ t, ts[i]? = some t := ⟨_, List.getElem?_eq_getElem (by have := HN.out; omega)⟩
      have hsame := HR.out.2.2.fr g HX.out.2.1
      have ka0 : wr.cell? ⟨g, i, none⟩ = some (.string (mkS t)) := (World.cell?_of_block (a := ⟨g, i, none⟩) hsame.1).trans (HX.out.2.2.1 i t ht)
      have hgr : g < wr.heap.size := hsame.2.1
      have hfl : (ts.take (i + 1)).flatten = (ts.take i).flatten ++ t := by
        rw [List.take_add_one, ht]
        simp
      have hle : (ts.take (i + 1)).flatten.length ≤ ts.flatten.length := by
        have := congrArg (fun l => l.flatten.length) (List.take_append_drop (i + 1) ts)
        simp only [List.flatten_append, List.length_append] at this
        omega
      have hlw : (l ++ (ts.take i).flatten).length + t.length ≤ 140737488355328 := by
        have h1 := HX.out.2.2.2
        rw [hfl, List.length_append] at hle
        rw [List.length_append]
        omega
      have HW := Lib.hid (HR.out.2.1.write t hlw)
      have HFL := Lib.hid hfl
      have i1 : (i : Int) < (n : Int) := by omega
      have i0 : (0 : Int) ≤ (i : Int) := by omega
      clear hsame hfl hle hlw ht
      go_wp2_with fail
      refine HW.out.mono ?_
      rintro e w1 ⟨rfl, hb1, hf1⟩
      have HB1 := Lib.hid (And.intro hb1 (HR.out.2.2.trans hf1))
      clear hb1 hf1 ka0
      go_wp2_with fail
      go_roundg (n - (i + 1))
      case rel => exact ⟨i + 1, by omega, rfl, by go_num, by rw [HFL.out, ← List.append_assoc]; exact HB1.out.1, HB1.out.2⟩
      case measure => rw [HR.out.1]; omega
    · have i1 : ¬ (i : Int) < (n : Int) := by omega
      have he : i = n := by omega
      go_wp2_with fail
      go_end0
      refine ⟨rfl, ?_, HR.out.2.2⟩
      have := HR.out.2.1
      rw [he, ← HN.out, List.take_length] at this
      exact this
/-- A row that was just made. -/
theorem wput_new (B b : Nat) (ts : List Bs) (l : Bs) (w : World) (h : Bd B b l w) (hl : l.length + ts.flatten.length ≤ 140737488355328) (hts : ts.length ≤ 1000) :
    Calls Tryz.prog 28 #[.pointer (some ⟨b, 0, none⟩), .slice (some ⟨w.heap.size, 0, none⟩) ts.length ts.length] (w.alloc (.cells (ts.map fun t => Value.string (mkS t)).toArray 9)) fun e w' => e = .returned (.tuple #[]) ∧ Bd B b (l ++ ts.flatten) w' ∧ Fw B b w w' := by
  refine (wput_any B b w.heap.size ts l _ (h.alloc _) (h.new _ _ (by decide)) (fun i t ht => ?_) hl hts).mono ?_
  · rw [World.cell?_alloc_new]
    simp [ht]
  · rintro e w' ⟨rfl, h1, h2⟩
    exact ⟨rfl, h1, (Fw.alloc h _).trans h2⟩
theorem wput_one (B b : Nat) (s1 : Bs) (S1 : ByteArray) (h1 : mkS s1 = S1) (l : Bs) (w : World) (h : Bd B b l w) (hl : l.length + s1.length ≤ 140737488355328) :
    Calls Tryz.prog 28 #[.pointer (some ⟨b, 0, none⟩), .slice (some ⟨w.heap.size, 0, none⟩) 1 1] (w.alloc (.cells #[.string S1] 9)) fun e w' => e = .returned (.tuple #[]) ∧ Bd B b (l ++ s1) w' ∧ Fw B b w w' := by
  subst h1
  have e : ([s1] : List Bs).flatten = s1 := by rw [List.flatten_cons, List.flatten_nil, List.append_nil]
  have := wput_new B b [s1] l w h (by rw [e]; exact hl) (by simp)
  rw [e] at this
  exact this
theorem wput_two (B b : Nat) (s1 s2 : Bs) (S1 S2 : ByteArray) (h1 : mkS s1 = S1) (h2 : mkS s2 = S2) (l : Bs) (w : World) (h : Bd B b l w) (hl : l.length + (s1 ++ s2).length ≤ 140737488355328) :
    Calls Tryz.prog 28 #[.pointer (some ⟨b, 0, none⟩), .slice (some ⟨w.heap.size, 0, none⟩) 2 2] (w.alloc (.cells #[.string S1, .string S2] 9)) fun e w' => e = .returned (.tuple #[]) ∧ Bd B b (l ++ (s1 ++ s2)) w' ∧ Fw B b w w' := by
  subst h1 h2
  have e : ([s1, s2] : List Bs).flatten = s1 ++ s2 := by rw [List.flatten_cons, List.flatten_cons, List.flatten_nil, List.append_nil]
  have := wput_new B b [s1, s2] l w h (by rw [e]; exact hl) (by simp)
  rw [e] at this
  exact this
theorem wput_three (B b : Nat) (s1 s2 s3 : Bs) (S1 S2 S3 : ByteArray) (h1 : mkS s1 = S1) (h2 : mkS s2 = S2) (h3 : mkS s3 = S3) (l : Bs) (w : World) (h : Bd B b l w) (hl : l.length + (s1 ++ (s2 ++ s3)).length ≤ 140737488355328) :
    Calls Tryz.prog 28 #[.pointer (some ⟨b, 0, none⟩), .slice (some ⟨w.heap.size, 0, none⟩) 3 3] (w.alloc (.cells #[.string S1, .string S2, .string S3] 9)) fun e w' => e = .returned (.tuple #[]) ∧ Bd B b (l ++ (s1 ++ (s2 ++ s3))) w' ∧ Fw B b w w' := by
  subst h1 h2 h3
  have e : ([s1, s2, s3] : List Bs).flatten = s1 ++ (s2 ++ s3) := by rw [List.flatten_cons, List.flatten_cons, List.flatten_cons, List.flatten_nil, List.append_nil]
  have := wput_new B b [s1, s2, s3] l w h (by rw [e]; exact hl) (by simp)
  rw [e] at this
  exact this
end Go.Proofs.YtngimijiafnheaaGreat
set_option linter.unusedSimpArgs false
namespace LexT
open Go Go.RowKit
set_option linter.unusedVariables false
theorem sepW_snoc : ∀ (ys : List Bs) (t : Bs), ys ≠ [] → sepW (ys ++ [t]) = sepW ys ++ 44 :: 32 :: t
  | [], t, h => absurd rfl h
  | [x], t, h => rfl
  | x :: y :: r, t, h => by
    have h2 := sepW_snoc (y :: r) t (by simp)
    have e1 : sepW (x :: y :: r ++ [t]) = x ++ 44 :: 32 :: sepW (y :: r ++ [t]) := rfl
    have e2 : sepW (x :: y :: r) = x ++ 44 :: 32 :: sepW (y :: r) := rfl
    rw [e1, h2, e2]
    simp
theorem sepW_take (ys : List Bs) (i : Nat) (t : Bs) (h : ys[i]? = some t) : sepW (ys.take (i + 1)) = if i = 0 then t else sepW (ys.take i) ++ ([44, 32] ++ t) := by
  rw [List.take_add_one, h]
  by_cases h0 : i = 0
  · subst h0; simp [sepW]
  · rw [if_neg h0]
    have : ys.take i ≠ [] := by
      have hl := (List.getElem?_eq_some_iff.1 h).1
      intro e
      have := congrArg List.length e
      simp at this
      rcases this with h1 | h1
      · exact h0 h1
      · subst h1; simp at hl
    simp only [Option.toList_some]
    rw [sepW_snoc _ _ this]
    rfl
theorem sepW_le : ∀ (ys : List Bs) (i : Nat), (sepW (ys.take i)).length ≤ (sepW ys).length
  | [], i => by simp
  | [x], i => by
    cases i with
    | zero => simp [sepW]
    | succ i => simp
  | x :: y :: r, i => by
    cases i with
    | zero => simp [sepW]
    | succ i =>
      have h2 := sepW_le (y :: r) i
      cases i with
      | zero =>
        have e1 : sepW ((x :: y :: r).take 1) = x := rfl
        have e2 : sepW (x :: y :: r) = x ++ 44 :: 32 :: sepW (y :: r) := rfl
        rw [e1, e2, List.length_append]
        omega
      | succ i =>
        have e1 : sepW ((x :: y :: r).take (i + 1 + 1)) = x ++ 44 :: 32 :: sepW ((y :: r).take (i + 1)) := rfl
        have e2 : sepW (x :: y :: r) = x ++ 44 :: 32 :: sepW (y :: r) := rfl
        rw [e1, e2, List.length_append, List.length_append, List.length_cons, List.length_cons, List.length_cons, List.length_cons]
        omega
end LexT
namespace Go.Proofs.YtngimijiafnheaaGreat
open Go.Instr Go.RowKit LexT
set_option linter.unusedVariables false
set_option maxHeartbeats 4000000 in
theorem wgiven_any (F : FuncId) (k1 k2 : Value) (eg : ∀ args w, (callFunc F args).run Tryz.prog w = .ok (.enter F args) w) (B b : Nat) (ys : List Bs) (l : Bs) (w : World) (h : Bd B b l w) (hl : l.length + (givW ys).length ≤ 140737488355328) (hys : ys.length ≤ 9223372036854775807)
    (hone : ∀ (i : Nat) (t : Bs) (l' : Bs) (w' : World), ys[i]? = some t → Bd B b l' w' → Fw B b w w' → l'.length + t.length ≤ 140737488355328 → Calls Tryz.prog F #[.int .i64 (i : Int), k1, k2] w' fun e w'' => e = .returned (.tuple #[]) ∧ Bd B b (l' ++ t) w'' ∧ Fw B b w' w'') :
    Calls Tryz.prog 47 #[.pointer (some ⟨b, 0, none⟩), .int .i64 (ys.length : Int), .func (.func F) #[] #[k1, k2]] w fun e w' => e = .returned (.tuple #[]) ∧ Bd B b (l ++ givW ys) w' ∧ Fw B b w w' := by
  have HX := Lib.hid (And.intro h (And.intro hl hone))
  clear h hl hone
  obtain ⟨n, hn⟩ : ∃ n, ys.length = n := ⟨_, rfl⟩
  rw [hn] at hys ⊢
  have HN := Lib.hid hn
  clear hn
  by_cases h0 : n = 0
  · have e0 : ((n : Int) == 0) = true := by rw [h0]; rfl
    have hy : ys = [] := List.eq_nil_of_length_eq_zero (by rw [HN.out, h0])
    go_enter Tryz.func47, Tryz.ntmps47
    go_wp2_with fail
    try simp only [Exit.inBlock, Exit.then]
    refine bodyPost_ret (results_none rfl _ _ _) rfl ?_
    refine ⟨rfl, ?_, Fw.refl _ _ _⟩
    have : givW ys = [] := by rw [hy]; rfl
    rw [this, List.append_nil]
    exact HX.out.1
  · have e0 : ((n : Int) == 0) = false := by simp; omega
    have hg : givW ys = [40] ++ (sepW ys ++ [41]) := by
      cases hy : ys with
      | nil => rw [hy] at HN; have := HN.out; simp at this; omega
      | cons y r => rfl
    have hgl : (givW ys).length = (sepW ys).length + 2 := by rw [hg]; simp
    have HG := Lib.hid (And.intro hg hgl)
    have H1 := Lib.hid (wput_new B b [[40]] l w HX.out.1 (by have := HX.out.2.1; simp; omega) (by simp))
    clear hg hgl
    go_enter Tryz.func47, Tryz.ntmps47
    go_wp2_with fail
    refine H1.out.mono ?_
    rintro e w1 ⟨rfl, hb1, hf1⟩
    have HB1 := Lib.hid (And.intro hb1 hf1)
    clear hb1 hf1
    go_wp2_with fail
    go_loopg [13] n (fun gg v wr => ∃ i, i ≤ n ∧ gg = n - i ∧ v = .int .i64 i ∧ Bd B b (l ++ [40] ++ sepW (ys.take i)) wr ∧ Fw B b w wr)
    case atStart => exact ⟨0, by omega, rfl, rfl, by simpa [sepW] using HB1.out.1, HB1.out.2⟩
    case round =>
      obtain ⟨i, hi, hgi, rfl, hbd, hfw⟩ := hrel
      have HR := Lib.hid (And.intro hgi (And.intro hbd hfw))
      clear hgi hbd hfw
      by_cases hlt : i < n
      · obtain ⟨t, ht⟩ : ∃ t, ys[i]? = some t := ⟨_, List.getElem?_eq_getElem (by have := HN.out; omega)⟩
        have hst := sepW_take ys i t ht
        have hle := sepW_le ys (i + 1)
        have i1 : (i : Int) < (n : Int) := by omega
        have hlen : (l ++ [40] ++ sepW (ys.take (i + 1))).length ≤ 140737488355328 := by
          have h1 := HX.out.2.1
          have h2 := HG.out.2
          rw [List.length_append, List.length_append]
          simp only [List.length_singleton]
          omega
        have HT := Lib.hid (And.intro ht (And.intro hst hlen))
        clear ht hst hle hlen
        by_cases hi0 : i = 0
        · have i2 : decide ((i : Int) > 0) = false := by simp; omega
          have i3 : ¬ ((0 : Int) < (i : Int)) := by omega
          have HC := Lib.hid (HX.out.2.2 i t _ wr HT.out.1 HR.out.2.1 HR.out.2.2 (by
            have h1 := HT.out.2.2
            rw [HT.out.2.1, if_pos hi0] at h1
            have : sepW (ys.take i) = [] := by rw [hi0]; rfl
            rw [this, List.append_nil, ← List.length_append]
            exact h1))
          have HI0 := Lib.hid hi0
          clear hi0
          go_wp2_with fail
          refine HC.out.mono ?_
          rintro e w2 ⟨rfl, hb2, hf2⟩
          have HB2 := Lib.hid (And.intro hb2 (HR.out.2.2.trans hf2))
          clear hb2 hf2
          go_wp2_with fail
          go_roundg (n - (i + 1))
          case rel =>
            refine ⟨i + 1, by omega, rfl, by go_num, ?_, HB2.out.2⟩
            have := HB2.out.1
            have e : sepW (ys.take i) = [] := by rw [HI0.out]; rfl
            rw [HT.out.2.1, if_pos HI0.out]
            rw [e, List.append_nil] at this
            exact this
          case measure => rw [HR.out.1]; omega
        · have i2 : decide ((i : Int) > 0) = true := by simp; omega
          have i3 : (0 : Int) < (i : Int) := by omega
          have hlen2 : (l ++ [40] ++ sepW (ys.take i)).length + ([[44, 32]] : List Bs).flatten.length + t.length ≤ 140737488355328 := by
            have h1 := HT.out.2.2
            rw [HT.out.2.1, if_neg hi0] at h1
            simp only [List.length_append, List.length_cons, List.length_nil, List.flatten_cons, List.flatten_nil, List.append_nil] at h1 ⊢
            omega
          have H2 := Lib.hid (wput_new B b [[44, 32]] _ wr HR.out.2.1 (by omega) (by simp))
          have HL2 := Lib.hid hlen2
          clear hlen2
          go_wp2_with fail
          refine H2.out.mono ?_
          rintro e w2 ⟨rfl, hb2, hf2⟩
          have HC := Lib.hid (HX.out.2.2 i t _ w2 HT.out.1 hb2 (HR.out.2.2.trans hf2) (by
            have := HL2.out
            rw [List.length_append]
            exact this))
          have HF2 := Lib.hid (HR.out.2.2.trans hf2)
          clear hb2 hf2
          go_wp2_with fail
          refine HC.out.mono ?_
          rintro e w3 ⟨rfl, hb3, hf3⟩
          have HB3 := Lib.hid (And.intro hb3 (HF2.out.trans hf3))
          clear hb3 hf3
          go_wp2_with fail
          go_roundg (n - (i + 1))
          case rel =>
            refine ⟨i + 1, by omega, rfl, by go_num, ?_, HB3.out.2⟩
            have := HB3.out.1
            rw [HT.out.2.1, if_neg hi0]
            simpa using this
          case measure => rw [HR.out.1]; omega
      · have i1 : ¬ (i : Int) < (n : Int) := by omega
        have he : i = n := by omega
        have hbf : Bd B b (l ++ [40] ++ sepW ys) wr := by
          have := HR.out.2.1
          rwa [he, ← HN.out, List.take_length] at this
        have H3 := Lib.hid (wput_new B b [[41]] _ wr hbf (by
          have h1 := HX.out.2.1
          have h2 := HG.out.2
          simp only [List.length_append, List.length_cons, List.length_nil, List.flatten_cons, List.flatten_nil, List.append_nil]
          omega) (by simp))
        clear hbf
        go_wp2_with fail
        refine H3.out.mono ?_
        rintro e w4 ⟨rfl, hb4, hf4⟩
        have HB4 := Lib.hid (And.intro hb4 (HR.out.2.2.trans hf4))
        clear hb4 hf4
        go_wp2_with fail
        go_end0
        refine ⟨rfl, ?_, HB4.out.2⟩
        have := HB4.out.1
        rw [HG.out.1]
        simpa using this
end Go.Proofs.YtngimijiafnheaaGreat
set_option linter.unusedSimpArgs false
namespace Go.Proofs.YtngimijiafnheaaGreat
open Go.Instr Go.RowKit LexT
set_option linter.unusedVariables false
theorem Fw.drew {B b : Nat} {w w' : World} (h : Fw B b w.drew w') : Fw B b w w' := ⟨(Below.refl B w).drew.trans h.below, fun k hk => h.fr k hk⟩
theorem Fw.keep {B b k : Nat} {w w' : World} (h : Fw B b w w') (hk : NoB 5 b w k) : w'.heap[k]? = w.heap[k]? ∧ NoB 5 b w' k := h.fr k hk
/-- What writer.word does. -/
def WwY (w0 : World) (B b : Nat) (x : Wd) : Prop := ∀ (vs : List Value) (w : World) (l : Bs), WdAt w0 x vs → Below w0.heap.size w0 w → Bd B b l w → l.length + (wdW x).length ≤ 140737488355328 →
  Calls Tryz.prog 77 #[.pointer (some ⟨b, 0, none⟩), .agg vs.toArray] w fun e w' => e = .returned (.tuple #[]) ∧ Bd B b (l ++ wdW x) w' ∧ Fw B b w w'
set_option maxHeartbeats 4000000 in
theorem word1_step (w0 : World) (B b p1 p2 : Nat) (args : List Wd) (hrec : ∀ y ∈ args, WwY w0 B b y) (ao : Option Addr) (n c : Nat) (hr : RwAt w0 3 (WdAt w0) args ao n c) (i : Nat) (y : Wd) (hy : args[i]? = some y) (l : Bs) (w : World)
    (h1 : w.cell? ⟨p1, 0, none⟩ = some (.pointer (some ⟨b, 0, none⟩))) (h2 : w.cell? ⟨p2, 1, none⟩ = some (.slice ao n c)) (hb : Below w0.heap.size w0 w) (hbd : Bd B b l w) (hl : l.length + (wdW y).length ≤ 140737488355328) :
    Calls Tryz.prog 103 #[.int .i64 (i : Int), .pointer (some ⟨p1, 0, none⟩), .pointer (some ⟨p2, 0, none⟩)] w fun e w' => e = .returned (.tuple #[]) ∧ Bd B b (l ++ wdW y) w' ∧ Fw B b w w' := by
  have hlen := hr.len
  have hin : i < n := by rw [hlen]; exact (List.getElem?_eq_some_iff.1 hy).1
  have hsm := hr.small
  unfold maxLen at hsm
  have hcap := hr.cap (by omega)
  obtain ⟨ga, vs, rfl, hga, hwd, hca⟩ := hr.at_ i y hy
  have HE := Lib.hid (hrec y (List.mem_of_getElem? hy) vs w.drew l hwd (hb.trans ((Below.refl _ _).drew)) hbd hl)
  obtain ⟨nm, ws, p⟩ := y
  obtain ⟨ao2, n2, c2, v, rfl, _⟩ := hwd.parts
  have ka0 : w.cell? ⟨ga, i * 3, none⟩ = some (.string (mkS nm)) := (hb.cell (p := ⟨ga, i * 3, none⟩) hga).trans (by have := hca 0 _ rfl; simpa using this)
  have ka1 : w.cell? ⟨ga, i * 3 + 1, none⟩ = some (.slice ao2 n2 c2) := (hb.cell (p := ⟨ga, i * 3 + 1, none⟩) hga).trans (hca 1 _ rfl)
  have ka2 : w.cell? ⟨ga, i * 3 + 2, none⟩ = some (.int .i64 v) := (hb.cell (p := ⟨ga, i * 3 + 2, none⟩) hga).trans (hca 2 _ rfl)
  obtain ⟨S, hS⟩ : ∃ S, mkS nm = S := ⟨_, rfl⟩
  rw [hS] at ka0 HE
  obtain ⟨T, hT⟩ : ∃ T, wdW (.mk nm ws p) = T := ⟨_, rfl⟩
  rw [hT] at HE ⊢
  have i1 : (i : Int) < (n : Int) := by omega
  have i0 : (0 : Int) ≤ (i : Int) := by omega
  clear hrec hr hy hb hbd hl hca hwd hS hT hlen hga
  go_enter Tryz.func103, Tryz.ntmps103
  go_wp2_with fail
  go_region_law (
    go_simp
    go_at_call 77
    refine HE.out.mono ?_
    rintro e w2 ⟨rfl, hb2, hf2⟩
    have HB2 := Lib.hid (And.intro hb2 hf2.drew)
    clear hb2 hf2)
  all_goals
    go_wp2_with fail
    go_end0
    exact ⟨rfl, HB2.out.1, HB2.out.2⟩
theorem eg_wword1 : ∀ args w, (callFunc 103 args).run Tryz.prog w = .ok (.enter 103 args) w := fun _ _ => by kernel_rfl
set_option maxHeartbeats 800000 in
theorem wword_step (w0 : World) (B b : Nat) (hB : w0.heap.size ≤ B) (nm : Bs) (args : List Wd) (p : Nat) (hrec : ∀ y ∈ args, WwY w0 B b y) : WwY w0 B b (.mk nm args p) := by
  intro vs w l ha hb hbd hl
  obtain ⟨ao, n, c, v, rfl, hr⟩ := ha.parts
  have hn := hr.len
  have hsm := hr.small
  unfold maxLen at hsm
  have hblt := hbd.lt
  have hwd : wdW (.mk nm args p) = nm ++ givW (wdsW args) := by rw [wdW]
  rw [hwd] at hl ⊢
  rw [List.length_append] at hl
  have hml : (wdsW args).length = n := by rw [wdsW_map, List.length_map, hn]
  have HX := Lib.hid (And.intro hb (And.intro hbd (And.intro hl (And.intro hr (And.intro hrec hml)))))
  obtain ⟨S, hS⟩ : ∃ S, mkS nm = S := ⟨_, rfl⟩
  have HS := Lib.hid hS
  rw [hS]
  clear ha hb hbd hl hr hrec hml hwd hS hn
  go_enter Tryz.func77, Tryz.ntmps77
  go_upto_region 1 with fail
  obtain ⟨W, hW⟩ : ∃ V, V = (w.alloc (.cells #[.pointer (some ⟨b, 0, none⟩)] 78)).alloc (.cells #[.string S, .slice ao n c, .int .i64 v] 50) := ⟨_, rfl⟩
  rw [← hW]
  obtain ⟨⟨hk1, hk2⟩, hBW, hWs⟩ := alloc2 w (.cells #[.pointer (some ⟨b, 0, none⟩)] 78) (.cells #[.string S, .slice ao n c, .int .i64 v] 50)
  rw [← hW] at hk1 hk2 hBW hWs
  have HFW : Hid (Fw B b w W) := by rw [hW]; exact (Fw.alloc HX.out.2.1 _).trans (Fw.alloc (HX.out.2.1.alloc _) _)
  have HBW : Hid (Bd B b l W) := by rw [hW]; exact (HX.out.2.1.alloc _).alloc _
  have HN1 : Hid (NoB 5 b W w.heap.size) := by rw [hW]; exact ((Fw.alloc (HX.out.2.1.alloc _) _).keep (HX.out.2.1.new _ _ (by decide))).2
  have HN2 : Hid (NoB 5 b W (w.heap.size + 1)) := by
    rw [hW]
    have := (HX.out.2.1.alloc (.cells #[.pointer (some ⟨b, 0, none⟩)] 78)).new #[.string S, .slice ao n c, .int .i64 v] 50 (by decide)
    rwa [World.size_alloc] at this
  have HK := Lib.hid (And.intro hk1 hk2)
  have HBOX : Hid (∀ ww, Fw B b W ww → ww.cell? ⟨w.heap.size, 0, none⟩ = some (.pointer (some ⟨b, 0, none⟩)) ∧ ww.cell? ⟨w.heap.size + 1, 0, none⟩ = some (.string S) ∧ ww.cell? ⟨w.heap.size + 1, 1, none⟩ = some (.slice ao n c)) := by
    intro ww hf
    have h1 := (hf.keep HN1.out).1.trans HK.out.1
    have h2 := (hf.keep HN2.out).1.trans HK.out.2
    refine ⟨?_, ?_, ?_⟩
    · rw [cell_of_row ww _ 0 _ 78 (0, 0) h1]; rfl
    · rw [cell_of_row ww _ 0 _ 50 (0, 0) h2]; rfl
    · rw [cell_of_row ww _ 1 _ 50 (0, 0) h2]; rfl
  obtain ⟨t0, t1, t2⟩ := HBOX.out W (Fw.refl _ _ _)
  have H1 := Lib.hid (wput_one B b nm S HS.out l W HBW.out (by have := HX.out.2.2.1; omega))
  clear hW hk1 hk2 hBW t2 hWs
  go_wp2_with fail
  refine H1.out.mono ?_
  rintro e w1 ⟨rfl, hb1, hf1⟩
  have HB1 := Lib.hid (And.intro hb1 hf1)
  clear t0 t1
  obtain ⟨t0, t1, t2⟩ := HBOX.out w1 hf1
  have hone : ∀ (i : Nat) (t : Bs) (l' : Bs) (w' : World), (wdsW args)[i]? = some t → Bd B b l' w' → Fw B b w1 w' → l'.length + t.length ≤ 140737488355328 → Calls Tryz.prog 103 #[.int .i64 (i : Int), .pointer (some ⟨w.heap.size, 0, none⟩), .pointer (some ⟨w.heap.size + 1, 0, none⟩)] w' fun e w'' => e = .returned (.tuple #[]) ∧ Bd B b (l' ++ t) w'' ∧ Fw B b w' w'' := by
    intro i t l' w' hi hbb hff hll
    rw [wdsW_map, List.getElem?_map] at hi
    obtain ⟨y, hy, rfl⟩ := Option.map_eq_some_iff.1 hi
    obtain ⟨z0, z1, z2⟩ := HBOX.out w' (HB1.out.2.trans hff)
    have hbw : Below w0.heap.size w0 w' := (HX.out.1.trans (HFW.out.below.mono hB)).trans ((HB1.out.2.trans hff).below.mono hB)
    exact word1_step w0 B b w.heap.size (w.heap.size + 1) args HX.out.2.2.2.2.1 ao n c HX.out.2.2.2.1 i y hy l' w' z0 z2 hbw hbb hll
  have hlg : (l ++ nm).length + (givW (wdsW args)).length ≤ 140737488355328 := by have := HX.out.2.2.1; rw [List.length_append]; omega
  have hly : (wdsW args).length ≤ 9223372036854775807 := by rw [HX.out.2.2.2.2.2]; omega
  have H2 := Lib.hid (wgiven_any 103 (.pointer (some ⟨w.heap.size, 0, none⟩)) (.pointer (some ⟨w.heap.size + 1, 0, none⟩)) eg_wword1 B b (wdsW args) (l ++ nm) w1 HB1.out.1 hlg hly hone)
  clear hone hlg hly
  rw [HX.out.2.2.2.2.2] at H2
  have hmf : ∀ (fn : Fn) (first cap : Array Value) (w : World), (Instr.makeFunc fn first cap).run Tryz.prog w = .ok (.func fn first cap) w := fun _ _ _ _ => rfl
  clear hb1 hf1 t1
  go_wp2_with fail
  refine H2.out.mono ?_
  rintro e w2 ⟨rfl, hb2, hf2⟩
  have HB2 := Lib.hid (And.intro hb2 hf2)
  clear hb2 hf2
  go_wp2_with fail
  go_end0
  exact ⟨rfl, by rw [← List.append_assoc]; exact HB2.out.1, (HFW.out.trans HB1.out.2).trans HB2.out.2⟩
theorem wword_any (w0 : World) (B b : Nat) (hB : w0.heap.size ≤ B) : ∀ x : Wd, WwY w0 B b x
  | .mk nm args p => wword_step w0 B b hB nm args p (fun y hy => wword_any w0 B b hB y)
  termination_by x => SizeOf.sizeOf x
  decreasing_by
    have := List.sizeOf_lt_of_mem hy
    simp
    omega
end Go.Proofs.YtngimijiafnheaaGreat
set_option linter.unusedSimpArgs false
namespace LexT
open Go Go.RowKit
set_option linter.unusedVariables false
theorem flat_take {α : Type} (f : α → Bs) (ws : List α) (i : Nat) (x : α) (h : ws[i]? = some x) : ((ws.take (i + 1)).map f).flatten = ((ws.take i).map f).flatten ++ f x := by
  rw [List.take_add_one, h]
  simp
theorem flat_le {α : Type} (f : α → Bs) (ws : List α) (i : Nat) : ((ws.take i).map f).flatten.length ≤ (ws.map f).flatten.length := by
  have := congrArg (fun l => (l.map f).flatten.length) (List.take_append_drop i ws)
  simp only [List.map_append, List.flatten_append, List.length_append] at this
  omega
theorem words_flat (ws : List Wd) : ((wdsW ws).map (32 :: ·)).flatten = (ws.map fun x => 32 :: wdW x).flatten := by
  rw [wdsW_map, List.map_map]
  rfl
end LexT
namespace Go.Proofs.YtngimijiafnheaaGreat
open Go.Instr Go.RowKit LexT
set_option linter.unusedVariables false
set_option maxHeartbeats 8000000 in
theorem walt_any (w0 : World) (B b : Nat) (hB : w0.heap.size ≤ B) (a : Al) (vs : List Value) (ha : AlAt w0 a vs) (w : World) (l : Bs) (hb : Below w0.heap.size w0 w) (hbd : Bd B b l w) (hl : l.length + (alW a).length ≤ 140737488355328) :
    Calls Tryz.prog 49 #[.pointer (some ⟨b, 0, none⟩), .agg vs.toArray] w fun e w' => e = .returned (.tuple #[]) ∧ Bd B b (l ++ alW a) w' ∧ Fw B b w w' := by
  obtain ⟨aw, ap, ah, aa, awh, aat⟩ := a
  obtain ⟨ao, n, c, u, v, rfl, hr⟩ := ha
  dsimp only at hr
  have hwd : alW ⟨aw, ap, ah, aa, awh, aat⟩ = (aw.map fun x => 32 :: wdW x).flatten ++ (precW ap ++ (if ah then [32, 123] ++ (aa ++ [125]) else [])) := by
    rw [← words_flat]; rfl
  rw [hwd] at hl ⊢
  rw [List.length_append, List.length_append] at hl
  have hn := hr.len
  have hsm := hr.small
  unfold maxLen at hsm
  have hsm' : n ≤ 9223372036854775807 := hsm
  have hblt := hbd.lt
  have HX := Lib.hid (And.intro hb (And.intro hbd (And.intro hl (And.intro hr hn))))
  obtain ⟨Sp, hSp⟩ : ∃ S, mkS ap = S := ⟨_, rfl⟩
  obtain ⟨Sa, hSa⟩ : ∃ S, mkS aa = S := ⟨_, rfl⟩
  have HS := Lib.hid (And.intro hSp hSa)
  have hpe : (!Sp.toList.isEmpty) = !decide (ap = []) := by
    rw [← hSp, Lib.toList_data, mkS_list]
    cases ap <;> rfl
  rw [hSp, hSa]
  clear hb hbd hl hr hwd hSp hSa hn hsm
  go_enter Tryz.func49, Tryz.ntmps49
  go_upto_region 1 with fail
  obtain ⟨W, hW⟩ : ∃ V, V = w.alloc (.cells #[.slice ao n c, .string Sp, .bool ah, .string Sa, .int .i64 u, .int .i64 v] 47) := ⟨_, rfl⟩
  rw [← hW]
  obtain ⟨hk5, hWs, hBW⟩ := six_new hW
  have HFW : Hid (Fw B b w W) := by rw [hW]; exact Fw.alloc HX.out.2.1 _
  have HBW : Hid (Bd B b l W) := by rw [hW]; exact HX.out.2.1.alloc _
  have HN1 : Hid (NoB 5 b W w.heap.size) := by rw [hW]; exact HX.out.2.1.new _ _ (by decide)
  have HK := Lib.hid hk5
  have HBOX : Hid (∀ ww, Fw B b W ww → ww.heap[w.heap.size]? = some (.cells #[.slice ao n c, .string Sp, .bool ah, .string Sa, .int .i64 u, .int .i64 v] 47 (0, 0))) := fun ww hf => (hf.keep HN1.out).1.trans HK.out
  have HB0 : Hid (∀ ww, Fw B b W ww → Below w0.heap.size w0 ww) := fun ww hf => (HX.out.1.trans (HFW.out.below.mono hB)).trans (hf.below.mono hB)
  obtain ⟨⟨t0, t1, t2, t3, t4, t5⟩, _⟩ := six_facts hk5
  clear hW hk5 hWs hBW t1 t2 t3 t4 t5
  go_wp2_with fail
  go_loopg [9] n (fun gg v wr => ∃ i, i ≤ n ∧ gg = n - i ∧ v = .int .i64 i ∧ Bd B b (l ++ ((aw.take i).map fun x => 32 :: wdW x).flatten) wr ∧ Fw B b W wr)
  case atStart => exact ⟨0, by omega, rfl, rfl, by simpa using HBW.out, Fw.refl _ _ _⟩
  case round =>
    obtain ⟨i, hi, hgi, rfl, hbd, hfw⟩ := hrel
    have HR := Lib.hid (And.intro hgi (And.intro hbd hfw))
    have hb0 := HB0.out wr hfw
    have hblr := hbd.lt
    clear hgi hbd t0
    by_cases hlt : i < n
    · obtain ⟨x, hx⟩ : ∃ x, aw[i]? = some x := ⟨_, List.getElem?_eq_getElem (by have := HX.out.2.2.2.2; omega)⟩
      obtain ⟨ga, vs, rfl, hga, hwd, hca⟩ := HX.out.2.2.2.1.at_ i x hx
      have hcap := HX.out.2.2.2.1.cap (by omega)
      have hft := flat_take (fun x => 32 :: wdW x) aw i x hx
      have hfl := flat_le (fun x => 32 :: wdW x) aw (i + 1)
      have hln : (l ++ ((aw.take i).map fun x => 32 :: wdW x).flatten).length + ([32] ++ wdW x).length ≤ 140737488355328 := by
        have h1 := HX.out.2.2.1
        rw [hft, List.length_append] at hfl
        rw [List.length_append]
        have : (32 :: wdW x).length = ([32] ++ wdW x).length := rfl
        omega
      rw [List.length_append] at hln
      have HLN := Lib.hid (And.intro hft hln)
      have HWX := Lib.hid (fun ww l' hbb hbd hl => wword_any w0 B b hB x vs ww l' hwd hbb hbd hl)
      obtain ⟨nm, ws, q⟩ := x
      obtain ⟨ao2, n2, c2, v2, rfl, _⟩ := hwd.parts
      obtain ⟨S, hS⟩ : ∃ S, mkS nm = S := ⟨_, rfl⟩
      rw [hS] at hca HWX
      have ka0 : wr.cell? ⟨ga, i * 3, none⟩ = some (.string S) := (hb0.cell (p := ⟨ga, i * 3, none⟩) hga).trans (by have := hca 0 _ rfl; simpa using this)
      have ka1 : wr.cell? ⟨ga, i * 3 + 1, none⟩ = some (.slice ao2 n2 c2) := (hb0.cell (p := ⟨ga, i * 3 + 1, none⟩) hga).trans (hca 1 _ rfl)
      have ka2 : wr.cell? ⟨ga, i * 3 + 2, none⟩ = some (.int .i64 v2) := (hb0.cell (p := ⟨ga, i * 3 + 2, none⟩) hga).trans (hca 2 _ rfl)
      obtain ⟨X, hX⟩ : ∃ X, wdW (.mk nm ws q) = X := ⟨_, rfl⟩
      rw [hX] at HWX HLN
      have hga' : ga < wr.heap.size := Nat.lt_of_lt_of_le hga hb0.size
      have i1 : (i : Int) < (n : Int) := by omega
      have i0 : (0 : Int) ≤ (i : Int) := by omega
      clear hca hx hft hfl hln hwd hS hX hfw hga
      go_upto_region 4 with fail
      obtain ⟨W2, hW2⟩ : ∃ V, V = wr.alloc (.cells #[.string S, .slice ao2 n2 c2, .int .i64 v2] 50) := ⟨_, rfl⟩
      rw [← hW2]
      have hk6 : W2.heap[wr.heap.size]? = some (.cells #[.string S, .slice ao2 n2 c2, .int .i64 v2] 50 (0, 0)) := by rw [hW2]; exact heap_alloc_new wr _
      have HF2 : Hid (Fw B b W W2) := by rw [hW2]; exact HR.out.2.2.trans (Fw.alloc HR.out.2.1 _)
      have HB2 : Hid (Bd B b (l ++ ((aw.take i).map fun x => 32 :: wdW x).flatten) W2) := by rw [hW2]; exact HR.out.2.1.alloc _
      have HN2 : Hid (NoB 5 b W2 wr.heap.size) := by rw [hW2]; exact HR.out.2.1.new _ _ (by decide)
      have HK6 := Lib.hid hk6
      have H1 := Lib.hid (wput_one B b [32] ⟨#[32]⟩ rfl _ W2 HB2.out (by have := HLN.out.2; simp only [List.length_append, List.length_cons, List.length_nil] at this ⊢; omega))
      clear hW2 hk6 ka0 ka1 ka2
      go_wp2_with fail
      refine H1.out.mono ?_
      rintro e w3 ⟨rfl, hb3, hf3⟩
      obtain ⟨⟨y0, y1, y2⟩, _⟩ := three_facts ((hf3.keep HN2.out).1.trans HK6.out)
      have HF3 := Lib.hid (HF2.out.trans hf3)
      have H2 := Lib.hid (HWX.out w3 _ (HB0.out w3 HF3.out) hb3 (by have := HLN.out.2; rw [List.length_append, List.length_append]; simp only [List.length_append, List.length_singleton] at this ⊢; omega))
      clear hb3 hf3
      go_wp2_with fail
      refine H2.out.mono ?_
      rintro e w4 ⟨rfl, hb4, hf4⟩
      have HB4 := Lib.hid (And.intro hb4 (HF3.out.trans hf4))
      clear hb4 hf4 y0 y1 y2
      go_wp2_with fail
      go_roundg (n - (i + 1))
      case rel =>
        refine ⟨i + 1, by omega, rfl, by go_num, ?_, HB4.out.2⟩
        have := HB4.out.1
        rw [HLN.out.1]
        simpa using this
      case measure => rw [HR.out.1]; omega
    · have i1 : ¬ (i : Int) < (n : Int) := by omega
      have he : i = n := by omega
      have hbf : Bd B b (l ++ (aw.map fun x => 32 :: wdW x).flatten) wr := by
        have := HR.out.2.1
        rwa [he, HX.out.2.2.2.2, List.take_length] at this
      obtain ⟨⟨t0, t1, t2, t3, t4, t5⟩, _⟩ := six_facts (HBOX.out wr hfw)
      obtain ⟨l2, hl2⟩ : ∃ l2, l ++ (aw.map fun x => 32 :: wdW x).flatten = l2 := ⟨_, rfl⟩
      rw [hl2] at hbf
      have hl2n : l2.length = l.length + (aw.map fun x => 32 :: wdW x).flatten.length := by rw [← hl2, List.length_append]
      have HFIN : Hid (∀ wz, Bd B b (l2 ++ precW ap) wz → Fw B b W wz → (∀ wy, Bd B b (l2 ++ precW ap ++ (if ah then [32, 123] ++ (aa ++ [125]) else [])) wy → Fw B b wz wy → Bd B b (l ++ ((aw.map fun x => 32 :: wdW x).flatten ++ (precW ap ++ (if ah then [32, 123] ++ (aa ++ [125]) else [])))) wy ∧ Fw B b w wy)) := by
        intro wz h1 h2 wy h3 h4
        refine ⟨?_, (HFW.out.trans h2).trans h4⟩
        rw [← List.append_assoc, hl2, ← List.append_assoc]
        exact h3
      have HL2 := Lib.hid hl2n
      have HFR := Lib.hid hfw
      clear t0 t4 t5 hfw hl2 hl2n hb0 hi
      by_cases hp : ap = []
      · have hpt : (!Sp.toList.isEmpty) = false := by rw [hpe]; simp [hp]
        have hpw : precW ap = [] := by unfold precW; rw [if_pos hp]
        have HB5 : Hid (Bd B b (l2 ++ precW ap) wr) := by rw [hpw, List.append_nil]; exact hbf
        clear hpe hp hpw hbf
        cases ah
        · have HQ := Lib.hid (HFIN.out wr HB5.out HFR.out wr (by simpa using HB5.out) (Fw.refl _ _ _))
          go_wp2_with fail
          go_end0
          refine ⟨rfl, ?_, HQ.out.2⟩
          have := HQ.out.1
          simpa using this
        · have H3 := Lib.hid (wput_three B b [32, 123] aa [125] ⟨#[32, 123]⟩ Sa ⟨#[125]⟩ rfl HS.out.2 rfl _ wr HB5.out (by have h1 := HX.out.2.2.1; have h2 := HL2.out; simp only [if_true] at h1; rw [List.length_append]; omega))
          have HQ := Lib.hid (HFIN.out wr HB5.out HFR.out)
          go_wp2_with fail
          refine H3.out.mono ?_
          rintro e w4 ⟨rfl, hb4, hf4⟩
          have HB4 := Lib.hid (HQ.out w4 (by simpa using hb4) hf4)
          clear hb4 hf4
          go_wp2_with fail
          go_end0
          exact ⟨rfl, HB4.out.1, HB4.out.2⟩
      · have hpt : (!Sp.toList.isEmpty) = true := by rw [hpe]; simp [hp]
        have hpw : precW ap = [32, 37, 112, 114, 101, 99, 32] ++ ap := by unfold precW; rw [if_neg hp]
        have H6 := Lib.hid (wput_two B b [32, 37, 112, 114, 101, 99, 32] ap ⟨#[32, 37, 112, 114, 101, 99, 32]⟩ Sp rfl HS.out.1 _ wr hbf (by have h1 := HX.out.2.2.1; have h2 := HL2.out; rw [hpw] at h1; omega))
        rw [← hpw] at H6
        clear hpe hp hpw hbf
        go_wp2_with fail
        refine H6.out.mono ?_
        rintro e w5 ⟨rfl, hb5, hf5⟩
        have HF5 := Lib.hid (HFR.out.trans hf5)
        have HB5 := Lib.hid hb5
        clear t1 t2 t3
        obtain ⟨⟨t0, t1, t2, t3, t4, t5⟩, _⟩ := six_facts (HBOX.out w5 HF5.out)
        clear t0 t1 t4 t5 hb5 hf5
        cases ah
        · have HQ := Lib.hid (HFIN.out w5 HB5.out HF5.out w5 (by simpa using HB5.out) (Fw.refl _ _ _))
          go_wp2_with fail
          go_end0
          refine ⟨rfl, ?_, HQ.out.2⟩
          have := HQ.out.1
          simpa using this
        · have H3 := Lib.hid (wput_three B b [32, 123] aa [125] ⟨#[32, 123]⟩ Sa ⟨#[125]⟩ rfl HS.out.2 rfl _ w5 HB5.out (by have h1 := HX.out.2.2.1; have h2 := HL2.out; simp only [if_true] at h1; rw [List.length_append]; omega))
          have HQ := Lib.hid (HFIN.out w5 HB5.out HF5.out)
          go_wp2_with fail
          refine H3.out.mono ?_
          rintro e w4 ⟨rfl, hb4, hf4⟩
          have HB4 := Lib.hid (HQ.out w4 (by simpa using hb4) hf4)
          clear hb4 hf4
          go_wp2_with fail
          go_end0
          exact ⟨rfl, HB4.out.1, HB4.out.2⟩
end Go.Proofs.YtngimijiafnheaaGreat
set_option linter.unusedSimpArgs false
namespace LexT
open Go Go.RowKit
set_option linter.unusedVariables false
/-- What stands ahead of an alternative. -/
def ahd (i : Nat) : Bs := if i = 0 then [58] else [9, 124]
theorem altsW_take (l : List Al) (i : Nat) (a : Al) (h : l[i]? = some a) : altsW (l.take (i + 1)) = altsW (l.take i) ++ (ahd i ++ (alW a ++ [10])) := by
  rw [List.take_add_one, h]
  cases i with
  | zero => simp [altsW, alsW, ahd]
  | succ i =>
    cases l with
    | nil => simp at h
    | cons x r =>
      simp [altsW, alsW, ahd]
theorem altsW_le (l : List Al) (i : Nat) : (altsW (l.take i)).length ≤ (altsW l).length := by
  cases l with
  | nil => simp
  | cons x r =>
    cases i with
    | zero => simp [altsW]
    | succ i =>
      have := flat_le (fun a => [9, 124] ++ (alW a ++ [10])) r i
      show (58 :: (alW x ++ 10 :: alsW (r.take i))).length ≤ (58 :: (alW x ++ 10 :: alsW r)).length
      unfold alsW
      simp only [List.length_cons, List.length_append]
      omega
end LexT
namespace Go.Proofs.YtngimijiafnheaaGreat
open Go.Instr Go.RowKit LexT
set_option linter.unusedVariables false
theorem eg_wrule1 : ∀ args w, (callFunc 48 args).run Tryz.prog w = .ok (.enter 48 args) w := fun _ _ => by kernel_rfl
set_option maxHeartbeats 4000000 in
theorem wrule1_any (w0 : World) (B b p1 p2 : Nat) (ps : List Bs) (ao : Option Addr) (n c : Nat) (hr : RwAt w0 1 StAt ps ao n c) (i : Nat) (y : Bs) (hy : ps[i]? = some y) (l : Bs) (w : World)
    (h1 : w.cell? ⟨p1, 0, none⟩ = some (.pointer (some ⟨b, 0, none⟩))) (h2 : w.cell? ⟨p2, 1, none⟩ = some (.slice ao n c)) (hb : Below w0.heap.size w0 w) (hbd : Bd B b l w) (hl : l.length + y.length ≤ 140737488355328) :
    Calls Tryz.prog 48 #[.int .i64 (i : Int), .pointer (some ⟨p1, 0, none⟩), .pointer (some ⟨p2, 0, none⟩)] w fun e w' => e = .returned (.tuple #[]) ∧ Bd B b (l ++ y) w' ∧ Fw B b w w' := by
  have hlen := hr.len
  have hin : i < n := by rw [hlen]; exact (List.getElem?_eq_some_iff.1 hy).1
  have hsm := hr.small
  unfold maxLen at hsm
  have hcap := hr.cap (by omega)
  obtain ⟨ga, vs, rfl, hga, hwd, hca⟩ := hr.at_ i y hy
  have hwd : vs = [.string (mkS y)] := hwd
  subst hwd
  obtain ⟨S, hS⟩ : ∃ S, mkS y = S := ⟨_, rfl⟩
  have HE := Lib.hid (fun ww (h : ∃ k, ww = w.drewN k) => (by
    obtain ⟨k, rfl⟩ := h
    refine (wput_one B b y S hS l (w.drewN k) hbd hl).mono ?_
    rintro e w' ⟨rfl, hx, hf⟩
    exact ⟨rfl, hx, ⟨(below_drn (Below.refl B w) k).trans hf.below, fun j hj => hf.fr j hj⟩⟩ : Calls Tryz.prog 28 #[.pointer (some ⟨b, 0, none⟩), .slice (some ⟨ww.heap.size, 0, none⟩) 1 1] (ww.alloc (.cells #[.string S] 9)) fun e w' => e = .returned (.tuple #[]) ∧ Bd B b (l ++ y) w' ∧ Fw B b w w'))
  have ka0 : w.cell? ⟨ga, i, none⟩ = some (.string S) := (hb.cell (p := ⟨ga, i, none⟩) hga).trans (by rw [← hS]; have := hca 0 _ rfl; simpa using this)
  have i1 : (i : Int) < (n : Int) := by omega
  have i0 : (0 : Int) ≤ (i : Int) := by omega
  have hga' : ga < w.heap.size := Nat.lt_of_lt_of_le hga hb.size
  have hp1 : p1 < w.heap.size := World.block_lt_of_cell? _ _ h1
  have hp2 : p2 < w.heap.size := World.block_lt_of_cell? _ _ h2
  clear hr hy hb hbd hl hca hS hlen hga
  go_enter Tryz.func48, Tryz.ntmps48
  go_wp2_with fail
  go_region_law (
    go_simp
    go_at_call 28
    refine (HE.out _ ⟨_, rfl⟩).mono ?_
    rintro e w2 ⟨rfl, hb2, hf2⟩
    have HB2 := Lib.hid (And.intro hb2 hf2)
    clear hb2 hf2)
  all_goals
    go_wp2_with fail
    go_end0
    exact ⟨rfl, HB2.out.1, HB2.out.2⟩
set_option maxHeartbeats 8000000 in
theorem wrule_any (w0 : World) (B b : Nat) (hB : w0.heap.size ≤ B) (r : Ru) (vs : List Value) (ha : RuAt w0 r vs) (w : World) (l : Bs) (hb : Below w0.heap.size w0 w) (hbd : Bd B b l w) (hl : l.length + (ruW r).length ≤ 140737488355328) :
    Calls Tryz.prog 29 #[.pointer (some ⟨b, 0, none⟩), .agg vs.toArray] w fun e w' => e = .returned (.tuple #[]) ∧ Bd B b (l ++ ruW r) w' ∧ Fw B b w w' := by
  obtain ⟨nm, ps, als, p⟩ := r
  obtain ⟨ao, n, c, bo, mm, d, v, rfl, hp, hr⟩ := ha
  dsimp only at hp hr
  have hwd : ruW ⟨nm, ps, als, p⟩ = nm ++ (givW ps ++ (altsW als ++ [9, 59, 10])) := rfl
  rw [hwd] at hl ⊢
  rw [List.length_append, List.length_append, List.length_append] at hl
  have hl3 : ([9, 59, 10] : Bs).length = 3 := rfl
  rw [hl3] at hl
  have hn := hp.len
  have hns := hp.small
  have hm1 := hr.len
  have hms := hr.small
  unfold maxLen at hns hms
  have hns' : n ≤ 9223372036854775807 := hns
  have hms' : mm ≤ 9223372036854775807 := hms
  have hblt := hbd.lt
  have HX := Lib.hid (And.intro hb (And.intro hbd (And.intro hl (And.intro hp (And.intro hr (And.intro hn hm1))))))
  obtain ⟨S, hS⟩ : ∃ S, mkS nm = S := ⟨_, rfl⟩
  have HS := Lib.hid hS
  rw [hS]
  have hmf : ∀ (fn : Fn) (first cap : Array Value) (w : World), (Instr.makeFunc fn first cap).run Tryz.prog w = .ok (.func fn first cap) w := fun _ _ _ _ => rfl
  clear hb hbd hl hp hr hwd hS hn hm1 hns hms hl3
  go_enter Tryz.func29, Tryz.ntmps29
  go_upto_region 1 with fail
  obtain ⟨W, hW⟩ : ∃ V, V = (w.alloc (.cells #[.pointer (some ⟨b, 0, none⟩)] 78)).alloc (.cells #[.string S, .slice ao n c, .slice bo mm d, .int .i64 v] 44) := ⟨_, rfl⟩
  rw [← hW]
  obtain ⟨⟨hk1, hk2⟩, hBW, hWs⟩ := alloc2 w (.cells #[.pointer (some ⟨b, 0, none⟩)] 78) (.cells #[.string S, .slice ao n c, .slice bo mm d, .int .i64 v] 44)
  rw [← hW] at hk1 hk2 hBW hWs
  have HFW : Hid (Fw B b w W) := by rw [hW]; exact (Fw.alloc HX.out.2.1 _).trans (Fw.alloc (HX.out.2.1.alloc _) _)
  have HBW : Hid (Bd B b l W) := by rw [hW]; exact (HX.out.2.1.alloc _).alloc _
  have HN1 : Hid (NoB 5 b W w.heap.size) := by rw [hW]; exact ((Fw.alloc (HX.out.2.1.alloc _) _).keep (HX.out.2.1.new _ _ (by decide))).2
  have HN2 : Hid (NoB 5 b W (w.heap.size + 1)) := by
    rw [hW]
    have := (HX.out.2.1.alloc (.cells #[.pointer (some ⟨b, 0, none⟩)] 78)).new #[.string S, .slice ao n c, .slice bo mm d, .int .i64 v] 44 (by decide)
    rwa [World.size_alloc] at this
  have HK := Lib.hid (And.intro hk1 hk2)
  have HBOX : Hid (∀ ww, Fw B b W ww → ww.cell? ⟨w.heap.size, 0, none⟩ = some (.pointer (some ⟨b, 0, none⟩)) ∧ ww.cell? ⟨w.heap.size + 1, 0, none⟩ = some (.string S) ∧ ww.cell? ⟨w.heap.size + 1, 1, none⟩ = some (.slice ao n c) ∧ ww.cell? ⟨w.heap.size + 1, 2, none⟩ = some (.slice bo mm d)) := by
    intro ww hf
    have h1 := (hf.keep HN1.out).1.trans HK.out.1
    have h2 := (hf.keep HN2.out).1.trans HK.out.2
    refine ⟨?_, ?_, ?_, ?_⟩
    · rw [cell_of_row ww _ 0 _ 78 (0, 0) h1]; rfl
    · rw [cell_of_row ww _ 0 _ 44 (0, 0) h2]; rfl
    · rw [cell_of_row ww _ 1 _ 44 (0, 0) h2]; rfl
    · rw [cell_of_row ww _ 2 _ 44 (0, 0) h2]; rfl
  have HB0 : Hid (∀ ww, Fw B b W ww → Below w0.heap.size w0 ww) := fun ww hf => (HX.out.1.trans (HFW.out.below.mono hB)).trans (hf.below.mono hB)
  obtain ⟨t0, t1, t2, t3⟩ := HBOX.out W (Fw.refl _ _ _)
  have H1 := Lib.hid (wput_one B b nm S HS.out l W HBW.out (by have := HX.out.2.2.1; omega))
  clear hW hk1 hk2 hBW t2 t3 hWs
  go_wp2_with fail
  refine H1.out.mono ?_
  rintro e w1 ⟨rfl, hb1, hf1⟩
  have HB1 := Lib.hid (And.intro hb1 hf1)
  clear t0 t1
  obtain ⟨t0, t1, t2, t3⟩ := HBOX.out w1 hf1
  have hone : ∀ (i : Nat) (t : Bs) (l' : Bs) (w' : World), ps[i]? = some t → Bd B b l' w' → Fw B b w1 w' → l'.length + t.length ≤ 140737488355328 → Calls Tryz.prog 48 #[.int .i64 (i : Int), .pointer (some ⟨w.heap.size, 0, none⟩), .pointer (some ⟨w.heap.size + 1, 0, none⟩)] w' fun e w'' => e = .returned (.tuple #[]) ∧ Bd B b (l' ++ t) w'' ∧ Fw B b w' w'' := by
    intro i t l' w' hi hbb hff hll
    obtain ⟨z0, z1, z2, z3⟩ := HBOX.out w' (HB1.out.2.trans hff)
    exact wrule1_any w0 B b w.heap.size (w.heap.size + 1) ps ao n c HX.out.2.2.2.1 i t hi l' w' z0 z2 (HB0.out w' (HB1.out.2.trans hff)) hbb hll
  have hlg : (l ++ nm).length + (givW ps).length ≤ 140737488355328 := by have := HX.out.2.2.1; rw [List.length_append]; omega
  have hly : ps.length ≤ 9223372036854775807 := by have := HX.out.2.2.2.2.2.1; omega
  have H2 := Lib.hid (wgiven_any 48 (.pointer (some ⟨w.heap.size, 0, none⟩)) (.pointer (some ⟨w.heap.size + 1, 0, none⟩)) eg_wrule1 B b ps (l ++ nm) w1 HB1.out.1 hlg hly hone)
  rw [← HX.out.2.2.2.2.2.1] at H2
  clear hone hlg hly hb1 hf1 t1 t3
  go_wp2_with fail
  refine H2.out.mono ?_
  rintro e w2 ⟨rfl, hb2, hf2⟩
  have HB2 := Lib.hid (And.intro hb2 (HB1.out.2.trans hf2))
  clear hb2 hf2 t0 t2
  obtain ⟨t0, t1, t2, t3⟩ := HBOX.out w2 HB2.out.2
  obtain ⟨l2, hl2⟩ : ∃ l2, l ++ nm ++ givW ps = l2 := ⟨_, rfl⟩
  have hl2n : l2.length = l.length + nm.length + (givW ps).length := by rw [← hl2, List.length_append, List.length_append]
  have HL2 := Lib.hid (And.intro hl2 hl2n)
  rw [hl2] at HB2
  clear t0 t1 t2 hl2 hl2n
  go_wp2_with fail
  go_loopg [4, 21] mm (fun gg v4 v wr => ∃ i, i ≤ mm ∧ gg = mm - i ∧ v4 = .string (mkS (ahd i)) ∧ v = .int .i64 i ∧ Bd B b (l2 ++ altsW (als.take i)) wr ∧ Fw B b W wr)
  case atStart => exact ⟨0, by omega, rfl, rfl, rfl, by simpa [altsW] using HB2.out.1, HB2.out.2⟩
  case round =>
    obtain ⟨i, hi, hgi, rfl, rfl, hbd, hfw⟩ := hrel
    have HR := Lib.hid (And.intro hgi (And.intro hbd hfw))
    have hb0 := HB0.out wr hfw
    have hblr := hbd.lt
    obtain ⟨z0, _, _, _⟩ := HBOX.out wr hfw
    clear hgi hbd t3
    by_cases hlt : i < mm
    · obtain ⟨x, hx⟩ : ∃ x, als[i]? = some x := ⟨_, List.getElem?_eq_getElem (by have := HX.out.2.2.2.2.2.2; omega)⟩
      obtain ⟨ga, vs, rfl, hga, hwd, hca⟩ := HX.out.2.2.2.2.1.at_ i x hx
      have hcap := HX.out.2.2.2.2.1.cap (by omega)
      have hft := altsW_take als i x hx
      have hfl := altsW_le als (i + 1)
      have hln : l2.length + (altsW (als.take i)).length + ((ahd i).length + (alW x).length + 1) ≤ 140737488355328 := by
        have h1 := HX.out.2.2.1
        have h2 := HL2.out.2
        rw [hft] at hfl
        simp only [List.length_append, List.length_singleton] at hfl
        omega
      have HLN := Lib.hid (And.intro hft hln)
      have HAX := Lib.hid (fun ww l' hbb hbd hl => walt_any w0 B b hB x vs hwd ww l' hbb hbd hl)
      have hwd0 := hwd
      obtain ⟨ao2, n2, c2, u2, v2, hvs, _⟩ := hwd
      subst hvs
      obtain ⟨Sp, hSp⟩ : ∃ S, mkS x.prec = S := ⟨_, rfl⟩
      obtain ⟨Sa, hSa⟩ : ∃ S, mkS x.action = S := ⟨_, rfl⟩
      obtain ⟨xh, hxh⟩ : ∃ S, x.has = S := ⟨_, rfl⟩
      rw [hSp, hSa, hxh] at hca HAX
      obtain ⟨SA, hSA⟩ : ∃ S, mkS (ahd i) = S := ⟨_, rfl⟩
      have HSA := Lib.hid hSA
      rw [hSA]
      have hcells : ∀ k u, [Value.slice ao2 n2 c2, .string Sp, .bool xh, .string Sa, .int .i64 u2, .int .i64 v2][k]? = some u → wr.cell? ⟨ga, i * 6 + k, none⟩ = some u := fun k u hu => (hb0.cell (p := ⟨ga, i * 6 + k, none⟩) hga).trans (hca k u hu)
      have y0 : wr.cell? ⟨ga, i * 6, none⟩ = some (.slice ao2 n2 c2) := by have := hcells 0 _ rfl; simpa using this
      have y1 := hcells 1 _ rfl
      have y2 := hcells 2 _ rfl
      have y3 := hcells 3 _ rfl
      have y4 := hcells 4 _ rfl
      have y5 := hcells 5 _ rfl
      have hga' : ga < wr.heap.size := Nat.lt_of_lt_of_le hga hb0.size
      have i1 : (i : Int) < (mm : Int) := by omega
      have i0 : (0 : Int) ≤ (i : Int) := by omega
      clear hca hx hft hfl hln hwd0 hSp hSa hxh hSA hcells hfw hga z0
      go_upto_region 7 with fail
      obtain ⟨W2, hW2⟩ : ∃ V, V = wr.alloc (.cells #[.slice ao2 n2 c2, .string Sp, .bool xh, .string Sa, .int .i64 u2, .int .i64 v2] 47) := ⟨_, rfl⟩
      rw [← hW2]
      have hk6 : W2.heap[wr.heap.size]? = some (.cells #[.slice ao2 n2 c2, .string Sp, .bool xh, .string Sa, .int .i64 u2, .int .i64 v2] 47 (0, 0)) := by rw [hW2]; exact heap_alloc_new wr _
      have HF2 : Hid (Fw B b W W2) := by rw [hW2]; exact HR.out.2.2.trans (Fw.alloc HR.out.2.1 _)
      have HB3 : Hid (Bd B b (l2 ++ altsW (als.take i)) W2) := by rw [hW2]; exact HR.out.2.1.alloc _
      have HN3 : Hid (NoB 5 b W2 wr.heap.size) := by rw [hW2]; exact HR.out.2.1.new _ _ (by decide)
      have HK6 := Lib.hid hk6
      obtain ⟨z0, _, _, _⟩ := HBOX.out W2 HF2.out
      have H3 := Lib.hid (wput_one B b (ahd i) SA HSA.out _ W2 HB3.out (by have := HLN.out.2; simp only [List.length_append] at this ⊢; omega))
      clear hW2 hk6 y0 y1 y2 y3 y4 y5
      go_wp2_with fail
      refine H3.out.mono ?_
      rintro e w3 ⟨rfl, hb3, hf3⟩
      obtain ⟨⟨y0, y1, y2, y3, y4, y5⟩, _⟩ := six_facts ((hf3.keep HN3.out).1.trans HK6.out)
      have HF3 := Lib.hid (HF2.out.trans hf3)
      clear z0
      obtain ⟨z0, _, _, _⟩ := HBOX.out w3 HF3.out
      have H4 := Lib.hid (HAX.out w3 _ (HB0.out w3 HF3.out) hb3 (by have := HLN.out.2; simp only [List.length_append] at this ⊢; omega))
      clear hb3 hf3
      go_wp2_with fail
      refine H4.out.mono ?_
      rintro e w4 ⟨rfl, hb4, hf4⟩
      have HF4 := Lib.hid (HF3.out.trans hf4)
      clear z0 y0 y1 y2 y3 y4 y5
      obtain ⟨z0, _, _, _⟩ := HBOX.out w4 HF4.out
      have H5 := Lib.hid (wput_one B b [10] ⟨#[10]⟩ rfl _ w4 hb4 (by have := HLN.out.2; simp only [List.length_append, List.length_singleton] at this ⊢; omega))
      clear hb4 hf4
      go_wp2_with fail
      refine H5.out.mono ?_
      rintro e w5 ⟨rfl, hb5, hf5⟩
      have HB5 := Lib.hid (And.intro hb5 (HF4.out.trans hf5))
      clear hb5 hf5 z0
      go_wp2_with fail
      go_roundg (mm - (i + 1))
      case rel =>
        refine ⟨i + 1, by omega, rfl, ?_, by go_num, ?_, HB5.out.2⟩
        · rfl
        · have := HB5.out.1
          rw [HLN.out.1]
          simpa using this
      case measure => rw [HR.out.1]; omega
    · have i1 : ¬ (i : Int) < (mm : Int) := by omega
      have he : i = mm := by omega
      have hbf : Bd B b (l2 ++ altsW als) wr := by
        have := HR.out.2.1
        rwa [he, HX.out.2.2.2.2.2.2, List.take_length] at this
      have H6 := Lib.hid (wput_one B b [9, 59, 10] ⟨#[9, 59, 10]⟩ rfl _ wr hbf (by
        have h1 := HX.out.2.2.1
        have h2 := HL2.out.2
        simp only [List.length_append, List.length_cons, List.length_nil] at h1 h2 ⊢
        omega))
      have HFR := Lib.hid hfw
      clear hbf hfw hb0
      go_wp2_with fail
      refine H6.out.mono ?_
      rintro e w4 ⟨rfl, hb4, hf4⟩
      have HB4 := Lib.hid (And.intro hb4 (HFR.out.trans hf4))
      clear hb4 hf4
      go_wp2_with fail
      go_end0
      refine ⟨rfl, ?_, HFW.out.trans HB4.out.2⟩
      have := HB4.out.1
      rw [← HL2.out.1] at this
      simpa using this
end Go.Proofs.YtngimijiafnheaaGreat
set_option linter.unusedSimpArgs false
namespace LexT
/-- A blank ahead. -/
def bl32 (s : Bs) : Bs := 32 :: s
end LexT
namespace Go.Proofs.YtngimijiafnheaaGreat
open Go.Instr Go.RowKit LexT
set_option linter.unusedVariables false
set_option maxHeartbeats 8000000 in
theorem wdecl_any (w0 : World) (B b : Nat) (hB : w0.heap.size ≤ B) (x : De) (vs : List Value) (ha : DeAt w0 x vs) (w : World) (l : Bs) (hb : Below w0.heap.size w0 w) (hbd : Bd B b l w) (hl : l.length + (deW x).length ≤ 140737488355328) :
    Calls Tryz.prog 27 #[.pointer (some ⟨b, 0, none⟩), .agg vs.toArray] w fun e w' => e = .returned (.tuple #[]) ∧ Bd B b (l ++ deW x) w' ∧ Fw B b w w' := by
  obtain ⟨kd, ty, ns, p⟩ := x
  obtain ⟨ao, n, c, v, rfl, hp⟩ := ha
  dsimp only at hp
  have hwd : deW ⟨kd, ty, ns, p⟩ = [37] ++ kd ++ (typW ty ++ ((ns.map bl32).flatten ++ [59, 10])) := by
    show 37 :: (kd ++ (typW ty ++ ((ns.map bl32).flatten ++ [59, 10]))) = _
    simp
  rw [hwd] at hl ⊢
  simp only [List.length_append, List.length_cons, List.length_nil] at hl
  have hn := hp.len
  have hns := hp.small
  unfold maxLen at hns
  have hns' : n ≤ 9223372036854775807 := hns
  have hblt := hbd.lt
  have HX := Lib.hid (And.intro hb (And.intro hbd (And.intro hl (And.intro hp hn))))
  obtain ⟨Sk, hSk⟩ : ∃ S, mkS kd = S := ⟨_, rfl⟩
  obtain ⟨St, hSt⟩ : ∃ S, mkS ty = S := ⟨_, rfl⟩
  have HS := Lib.hid (And.intro hSk hSt)
  have hpe : (!St.toList.isEmpty) = !decide (ty = []) := by
    rw [← hSt, Lib.toList_data, mkS_list]
    cases ty <;> rfl
  rw [hSk, hSt]
  clear hb hbd hl hp hwd hSk hSt hn hns
  go_enter Tryz.func27, Tryz.ntmps27
  go_upto_region 1 with fail
  obtain ⟨W, hW⟩ : ∃ V, V = w.alloc (.cells #[.string Sk, .string St, .slice ao n c, .int .i64 v] 41) := ⟨_, rfl⟩
  rw [← hW]
  obtain ⟨hk5, hWs, hBW⟩ := four_new hW
  have HFW : Hid (Fw B b w W) := by rw [hW]; exact Fw.alloc HX.out.2.1 _
  have HBW : Hid (Bd B b l W) := by rw [hW]; exact HX.out.2.1.alloc _
  have HN1 : Hid (NoB 5 b W w.heap.size) := by rw [hW]; exact HX.out.2.1.new _ _ (by decide)
  have HK := Lib.hid hk5
  have HBOX : Hid (∀ ww, Fw B b W ww → ww.heap[w.heap.size]? = some (.cells #[.string Sk, .string St, .slice ao n c, .int .i64 v] 41 (0, 0))) := fun ww hf => (hf.keep HN1.out).1.trans HK.out
  have HB0 : Hid (∀ ww, Fw B b W ww → Below w0.heap.size w0 ww) := fun ww hf => (HX.out.1.trans (HFW.out.below.mono hB)).trans (hf.below.mono hB)
  obtain ⟨⟨t0, t1, t2, t3⟩, _⟩ := four_facts hk5
  have H1 := Lib.hid (wput_two B b [37] kd ⟨#[37]⟩ Sk rfl HS.out.1 l W HBW.out (by have := HX.out.2.2.1; simp only [List.length_append, List.length_cons, List.length_nil]; omega))
  clear hW hk5 hWs hBW t1 t2 t3
  go_wp2_with fail
  refine H1.out.mono ?_
  rintro e w1 ⟨rfl, hb1, hf1⟩
  have HB1 := Lib.hid (And.intro hb1 hf1)
  clear t0
  obtain ⟨⟨t0, t1, t2, t3⟩, _⟩ := four_facts (HBOX.out w1 hf1)
  clear t0 t3 hb1 hf1
  have HLOOP : Hid (∃ l2, l ++ ([37] ++ kd) ++ typW ty = l2) := ⟨_, rfl⟩
  obtain ⟨l2, hl2⟩ := HLOOP.out
  have hl2n : l2.length = l.length + (kd.length + 1) + (typW ty).length := by rw [← hl2]; simp only [List.length_append, List.length_cons, List.length_nil]; omega
  have HL2 := Lib.hid (And.intro hl2 hl2n)
  clear hl2 hl2n HLOOP
  by_cases hp : ty = []
  case' pos =>
    have hpt : (!St.toList.isEmpty) = false := by rw [hpe]; simp [hp]
    have hpw : typW ty = [] := by unfold typW; rw [if_pos hp]
    obtain ⟨w2, hw2⟩ : ∃ V, V = w1 := ⟨_, rfl⟩
    have HB2 : Hid (Bd B b l2 w2 ∧ Fw B b W w2) := by
      rw [hw2, ← HL2.out.1, hpw, List.append_nil]; exact HB1.out
    rw [← hw2] at t1 t2 ⊢
    clear hpe hp hpw hw2
    go_wp2_with fail
  case' neg =>
    have hpt : (!St.toList.isEmpty) = true := by rw [hpe]; simp [hp]
    have hpw : typW ty = [32, 60] ++ (ty ++ [62]) := by unfold typW; rw [if_neg hp]
    have H3 := Lib.hid (wput_three B b [32, 60] ty [62] ⟨#[32, 60]⟩ St ⟨#[62]⟩ rfl HS.out.2 rfl _ w1 HB1.out.1 (by have h1 := HX.out.2.2.1; rw [hpw] at h1; simp only [List.length_append, List.length_cons, List.length_nil] at h1 ⊢; omega))
    rw [← hpw, HL2.out.1] at H3
    clear hpe hp hpw
    go_wp2_with fail
    refine H3.out.mono ?_
    rintro e w2 ⟨rfl, hb2, hf2⟩
    have HB2 := Lib.hid (And.intro hb2 (HB1.out.2.trans hf2))
    clear t1 t2
    obtain ⟨⟨t0, t1, t2, t3⟩, _⟩ := four_facts (HBOX.out w2 HB2.out.2)
    clear t0 t3 hb2 hf2
    go_wp2_with fail
  all_goals
    go_loopg [22] n (fun gg v wr => ∃ i, i ≤ n ∧ gg = n - i ∧ v = .int .i64 i ∧ Bd B b (l2 ++ ((ns.take i).map bl32).flatten) wr ∧ Fw B b W wr)
    case atStart => exact ⟨0, by omega, rfl, rfl, by simpa using HB2.out.1, HB2.out.2⟩
    case round =>
      obtain ⟨i, hi, hgi, rfl, hbd, hfw⟩ := hrel
      have HR := Lib.hid (And.intro hgi (And.intro hbd hfw))
      have hb0 := HB0.out wr hfw
      have hblr := hbd.lt
      clear hgi hbd t2
      by_cases hlt : i < n
      · obtain ⟨x, hx⟩ : ∃ x, ns[i]? = some x := ⟨_, List.getElem?_eq_getElem (by have := HX.out.2.2.2.2; omega)⟩
        obtain ⟨ga, vs, rfl, hga, hwd, hca⟩ := HX.out.2.2.2.1.at_ i x hx
        have hcap := HX.out.2.2.2.1.cap (by omega)
        have hwd : vs = [.string (mkS x)] := hwd
        subst hwd
        have hft : ((ns.take (i + 1)).map bl32).flatten = ((ns.take i).map bl32).flatten ++ ([32] ++ x) := flat_take bl32 ns i x hx
        have hfl := flat_le bl32 ns (i + 1)
        have hln : (l2 ++ ((ns.take i).map bl32).flatten).length + ([32] ++ x).length ≤ 140737488355328 := by
          have h1 := HX.out.2.2.1
          have h2 := HL2.out.2
          rw [hft] at hfl
          simp only [List.length_append, List.length_cons, List.length_nil] at hfl ⊢
          omega
        have HFT := Lib.hid hft
        obtain ⟨X, hX⟩ : ∃ S, mkS x = S := ⟨_, rfl⟩
        have H4 := Lib.hid (wput_two B b [32] x ⟨#[32]⟩ X rfl hX _ wr HR.out.2.1 hln)
        have ka0 : wr.cell? ⟨ga, i, none⟩ = some (.string X) := (hb0.cell (p := ⟨ga, i, none⟩) hga).trans (by rw [← hX]; have := hca 0 _ rfl; simpa using this)
        have hga' : ga < wr.heap.size := Nat.lt_of_lt_of_le hga hb0.size
        have i1 : (i : Int) < (n : Int) := by omega
        have i0 : (0 : Int) ≤ (i : Int) := by omega
        clear hca hx hft hfl hln hX hfw hga hb0
        go_wp2_with fail
        refine H4.out.mono ?_
        rintro e w3 ⟨rfl, hb3, hf3⟩
        have HB3 := Lib.hid (And.intro hb3 (HR.out.2.2.trans hf3))
        clear hb3 hf3 ka0
        go_wp2_with fail
        go_roundg (n - (i + 1))
        case rel =>
          refine ⟨i + 1, by omega, rfl, by go_num, ?_, HB3.out.2⟩
          have := HB3.out.1
          rw [HFT.out]
          simpa using this
        case measure => rw [HR.out.1]; omega
      · have i1 : ¬ (i : Int) < (n : Int) := by omega
        have he : i = n := by omega
        have hbf : Bd B b (l2 ++ (ns.map bl32).flatten) wr := by
          have := HR.out.2.1
          rwa [he, HX.out.2.2.2.2, List.take_length] at this
        have H6 := Lib.hid (wput_one B b [59, 10] ⟨#[59, 10]⟩ rfl _ wr hbf (by
          have h1 := HX.out.2.2.1
          have h2 := HL2.out.2
          simp only [List.length_append, List.length_cons, List.length_nil] at h1 h2 ⊢
          omega))
        clear hbf hfw hb0
        go_wp2_with fail
        refine H6.out.mono ?_
        rintro e w4 ⟨rfl, hb4, hf4⟩
        have HB4 := Lib.hid (And.intro hb4 (HR.out.2.2.trans hf4))
        clear hb4 hf4
        go_wp2_with fail
        go_end0
        refine ⟨rfl, ?_, HFW.out.trans HB4.out.2⟩
        have := HB4.out.1
        rw [← HL2.out.1] at this
        simpa using this
set_option maxHeartbeats 8000000 in
theorem wtext_any (w0 : World) (B b : Nat) (hB : w0.heap.size ≤ B) (x : Tx) (vs : List Value) (ha : TxAt w0 x vs) (w : World) (l : Bs) (hb : Below w0.heap.size w0 w) (hbd : Bd B b l w) (hl : l.length + (txW x).length ≤ 140737488355328) :
    Calls Tryz.prog 16 #[.pointer (some ⟨b, 0, none⟩), .agg vs.toArray] w fun e w' => e = .returned (.tuple #[]) ∧ Bd B b (l ++ txW x) w' ∧ Fw B b w w' := by
  obtain ⟨ds, rs⟩ := x
  obtain ⟨ao, n, c, bo, mm, d, rfl, hp, hr⟩ := ha
  dsimp only at hp hr
  have hwd : txW ⟨ds, rs⟩ = (ds.map deW).flatten ++ ([37, 37, 10] ++ (rs.map ruW).flatten) := rfl
  rw [hwd] at hl ⊢
  simp only [List.length_append, List.length_cons, List.length_nil] at hl
  have hn := hp.len
  have hns := hp.small
  have hm1 := hr.len
  have hms := hr.small
  unfold maxLen at hns hms
  have hns' : n ≤ 9223372036854775807 := hns
  have hms' : mm ≤ 9223372036854775807 := hms
  have hblt := hbd.lt
  have HX := Lib.hid (And.intro hb (And.intro hbd (And.intro hl (And.intro hp (And.intro hr (And.intro hn hm1))))))
  clear hb hbd hl hp hr hwd hn hm1 hns hms
  go_enter Tryz.func16, Tryz.ntmps16
  go_upto_region 1 with fail
  obtain ⟨W, hW⟩ : ∃ V, V = w.alloc (.cells #[.slice ao n c, .slice bo mm d] 25) := ⟨_, rfl⟩
  rw [← hW]
  obtain ⟨hk5, hWs, hBW⟩ := two_new hW
  have HFW : Hid (Fw B b w W) := by rw [hW]; exact Fw.alloc HX.out.2.1 _
  have HBW : Hid (Bd B b l W) := by rw [hW]; exact HX.out.2.1.alloc _
  have HN1 : Hid (NoB 5 b W w.heap.size) := by rw [hW]; exact HX.out.2.1.new _ _ (by decide)
  have HK := Lib.hid hk5
  have HBOX : Hid (∀ ww, Fw B b W ww → ww.heap[w.heap.size]? = some (.cells #[.slice ao n c, .slice bo mm d] 25 (0, 0))) := fun ww hf => (hf.keep HN1.out).1.trans HK.out
  have HB0 : Hid (∀ ww, Fw B b W ww → Below w0.heap.size w0 ww) := fun ww hf => (HX.out.1.trans (HFW.out.below.mono hB)).trans (hf.below.mono hB)
  obtain ⟨⟨t0, t1⟩, _⟩ := two_facts hk5
  clear hW hk5 hWs hBW t1
  go_wp2_with fail
  go_loopg [11] n (fun gg v wr => ∃ i, i ≤ n ∧ gg = n - i ∧ v = .int .i64 i ∧ Bd B b (l ++ ((ds.take i).map deW).flatten) wr ∧ Fw B b W wr)
  case atStart => exact ⟨0, by omega, rfl, rfl, by simpa using HBW.out, Fw.refl _ _ _⟩
  case round =>
    obtain ⟨i, hi, hgi, rfl, hbd, hfw⟩ := hrel
    have HR := Lib.hid (And.intro hgi (And.intro hbd hfw))
    have hb0 := HB0.out wr hfw
    have hblr := hbd.lt
    clear hgi hbd t0
    by_cases hlt : i < n
    · obtain ⟨x, hx⟩ : ∃ x, ds[i]? = some x := ⟨_, List.getElem?_eq_getElem (by have := HX.out.2.2.2.2.2.1; omega)⟩
      obtain ⟨ga, vs, rfl, hga, hwd, hca⟩ := HX.out.2.2.2.1.at_ i x hx
      have hcap := HX.out.2.2.2.1.cap (by omega)
      have hft := flat_take deW ds i x hx
      have hfl := flat_le deW ds (i + 1)
      have hln : (l ++ ((ds.take i).map deW).flatten).length + (deW x).length ≤ 140737488355328 := by
        have h1 := HX.out.2.2.1
        rw [hft] at hfl
        simp only [List.length_append] at hfl ⊢
        omega
      have HFT := Lib.hid hft
      have HAX := Lib.hid (fun ww hbb hbd => wdecl_any w0 B b hB x vs hwd ww _ hbb hbd hln)
      obtain ⟨ao2, n2, c2, v2, hvs, _⟩ := hwd
      subst hvs
      obtain ⟨Sp, hSp⟩ : ∃ S, mkS x.kind = S := ⟨_, rfl⟩
      obtain ⟨Sa, hSa⟩ : ∃ S, mkS x.type = S := ⟨_, rfl⟩
      rw [hSp, hSa] at hca HAX
      have hcells : ∀ k u, [Value.string Sp, .string Sa, .slice ao2 n2 c2, .int .i64 v2][k]? = some u → wr.cell? ⟨ga, i * 4 + k, none⟩ = some u := fun k u hu => (hb0.cell (p := ⟨ga, i * 4 + k, none⟩) hga).trans (hca k u hu)
      have z0 : wr.cell? ⟨ga, i * 4, none⟩ = some (.string Sp) := by have := hcells 0 _ rfl; simpa using this
      have z1 := hcells 1 _ rfl
      have z2 := hcells 2 _ rfl
      have z3 := hcells 3 _ rfl
      have hga' : ga < wr.heap.size := Nat.lt_of_lt_of_le hga hb0.size
      have i1 : (i : Int) < (n : Int) := by omega
      have i0 : (0 : Int) ≤ (i : Int) := by omega
      clear hca hx hft hfl hln hcells hSp hSa hfw hga
      go_upto_region 4 with fail
      obtain ⟨W2, hW2⟩ : ∃ V, V = wr.alloc (.cells #[.string Sp, .string Sa, .slice ao2 n2 c2, .int .i64 v2] 41) := ⟨_, rfl⟩
      rw [← hW2]
      obtain ⟨hk6, hWs6, hBW6⟩ := four_new hW2
      obtain ⟨⟨y0, y1, y2, y3⟩, _⟩ := four_facts hk6
      have HF2 : Hid (Fw B b W W2) := by rw [hW2]; exact HR.out.2.2.trans (Fw.alloc HR.out.2.1 _)
      have HB2 : Hid (Bd B b (l ++ ((ds.take i).map deW).flatten) W2) := by rw [hW2]; exact HR.out.2.1.alloc _
      have H2 := Lib.hid (HAX.out W2 (HB0.out W2 HF2.out) HB2.out)
      clear hW2 hk6 hWs6 hBW6 z0 z1 z2 z3 hb0
      go_wp2_with fail
      refine H2.out.mono ?_
      rintro e w4 ⟨rfl, hb4, hf4⟩
      have HB4 := Lib.hid (And.intro hb4 (HF2.out.trans hf4))
      clear hb4 hf4 y0 y1 y2 y3
      go_wp2_with fail
      go_roundg (n - (i + 1))
      case rel => exact ⟨i + 1, by omega, rfl, by go_num, by rw [HFT.out, ← List.append_assoc]; exact HB4.out.1, HB4.out.2⟩
      case measure => rw [HR.out.1]; omega
    · have i1 : ¬ (i : Int) < (n : Int) := by omega
      have he : i = n := by omega
      have hbf : Bd B b (l ++ (ds.map deW).flatten) wr := by
        have := HR.out.2.1
        rwa [he, HX.out.2.2.2.2.2.1, List.take_length] at this
      have H6 := Lib.hid (wput_one B b [37, 37, 10] ⟨#[37, 37, 10]⟩ rfl _ wr hbf (by
        have h1 := HX.out.2.2.1
        simp only [List.length_append, List.length_cons, List.length_nil] at h1 ⊢
        omega))
      clear hbf hb0
      have HFR := Lib.hid hfw
      clear hfw hi
      obtain ⟨wq, rfl⟩ : ∃ V, V = wr := ⟨_, rfl⟩
      go_wp2_with fail
      refine H6.out.mono ?_
      rintro e w1 ⟨rfl, hb1, hf1⟩
      have HB1 := Lib.hid (And.intro hb1 (HFR.out.trans hf1))
      obtain ⟨⟨t0, t1⟩, _⟩ := two_facts (HBOX.out w1 HB1.out.2)
      obtain ⟨l2, hl2⟩ : ∃ l2, l ++ (ds.map deW).flatten ++ [37, 37, 10] = l2 := ⟨_, rfl⟩
      have hl2n : l2.length = l.length + (ds.map deW).flatten.length + 3 := by rw [← hl2]; simp only [List.length_append, List.length_cons, List.length_nil]
      have HL2 := Lib.hid (And.intro hl2 hl2n)
      rw [hl2] at HB1
      clear hb1 hf1 t0 hl2 hl2n
      go_wp2_with fail
      go_loopg [25] mm (fun gg v wr => ∃ i, i ≤ mm ∧ gg = mm - i ∧ v = .int .i64 i ∧ Bd B b (l2 ++ ((rs.take i).map ruW).flatten) wr ∧ Fw B b W wr)
      case atStart => exact ⟨0, by omega, rfl, rfl, by simpa using HB1.out.1, HB1.out.2⟩
      case round =>
        obtain ⟨j, hj, hgj, rfl, hbd, hfw⟩ := hrel
        have HR2 := Lib.hid (And.intro hgj (And.intro hbd hfw))
        have hb0 := HB0.out wr hfw
        have hblr := hbd.lt
        clear hgj hbd t1
        by_cases hlt2 : j < mm
        · obtain ⟨x, hx⟩ : ∃ x, rs[j]? = some x := ⟨_, List.getElem?_eq_getElem (by have := HX.out.2.2.2.2.2.2; omega)⟩
          obtain ⟨ga, vs, rfl, hga, hwd, hca⟩ := HX.out.2.2.2.2.1.at_ j x hx
          have hcap := HX.out.2.2.2.2.1.cap (by omega)
          have hft := flat_take ruW rs j x hx
          have hfl := flat_le ruW rs (j + 1)
          have hln : (l2 ++ ((rs.take j).map ruW).flatten).length + (ruW x).length ≤ 140737488355328 := by
            have h1 := HX.out.2.2.1
            have h2 := HL2.out.2
            rw [hft] at hfl
            simp only [List.length_append] at hfl ⊢
            omega
          have HFT := Lib.hid hft
          have HAX := Lib.hid (fun ww hbb hbd => wrule_any w0 B b hB x vs hwd ww _ hbb hbd hln)
          obtain ⟨ao2, n2, c2, bo2, m2, d2, v2, hvs, _⟩ := hwd
          subst hvs
          obtain ⟨Sp, hSp⟩ : ∃ S, mkS x.name = S := ⟨_, rfl⟩
          rw [hSp] at hca HAX
          have hcells : ∀ k u, [Value.string Sp, .slice ao2 n2 c2, .slice bo2 m2 d2, .int .i64 v2][k]? = some u → wr.cell? ⟨ga, j * 4 + k, none⟩ = some u := fun k u hu => (hb0.cell (p := ⟨ga, j * 4 + k, none⟩) hga).trans (hca k u hu)
          have z0 : wr.cell? ⟨ga, j * 4, none⟩ = some (.string Sp) := by have := hcells 0 _ rfl; simpa using this
          have z1 := hcells 1 _ rfl
          have z2 := hcells 2 _ rfl
          have z3 := hcells 3 _ rfl
          have hga' : ga < wr.heap.size := Nat.lt_of_lt_of_le hga hb0.size
          have i1 : (j : Int) < (mm : Int) := by omega
          have i0 : (0 : Int) ≤ (j : Int) := by omega
          clear hca hx hft hfl hln hcells hSp hfw hga
          go_upto_region 10 with fail
          obtain ⟨W2, hW2⟩ : ∃ V, V = wr.alloc (.cells #[.string Sp, .slice ao2 n2 c2, .slice bo2 m2 d2, .int .i64 v2] 44) := ⟨_, rfl⟩
          rw [← hW2]
          obtain ⟨hk6, hWs6, hBW6⟩ := four_new hW2
          obtain ⟨⟨y0, y1, y2, y3⟩, _⟩ := four_facts hk6
          have HF2 : Hid (Fw B b W W2) := by rw [hW2]; exact HR2.out.2.2.trans (Fw.alloc HR2.out.2.1 _)
          have HB2 : Hid (Bd B b (l2 ++ ((rs.take j).map ruW).flatten) W2) := by rw [hW2]; exact HR2.out.2.1.alloc _
          have H2 := Lib.hid (HAX.out W2 (HB0.out W2 HF2.out) HB2.out)
          clear hW2 hk6 hWs6 hBW6 z0 z1 z2 z3 hb0
          go_wp2_with fail
          refine H2.out.mono ?_
          rintro e w4 ⟨rfl, hb4, hf4⟩
          have HB4 := Lib.hid (And.intro hb4 (HF2.out.trans hf4))
          clear hb4 hf4 y0 y1 y2 y3
          go_wp2_with fail
          go_roundg (mm - (j + 1))
          case rel => exact ⟨j + 1, by omega, rfl, by go_num, by rw [HFT.out, ← List.append_assoc]; exact HB4.out.1, HB4.out.2⟩
          case measure => rw [HR2.out.1]; omega
        · have i1 : ¬ (j : Int) < (mm : Int) := by omega
          have he2 : j = mm := by omega
          have hbf : Bd B b (l2 ++ (rs.map ruW).flatten) wr := by
            have := HR2.out.2.1
            rwa [he2, HX.out.2.2.2.2.2.2, List.take_length] at this
          have HBF := Lib.hid hbf
          clear hbf hfw hb0
          go_wp2_with fail
          go_end0
          refine ⟨rfl, ?_, HFW.out.trans HR2.out.2.2⟩
          have := HBF.out
          rw [← HL2.out.1] at this
          simpa using this
end Go.Proofs.YtngimijiafnheaaGreat
