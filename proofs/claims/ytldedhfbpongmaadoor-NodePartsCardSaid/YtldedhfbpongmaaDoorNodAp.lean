/- Right: each over its own visitor; what is asked of a whole tree. -/
import Derived.Test.YtldedhfbpongmaaDoorNodAo
set_option maxRecDepth 100000
namespace NodT
open Go Go.RowKit
set_option linter.unusedVariables false
/-- What a visit asks but for the count. -/
def locB (rk : Nat) (d : Nat) (t : Nd) : Bool := decide (d ≤ 60) && (!(t.kind == 35) || rk == 9) && decide (0 ≤ t.place) && textB t.kind t.text && numB t.kind t.num && kidsB t
mutual
def okT (rk : Nat) : Nat → Nd → Bool | d, .mk k s n p a c ks => locB rk d (.mk k s n p a c ks) && okL rk (d + 1) ks
def okL (rk : Nat) : Nat → List Nd → Bool | _, [] => true | d, t :: ts => okT rk d t && okL rk d ts
end
theorem okT_eq (rk d : Nat) (t : Nd) : okT rk d t = (locB rk d t && okL rk (d + 1) t.kids) := by cases t; rfl
theorem okL_all (rk d : Nat) (ts : List Nd) : okL rk d ts = ts.all (okT rk d) := by
  induction ts with
  | nil => rfl
  | cons t ts ih => simp only [okL, List.all_cons, ih]
theorem visit_eq (rk : Nat) (m : Int) (d : Nat) (t : Nd) : visitB rk m (d : Int) t = (decide (m + (t.kids.length : Int) ≤ 32768) && locB rk d t) := by
  unfold visitB locB
  have : decide ((d : Int) ≤ 60) = decide (d ≤ 60) := by simp; omega
  rw [this]
  simp only [Bool.and_assoc]
/-- What Right asks of all nodes, the root's kind aside. -/
def allB (rk : Nat) (t : Nd) : Bool := okT rk 1 t && decide (many t ≤ 32768)
def okS (rk : Nat) (S : List Lk) : Bool := S.all fun x => okT rk x.2 x.1
theorem okS_append (rk : Nat) (a b : List Lk) : okS rk (a ++ b) = (okS rk a && okS rk b) := by simp [okS]
theorem okS_put (rk d : Nat) (ts : List Nd) : okS rk (put6 d ts) = okL rk d ts := by
  rw [okL_all]
  simp [okS, put6, Function.comp_def]
theorem fst_le (S : List Lk) : S.length ≤ manyL (S.map Prod.fst) := by
  have := length_le_manyL (S.map Prod.fst)
  simpa using this
/-- What the visitor of Right keeps. -/
structure RJ (t : Nd) (rk g bm bn : Nat) (S : List Lk) (W : World) : Prop where
  ops : OpsAt g W
  ne : g ≠ bm
  cn : W.cell? ⟨bn, 0, none⟩ = some (.int .u8 rk)
  m : ∃ m : Nat, W.cell? ⟨bm, 0, none⟩ = some (.int .i64 (m : Int)) ∧ m ≤ 32768 ∧ allB rk t = (okS rk S && decide (m + manyL (S.map Prod.fst) ≤ 32768 + S.length))
  fm : W.frozen? ⟨bm, 0, none⟩ = false
theorem RJ.stop {t : Nd} {rk g bm bn : Nat} {W : World} (h : RJ t rk g bm bn [] W) : allB rk t = true := by
  obtain ⟨m, _, h1, h2⟩ := h.m
  rw [h2]
  simp [okS, manyL]
  omega
theorem OpsAt.block {g : Nat} {w w' : World} (h : OpsAt g w) (hb : w'.heap[g]? = w.heap[g]?) : OpsAt g w' := by
  obtain ⟨t, fr, h⟩ := h
  exact ⟨t, fr, hb.trans h⟩
theorem OpsAt.lt {g : Nat} {w : World} (h : OpsAt g w) : g < w.heap.size := by
  obtain ⟨t, fr, h⟩ := h
  exact (Array.getElem?_eq_some_iff.1 h).1
theorem RJ.keep {t : Nd} {rk g bm bn B : Nat} {S : List Lk} {W W' : World} (h : RJ t rk g bm bn S W) (hb : Below B W W') (hg : g < B) (hm : bm < B) (hn : bn < B) : RJ t rk g bm bn S W' := by
  obtain ⟨h1, h2, h3, ⟨m, h4, h5⟩, h6⟩ := h
  exact ⟨h1.block (hb.block g hg), h2, (hb.cell (by exact hn)).trans h3, ⟨m, (hb.cell (by exact hm)).trans h4, h5⟩, (hb.frozen (by exact hm)).trans h6⟩
theorem all_start (rk : Nat) (t : Nd) : allB rk t = (okS rk [(t, 1)] && decide (1 + manyL ([((t, 1) : Lk)].map Prod.fst) ≤ 32768 + 1)) := by
  simp [allB, okS, manyL]
  congr 1
  simp
  omega
theorem all_step {rk m : Nat} {S : List Lk} {x : Lk} {q : Bool} (h : q = (okS rk (S ++ [x]) && decide (m + manyL ((S ++ [x]).map Prod.fst) ≤ 32768 + (S ++ [x]).length))) (hv : visitB rk (m : Int) (x.2 : Int) x.1 = true) :
    m + x.1.kids.length ≤ 32768 ∧ q = (okS rk (S ++ put6 (x.2 + 1) x.1.kids) && decide (m + x.1.kids.length + manyL ((S ++ put6 (x.2 + 1) x.1.kids).map Prod.fst) ≤ 32768 + (S ++ put6 (x.2 + 1) x.1.kids).length)) := by
  rw [visit_eq] at hv
  simp only [Bool.and_eq_true, decide_eq_true_eq] at hv
  refine ⟨by omega, ?_⟩
  rw [h, okS_append, okS_append, okS_put, manyL_put]
  have h1 : okS rk [x] = okL rk (x.2 + 1) x.1.kids := by simp [okS, okT_eq, hv.2]
  rw [h1]
  congr 1
  simp only [List.map_append, manyL_append, List.map_cons, List.map_nil, manyL, List.length_append, List.length_cons, List.length_nil, put6_length]
  rw [many_eq, decide_eq_decide]
  omega
theorem all_not {rk m : Nat} {S : List Lk} {x : Lk} {q : Bool} (h : q = (okS rk (S ++ [x]) && decide (m + manyL ((S ++ [x]).map Prod.fst) ≤ 32768 + (S ++ [x]).length))) (hv : visitB rk (m : Int) (x.2 : Int) x.1 = false) : q = false := by
  rw [visit_eq] at hv
  rw [h]
  rcases Bool.and_eq_false_iff.1 hv with hv | hv
  · have h1 := fst_le S
    have h2 := length_le_manyL x.1.kids
    rw [Bool.and_eq_false_iff]
    right
    simp only [decide_eq_false_iff_not] at hv
    simp only [List.map_append, manyL_append, List.map_cons, List.map_nil, manyL, List.length_append, List.length_cons, List.length_nil, many_eq, decide_eq_false_iff_not]
    omega
  · rw [okS_append, show okS rk [x] = false from by simp [okS, okT_eq, hv]]
    simp
end NodT
namespace Go.Proofs.YtldedhfbpongmaaDoor
open Go.Instr Go.RowKit NodT
set_option linter.unusedVariables false
theorem each_all (t : Nd) (w : World) (B bm bn rk : Nat) (h : In w B t) (hB : B ≤ w.heap.size) (hBm : B ≤ bm) (hm : many t ≤ 1000000) (hrk : rk < 256) (hne : bm ≠ bn) (ho : OpsAt 0 w) (hob : 0 < bm)
    (cm : w.cell? ⟨bm, 0, none⟩ = some (.int .i64 1)) (fm : w.frozen? ⟨bm, 0, none⟩ = false) (cn : w.cell? ⟨bn, 0, none⟩ = some (.int .u8 rk)) :
    Calls Tryd.prog 19 #[t.val, .func (.func 25) #[] #[.pointer (some ⟨bm, 0, none⟩), .pointer (some ⟨bn, 0, none⟩)]] w fun e w' =>
      (e = .returned (.tuple #[]) ∧ w.grownBy w' (some bm) ∧ allB rk t = true) ∨ (e = .panicked misfits ∧ w.grownBy w' (some bm) ∧ allB rk t = false) := by
  have hbm : bm < w.heap.size := World.block_lt_of_cell? _ _ cm
  have hbn : bn < w.heap.size := World.block_lt_of_cell? _ _ cn
  have hj0 : RJ t rk 0 bm bn [(t, 1)] w := ⟨ho, by omega, cn, ⟨1, cm, by omega, all_start rk t⟩, fm⟩
  refine (each_right t w B bm bn (RJ t rk 0 bm bn) (allB rk t = false) h hB hBm hbm hm hj0 (fun S W W' hj hb _ => hj.keep hb (by omega) hbm hbn) ?_).mono ?_
  · intro S x W hj hx hsz hd hl
    obtain ⟨h1, h2, h3, ⟨m, h4, h5, h6⟩, h7⟩ := hj
    refine (Right2_any x.1 (x.2 : Int) (m : Int) rk bm bn B W (by omega) (by omega) (by omega) (by omega) (by omega) hrk h4 h7 h3 hne h1 hob hx hBm).mono ?_
    rintro e w' (⟨hv, rfl, hg, c1, c2⟩ | ⟨hv, rfl, hg⟩)
    · obtain ⟨k1, k2⟩ := all_step h6 hv
      exact .inl ⟨rfl, hg, h1.block (hg.block _ h1.lt (by intro h; injection h; omega)), h2, (World.cell?_of_block (hg.block bn (by have := h3; exact World.block_lt_of_cell? _ _ this) (by intro h; injection h; omega))).trans h3, ⟨m + x.1.kids.length, by rw [c1]; simp, k1, k2⟩, c2⟩
    · exact .inr ⟨rfl, hg, all_not h6 hv⟩
  · rintro e w' (⟨rfl, hg, hj⟩ | ⟨rfl, hg, ho⟩)
    · exact .inl ⟨rfl, hg, hj.stop⟩
    · exact .inr ⟨rfl, hg, ho⟩
end Go.Proofs.YtldedhfbpongmaaDoor
