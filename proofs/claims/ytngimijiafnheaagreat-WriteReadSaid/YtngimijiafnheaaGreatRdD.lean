/- isNext, take, must, at, takes, need, name. -/
import Derived.Test.YtngimijiafnheaaGreatRdC
set_option maxRecDepth 100000
set_option linter.unusedSimpArgs false
namespace LexT
open Go Go.RowKit
set_option linter.unusedVariables false
/-- Texts that lie in a row. -/
def TxtAt (w : World) (g : Nat) (xs : List Bs) : Prop := g < w.heap.size ∧ ∀ j, j < (xs.map mkS).length → w.cell? ⟨g, 0 + j, none⟩ = some (.string ((xs.map mkS).getD j ByteArray.empty))
theorem TxtAt.under {w w' : World} {g : Nat} {xs : List Bs} (h : TxtAt w g xs) (hb : Below w.heap.size w w') : TxtAt w' g xs :=
  ⟨Nat.lt_of_lt_of_le h.1 hb.size, fun j hj => (hb.cell (p := ⟨g, 0 + j, none⟩) h.1).trans (h.2 j hj)⟩
theorem TxtAt.new (w : World) (T : TypeId) (xs : List Bs) (g : Nat) (hg : w.heap.size = g) : TxtAt (w.alloc (.cells (xs.map fun t => Value.string (mkS t)).toArray T)) g xs := by
  subst hg
  refine ⟨by simp, fun j hj => ?_⟩
  rw [List.length_map] at hj
  rw [World.cell?_alloc_new]
  simp [hj]
theorem grown_under {w w' : World} (h : Below w.heap.size w w') (b : Nat) : w.grownBy w' (some b) := grown_below h _
theorem grown_then {x y z : World} {r : Option Nat} (h : x.grownBy y r) (hb : Below x.heap.size y z) : x.grownBy z r :=
  ⟨hb.os.trans h.os, hb.tape.trans h.tape, hb.output.trans h.output, Nat.le_trans h.size hb.size, fun k hk hne => (hb.block k hk).trans (h.block k hk hne)⟩
/-- Three stores into a block of the call's own, and a block more. -/
theorem three_below (B : Nat) (w : World) (p : Nat) (x y z : Value) (o : Obj) (hp : B ≤ p) (hs : B ≤ w.heap.size) : Below B w ((((w.setCell ⟨p, 0, none⟩ x).setCell ⟨p, 1, none⟩ y).setCell ⟨p, 2, none⟩ z).alloc o) :=
  ((((Below.refl B w).setCell (p := ⟨p, 0, none⟩) hp x).setCell (p := ⟨p, 1, none⟩) hp y).setCell (p := ⟨p, 2, none⟩) hp z).alloc (by simpa [World.setCell] using hs) o
theorem three_cells {X : World} {p : Nat} {a0 a1 a2 : Value} (h0 : X.cell? ⟨p, 0, none⟩ = some a0) (h1 : X.cell? ⟨p, 1, none⟩ = some a1) (h2 : X.cell? ⟨p, 2, none⟩ = some a2) (x y z : Value) :
    (((X.setCell ⟨p, 0, none⟩ x).setCell ⟨p, 1, none⟩ y).setCell ⟨p, 2, none⟩ z).cell? ⟨p, 0, none⟩ = some x ∧ (((X.setCell ⟨p, 0, none⟩ x).setCell ⟨p, 1, none⟩ y).setCell ⟨p, 2, none⟩ z).cell? ⟨p, 1, none⟩ = some y ∧ (((X.setCell ⟨p, 0, none⟩ x).setCell ⟨p, 1, none⟩ y).setCell ⟨p, 2, none⟩ z).cell? ⟨p, 2, none⟩ = some z := by
  simp [go_sem, h0, h1, h2]
theorem three_more {X : World} {p : Nat} {a0 a1 a2 : Value} (h0 : X.cell? ⟨p, 0, none⟩ = some a0) (h1 : X.cell? ⟨p, 1, none⟩ = some a1) (h2 : X.cell? ⟨p, 2, none⟩ = some a2) (x y z : Value) (o : Obj) :
    ((((X.setCell ⟨p, 0, none⟩ x).setCell ⟨p, 1, none⟩ y).setCell ⟨p, 2, none⟩ z).alloc o).cell? ⟨p, 0, none⟩ = some x ∧ ((((X.setCell ⟨p, 0, none⟩ x).setCell ⟨p, 1, none⟩ y).setCell ⟨p, 2, none⟩ z).alloc o).cell? ⟨p, 1, none⟩ = some y ∧ ((((X.setCell ⟨p, 0, none⟩ x).setCell ⟨p, 1, none⟩ y).setCell ⟨p, 2, none⟩ z).alloc o).cell? ⟨p, 2, none⟩ = some z := by
  have hp := World.block_lt_of_cell? _ _ h0
  have hl : p < (((X.setCell ⟨p, 0, none⟩ x).setCell ⟨p, 1, none⟩ y).setCell ⟨p, 2, none⟩ z).heap.size := by simpa [World.setCell] using hp
  obtain ⟨e0, e1, e2⟩ := three_cells h0 h1 h2 x y z
  exact ⟨(World.cell?_alloc_lt _ _ _ hl).trans e0, (World.cell?_alloc_lt _ _ _ hl).trans e1, (World.cell?_alloc_lt _ _ _ hl).trans e2⟩
theorem three_facts {w : World} {p : Nat} {a0 a1 a2 : Value} {T : TypeId} (h : w.heap[p]? = some (.cells #[a0, a1, a2] T (0, 0))) :
    (w.cell? ⟨p, 0, none⟩ = some a0 ∧ w.cell? ⟨p, 1, none⟩ = some a1 ∧ w.cell? ⟨p, 2, none⟩ = some a2) ∧ (w.frozen? ⟨p, 0, none⟩ = false ∧ w.frozen? ⟨p, 1, none⟩ = false ∧ w.frozen? ⟨p, 2, none⟩ = false) := by
  refine ⟨⟨?_, ?_, ?_⟩, ?_, ?_, ?_⟩ <;> simp [World.cell?, World.frozen?, h]
theorem three_low (B : Nat) (w : World) (p : Nat) (x y z : Value) (hp : B ≤ p) : Below B w (((w.setCell ⟨p, 0, none⟩ x).setCell ⟨p, 1, none⟩ y).setCell ⟨p, 2, none⟩ z) :=
  (((Below.refl B w).setCell (p := ⟨p, 0, none⟩) hp x).setCell (p := ⟨p, 1, none⟩) hp y).setCell (p := ⟨p, 2, none⟩) hp z
theorem take_end {n b g o c : Nat} {w w1 : World} {t : Tok} {r : List Tok} (hb : Below w.heap.size w w1) (h : Rd n w1 b (t :: r)) (he : Fine r) (hc : w1.cell? ⟨b, 0, none⟩ = some (.slice (some ⟨g, o, none⟩) (t :: r).length c)) (hn : n ≤ w.heap.size) (x y z : Value) (ob : Obj) :
    Rd n (((((w1.setCell ⟨b, 0, none⟩ (.slice (some ⟨g, o + 3, none⟩) r.length (c - 1))).setCell ⟨w.heap.size, 0, none⟩ x).setCell ⟨w.heap.size, 1, none⟩ y).setCell ⟨w.heap.size, 2, none⟩ z).alloc ob) b r ∧
    w.grownBy (((((w1.setCell ⟨b, 0, none⟩ (.slice (some ⟨g, o + 3, none⟩) r.length (c - 1))).setCell ⟨w.heap.size, 0, none⟩ x).setCell ⟨w.heap.size, 1, none⟩ y).setCell ⟨w.heap.size, 2, none⟩ z).alloc ob) (some b) := by
  have hs : w.heap.size ≤ (w1.setCell ⟨b, 0, none⟩ (.slice (some ⟨g, o + 3, none⟩) r.length (c - 1))).heap.size := by have := hb.size; simpa [World.setCell] using this
  have h3 := three_below w.heap.size (w1.setCell ⟨b, 0, none⟩ (.slice (some ⟨g, o + 3, none⟩) r.length (c - 1))) w.heap.size x y z ob (Nat.le_refl _) hs
  exact ⟨(h.step he hc).below (h3.mono hn), grown_then (grown_trans (grown_under hb b) (grown_set _ _ _ _)) h3⟩
theorem kind_ne {t : Tok} {k : Nat} : ((t.kind : Int) = (k : Int)) ↔ t.kind = k := by omega
end LexT
namespace Go.Proofs.YtngimijiafnheaaGreat
open Go.Instr Go.RowKit LexT
set_option linter.unusedVariables false
variable {n b : Nat} {t : Tok} {r l : List Tok}
theorem tokF0 (a b c : Value) (w : World) : (field 110 (.agg #[a, b, c]) 0).run Tryz.prog w = .ok a w := by kernel_rfl
theorem tokF1 (a b c : Value) (w : World) : (field 110 (.agg #[a, b, c]) 1).run Tryz.prog w = .ok b w := by kernel_rfl
theorem tokF2 (a b c : Value) (w : World) : (field 110 (.agg #[a, b, c]) 2).run Tryz.prog w = .ok c w := by kernel_rfl
theorem isNext_any (k : Nat) (w : World) (h : Rd n w b (t :: r)) :
    Calls Tryz.prog 94 #[.pointer (some ⟨b, 0, none⟩), .int .u8 (k : Int)] w fun e w' => e = .returned (.bool (t.kind == k)) ∧ Below w.heap.size w w' := by
  have H := Lib.hid (next_any w h)
  have HE : Hid ((t.kind == k) = ((t.kind : Int) == (k : Int))) := by
    show _ = _
    rw [Bool.eq_iff_iff]; simp only [beq_iff_eq]; exact kind_ne.symm
  clear h
  have f0 := tokF0
  go_enter Tryz.func94, Tryz.ntmps94
  go_wp2_with fail
  refine H.out.mono ?_
  rintro e w1 ⟨rfl, hb1⟩
  have HB := Lib.hid hb1
  clear hb1
  unfold tokV
  go_wp2_with fail
  go_ret
  exact ⟨ret_bool (by rw [HE.out]), HB.out⟩
set_option maxHeartbeats 1000000 in
theorem take_any (w : World) (h : Rd n w b (t :: r)) (he : Fine r) :
    Calls Tryz.prog 58 #[.pointer (some ⟨b, 0, none⟩)] w fun e w' => e = .returned (tokV t) ∧ Rd n w' b r ∧ w.grownBy w' (some b) := by
  have hb0 : Below w.heap.size w (w.alloc (.cells #[.int .u8 0, .string ⟨#[]⟩, .int .i64 0] 110)) := (Below.refl _ _).alloc (Nat.le_refl _) _
  have HR := Lib.hid (h.under hb0)
  have HN := Lib.hid (next_any _ HR.out)
  have HBN := Lib.hid h.lt
  have HLE := Lib.hid h.le
  have HB0 := Lib.hid hb0
  clear h hb0
  have HEE := Lib.hid he
  clear he
  go_enter Tryz.func58, Tryz.ntmps58
  go_wp2_with fail
  refine HN.out.mono ?_
  rintro e w1 ⟨rfl, hb1⟩
  have HR1 := Lib.hid (HR.out.under hb1)
  obtain ⟨g, o, c, hc, h1, h2, k0, k1, k2, h3, h4⟩ := HR1.out.head
  have HK := Lib.hid (show w1.cell? ⟨w.heap.size, 0, none⟩ = some (.int .u8 0) ∧ w1.cell? ⟨w.heap.size, 1, none⟩ = some (.string ⟨#[]⟩) ∧ w1.cell? ⟨w.heap.size, 2, none⟩ = some (.int .i64 0) from
    ⟨(hb1.cell (p := ⟨w.heap.size, 0, none⟩) (by simp)).trans (by simp [go_sem]), (hb1.cell (p := ⟨w.heap.size, 1, none⟩) (by simp)).trans (by simp [go_sem]), (hb1.cell (p := ⟨w.heap.size, 2, none⟩) (by simp)).trans (by simp [go_sem])⟩)
  have HF := Lib.hid (show w1.frozen? ⟨w.heap.size, 0, none⟩ = false ∧ w1.frozen? ⟨w.heap.size, 1, none⟩ = false ∧ w1.frozen? ⟨w.heap.size, 2, none⟩ = false from
    ⟨(hb1.frozen (p := ⟨w.heap.size, 0, none⟩) (by simp)).trans (by simp [go_sem]), (hb1.frozen (p := ⟨w.heap.size, 1, none⟩) (by simp)).trans (by simp [go_sem]), (hb1.frozen (p := ⟨w.heap.size, 2, none⟩) (by simp)).trans (by simp [go_sem])⟩)
  obtain ⟨q0, q1, q2⟩ := HK.out
  obtain ⟨z0, z1, z2⟩ := HF.out
  have fz := HR1.out.frz
  have HB1 := Lib.hid hb1
  have hs1 : w.heap.size < w1.heap.size := by have := hb1.size; simp at this; omega
  have HBW : Hid (Below w.heap.size w w1) := HB0.out.trans (hb1.mono (by simp))
  clear hb1
  have nb : ¬ b = w.heap.size := by have := HBN.out; have := HLE.out; omega
  have nb' : ¬ b = w1.heap.size := by have := HBN.out; have := HLE.out; omega
  have lb' : b < w1.heap.size := by have := HBN.out; have := HLE.out; omega
  have nw : ¬ w.heap.size = w1.heap.size := by omega
  have hl : ((t :: r).length : Int) = (r.length : Int) + 1 := by simp
  have HC := Lib.hid hc
  have hrp : 1 ≤ r.length := HEE.out.pos
  have c1 : ¬ c = 1 := by omega
  have c2 : ¬ c - 1 = 0 := by omega
  have c3 : ¬ c ≤ 1 := by omega
  have c4 : 1 < c := by omega
  have HQ : Hid (∃ a0 a1 a2, (w1.setCell ⟨b, 0, none⟩ (.slice (some ⟨g, o + 3, none⟩) r.length (c - 1))).cell? ⟨w.heap.size, 0, none⟩ = some a0 ∧ (w1.setCell ⟨b, 0, none⟩ (.slice (some ⟨g, o + 3, none⟩) r.length (c - 1))).cell? ⟨w.heap.size, 1, none⟩ = some a1 ∧ (w1.setCell ⟨b, 0, none⟩ (.slice (some ⟨g, o + 3, none⟩) r.length (c - 1))).cell? ⟨w.heap.size, 2, none⟩ = some a2) :=
    ⟨_, _, _, by simp [go_sem, nb, q0]; rfl, by simp [go_sem, nb, q1]; rfl, by simp [go_sem, nb, q2]; rfl⟩
  unfold tokV
  go_wp2_with fail
  obtain ⟨_, _, _, m0, m1, m2⟩ := HQ.out
  obtain ⟨e0, e1, e2⟩ := three_more m0 m1 m2 (.int .u8 (t.kind : Int)) (.string (mkS t.text)) (.int .i64 (t.place : Int)) (.cells #[.int .u8 (t.kind : Int), .string (mkS t.text), .int .i64 (t.place : Int)] 110)
  refine bodyPost_ret (v := tokV t) (by simp [tokV, results, Tryz.results58, go_sem, e0, e1, e2]) rfl ⟨rfl, ?_⟩
  exact take_end HBW.out HR1.out HEE.out HC.out HLE.out _ _ _ _
theorem rmust_no (w : World) (h : Rd n w b (t :: r)) : Calls Tryz.prog 93 #[.pointer (some ⟨b, 0, none⟩), .bool false] w fun e w' => e = .panicked (faulty 102 t.place) ∧ Below w.heap.size w w' := by
  have H := Lib.hid (next_any w h)
  clear h
  have f2 := tokF2
  go_enter Tryz.func93, Tryz.ntmps93
  go_wp2_with fail
  refine H.out.mono ?_
  rintro e w1 ⟨rfl, hb1⟩
  have HB := Lib.hid hb1
  clear hb1
  unfold tokV
  go_wp2_with fail
  exact ⟨rfl, rfl, HB.out⟩
theorem rmust_yes (w : World) (b : Nat) : Calls Tryz.prog 93 #[.pointer (some ⟨b, 0, none⟩), .bool true] w fun e w' => e = .returned (.tuple #[]) ∧ w = w' := by
  go_enter Tryz.func93, Tryz.ntmps93
  go_wp2_with fail
  go_end0
  exact ⟨rfl, rfl⟩
/-- What a call that takes a token does. -/
def TokP (n b : Nat) (l : List Tok) (R : Res Tok) (w : World) (e : Ending) (w' : World) : Prop :=
  (∃ t l', R = .ok (t, l') ∧ e = .returned (tokV t) ∧ Rd n w' b l' ∧ l'.length + 1 = l.length ∧ w.grownBy w' (some b)) ∨
  (∃ c q : Nat, R = .error (c, q) ∧ e = .panicked (faulty c q) ∧ w.grownBy w' (some b))
set_option maxHeartbeats 1000000 in
theorem name_any (w : World) (h : Rd n w b l) : Calls Tryz.prog 61 #[.pointer (some ⟨b, 0, none⟩)] w (TokP n b l (nameF l) w) := by
  obtain ⟨t, r, rfl⟩ := h.ends.cons
  have hb0 : Below w.heap.size w (w.alloc (.cells #[.int .u8 0, .string ⟨#[]⟩, .int .i64 0] 110)) := (Below.refl _ _).alloc (Nat.le_refl _) _
  have HR := Lib.hid (h.under hb0)
  have HN := Lib.hid (isNext_any 2 _ HR.out)
  have HLE := Lib.hid h.le
  have HB0 := Lib.hid hb0
  have HLT := Lib.hid h.lt
  clear h hb0
  go_enter Tryz.func61, Tryz.ntmps61
  go_wp2_with fail
  refine HN.out.mono ?_
  rintro e w1 ⟨rfl, hb1⟩
  have HR1 := Lib.hid (HR.out.under hb1)
  have HB1 := Lib.hid hb1
  have HBW : Hid (Below w.heap.size w w1) := HB0.out.trans (hb1.mono (by simp))
  have hs1 : w.heap.size < w1.heap.size := by have := hb1.size; simp at this; omega
  have HP1 := Lib.hid (show w1.heap[w.heap.size]? = some (.cells #[.int .u8 0, .string ⟨#[]⟩, .int .i64 0] 110 (0, 0)) from (hb1.block w.heap.size (by simp)).trans (heap_alloc_new w _))
  clear hb1
  have hnb : w.heap.size ≠ b := by have := HLT.out; have := HLE.out; omega
  by_cases hk : t.kind = 2
  · have hkb : (t.kind == 2) = true := by simpa using hk
    have he : Fine r := HR1.out.ends.tail (.inl (by omega))
    rw [hkb]
    have HM := Lib.hid (rmust_yes w1 b)
    have HT := Lib.hid (take_any w1 HR1.out he)
    have HNM : Hid (nameF (t :: r) = .ok (t, r)) := by show _ = _; unfold nameF; simp [hkb]
    clear hk he
    go_wp2_with fail
    refine HM.out.mono ?_
    rintro e w2 ⟨rfl, rfl⟩
    go_wp2_with fail
    refine HT.out.mono ?_
    rintro e w2 ⟨rfl, hr2, hg2⟩
    obtain ⟨⟨q0, q1, q2⟩, z0, z1, z2⟩ := three_facts ((hg2.block w.heap.size hs1 (by intro hh; injection hh with hh; exact hnb hh)).trans HP1.out)
    have HT2 := Lib.hid (And.intro hr2 hg2)
    clear hr2 hg2
    obtain ⟨e0, e1, e2⟩ := three_cells q0 q1 q2 (.int .u8 (t.kind : Int)) (.string (mkS t.text)) (.int .i64 (t.place : Int))
    have HE := Lib.hid (And.intro e0 (And.intro e1 e2))
    clear e0 e1 e2
    unfold tokV
    go_wp2_with fail
    obtain ⟨e0, e1, e2⟩ := HE.out
    refine bodyPost_ret (v := tokV t) (by simp [tokV, results, Tryz.results61, go_sem, e0, e1, e2]) rfl (.inl ⟨t, r, HNM.out, rfl, ?_, rfl, ?_⟩)
    · exact HT2.out.1.below (three_low n _ _ _ _ _ HLE.out)
    · exact grown_then (grown_trans (grown_under HBW.out b) HT2.out.2) (three_low w.heap.size _ _ _ _ _ (Nat.le_refl _))
  · have hkb : (t.kind == 2) = false := by simpa using hk
    rw [hkb]
    have HM := Lib.hid (rmust_no w1 HR1.out)
    have HNM : Hid (nameF (t :: r) = .error (102, t.place)) := by show _ = _; unfold nameF; simp [hkb]
    clear hk
    go_wp2_with fail
    refine HM.out.mono ?_
    rintro e w2 ⟨rfl, hb2⟩
    exact ⟨rfl, .inr ⟨102, t.place, HNM.out, rfl, grown_under (HBW.out.trans (hb2.mono (by omega))) b⟩⟩
end Go.Proofs.YtngimijiafnheaaGreat
