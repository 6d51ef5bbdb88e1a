/- A token's cells. -/
/- The document's own scanner: may a line end here? -/
/- The document's own scanner: a round of its loop, as mathematics. -/
import Derived.Test.YthhfgjcdopkmgaaGreatDoorRfB
import Derived.Test.YthhfgjcdopkmgaaGreatDoorScnZa
import Derived.Test.YthhfgjcdopkmgaaGreatDoorRfM
set_option maxRecDepth 100000
namespace Go.Proofs.YthhfgjcdopkmgaaGreatDoor
open Go.Instr Go.RowKit ScnT
set_option linter.unusedVariables false
set_option linter.unusedSimpArgs false
/-- The cells of a token. -/
def TokCell (g : Nat) (k : Int) (s : ByteArray) (p : Int) (w : World) : Prop := w.heap[g]? = some (.cells #[.int .u8 k, .string s, .int .i64 p] 67)
theorem TokCell.cells {g : Nat} {k p : Int} {s : ByteArray} {w : World} (h : TokCell g k s p w) : g < w.heap.size ∧ w.cell? ⟨g, 0, none⟩ = some (.int .u8 k) ∧ w.cell? ⟨g, 1, none⟩ = some (.string s) ∧ w.cell? ⟨g, 2, none⟩ = some (.int .i64 p) ∧ w.frozen? ⟨g, 0, none⟩ = false ∧ w.frozen? ⟨g, 1, none⟩ = false ∧ w.frozen? ⟨g, 2, none⟩ = false :=
  ⟨(Array.getElem?_eq_some_iff.1 h).1, by rw [cell_of_row w g 0 _ 67 (0, 0) h]; rfl, by rw [cell_of_row w g 1 _ 67 (0, 0) h]; rfl, by rw [cell_of_row w g 2 _ 67 (0, 0) h]; rfl, frozen_of_row w g 0 _ _ h, frozen_of_row w g 1 _ _ h, frozen_of_row w g 2 _ _ h⟩
theorem TokCell.put {g : Nat} {k p : Int} {s : ByteArray} {w : World} (h : TokCell g k s p w) (k' : Int) (s' : ByteArray) (p' : Int) : TokCell g k' s' p' (((w.setCell ⟨g, 0, none⟩ (.int .u8 k')).setCell ⟨g, 1, none⟩ (.string s')).setCell ⟨g, 2, none⟩ (.int .i64 p')) := by
  unfold TokCell
  rw [heap_setCell_same _ g 2 _ 67 _ (heap_setCell_same _ g 1 _ 67 _ (heap_setCell_same w g 0 _ 67 _ h))]
  rfl
theorem TokCell.aside {g g' j : Nat} {k p : Int} {s : ByteArray} {w : World} (h : TokCell g k s p w) (hne : g ≠ g') (v : Value) : TokCell g k s p (w.setCell ⟨g', j, none⟩ v) := (Below.heap_setCell _ _ _ _ (by show g ≠ g'; exact hne)).trans h
theorem TokCell.later {g B : Nat} {k p : Int} {s : ByteArray} {w w' : World} (h : TokCell g k s p w) (hb : Below B w w') (hB : g < B) : TokCell g k s p w' := (hb.block g hB).trans h
theorem TokCell.new (w : World) (k : Int) (s : ByteArray) (p : Int) : TokCell w.heap.size k s p (w.alloc (.cells #[.int .u8 k, .string s, .int .i64 p] 67)) := heap_alloc_new _ _
end Go.Proofs.YthhfgjcdopkmgaaGreatDoor
namespace ScnT
def endsT (ts : List Tok) : Bool := match ts.getLast? with | some t => mayEnd t | none => false
theorem endLine_of (ts : List Tok) (p : Nat) : endLine ts p = if endsT ts then ts ++ [⟨6, [59], p⟩] else ts := by
  unfold endLine endsT
  cases ts.getLast? <;> rfl
theorem endsT_nil : endsT [] = false := rfl
theorem endsT_snoc (r : List Tok) (t : Tok) : endsT (r ++ [t]) = mayEnd t := by unfold endsT; simp
end ScnT
namespace Go.Proofs.YthhfgjcdopkmgaaGreatDoor
open Go.Instr Go.RowKit ScnT
set_option linter.unusedVariables false
set_option linter.unusedSimpArgs false
set_option maxHeartbeats 2000000 in
theorem rfEnds_any (ts : List Tok) (ao : Option Addr) (c : Nat) (w : World) (hl : ts.length ≤ 1000000) (ht : ToksAt w ao c ts) (hk : ∀ t ∈ ts, 1 ≤ t.kind ∧ t.kind ≤ 8 ∧ t.kind ≠ 7) :
    Calls Tryz.prog 29 #[.slice ao ts.length c] w fun e w' => e = .returned (.bool (endsT ts)) ∧ Below w.heap.size w w' := by
  rcases List.eq_nil_or_concat ts with rfl | ⟨r, t, hts⟩
  · rw [endsT_nil]
    simp only [List.length_nil]
    clear ht hk
    go_enter Tryz.func29, Tryz.ntmps29
    go_wp2_with fail
    go_ret
    exact ⟨rfl, Below.refl _ _⟩
  · rw [List.concat_eq_append] at hts
    subst hts
    have hlen : (r ++ [t]).length = r.length + 1 := by simp
    obtain ⟨g, rfl, hg, c0, c1, c2⟩ := ht.at_ r.length t (by simp)
    have hkt := hk t (by simp)
    rw [hlen] at hl ⊢
    rw [endsT_snoc]
    have hcap := ht.cap
    have hcl := ht.len
    rw [hlen] at hcl
    unfold maxLen at hcap
    clear ht hk
    have l0 : ((r.length + 1 : Nat) : Int) = (r.length : Int) + 1 := by omega
    have l1 : (0 : Int) ≤ (r.length : Int) := by omega
    obtain ⟨n, hn⟩ : ∃ n, r.length = n := ⟨_, rfl⟩
    simp only [hn] at *
    have nz : ((n : Int) + 1 == 0) = false := by rw [beq_eq_false_iff_ne]; omega
    have HT : ∀ l : List Bs, TextsAt ((w.alloc (.cells #[.int .u8 (t.kind : Int), .string (mkS t.text), .int .i64 (t.place : Int)] 67)).alloc (.cells (l.map fun t => Value.string (mkS t)).toArray 9)) (w.heap.size + 1) l := fun l => by
      have := TextsAt.new (w.alloc (.cells #[.int .u8 (t.kind : Int), .string (mkS t.text), .int .i64 (t.place : Int)] 67)) l
      rw [show (w.alloc (.cells #[.int .u8 (t.kind : Int), .string (mkS t.text), .int .i64 (t.place : Int)] 67)).heap.size = w.heap.size + 1 by simp] at this
      exact this
    have HT := Lib.hid HT
    by_cases h1 : t.kind = 1
    · have k1 : ((t.kind : Int) == 1) = true := by rw [h1]; rfl
      have HE : Hid (mayEnd t = lineWords.contains t.text) := by show _ = _; unfold mayEnd; simp [h1]
      rw [HE.out]
      clear h1 hkt
      go_enter Tryz.func29, Tryz.ntmps29
      go_wp2_with fail
      refine (rfAmong_any t.text lineWords (w.heap.size + 1) 5 _ (by decide) (HT.out lineWords)).mono ?_
      rintro e w' ⟨rfl, rfl⟩
      go_wp2_with fail
      go_ret
      exact ⟨ret_bool (by first | rfl | (simp; done) | (rw [Bool.eq_iff_iff]; simp)), ((Below.refl _ _).alloc (Nat.le_refl _) _).alloc (by simp) _⟩
    · have k1 : ((t.kind : Int) == 1) = false := by rw [beq_eq_false_iff_ne]; omega
      by_cases h6 : t.kind = 6
      · have k6 : ((t.kind : Int) == 6) = true := by rw [h6]; rfl
        have HE : Hid (mayEnd t = lineSigns.contains t.text) := by show _ = _; unfold mayEnd; simp [h6]
        rw [HE.out]
        clear h1 h6 hkt
        go_enter Tryz.func29, Tryz.ntmps29
        go_wp2_with fail
        refine (rfAmong_any t.text lineSigns (w.heap.size + 1) 3 _ (by decide) (HT.out lineSigns)).mono ?_
        rintro e w' ⟨rfl, rfl⟩
        go_wp2_with fail
        go_ret
        exact ⟨ret_bool (by first | rfl | (simp; done) | (rw [Bool.eq_iff_iff]; simp)), ((Below.refl _ _).alloc (Nat.le_refl _) _).alloc (by simp) _⟩
      · have k6 : ((t.kind : Int) == 6) = false := by rw [beq_eq_false_iff_ne]; omega
        have HE : Hid (mayEnd t = true) := by show _ = _; unfold mayEnd; simp [h1, h6]; omega
        rw [HE.out]
        clear h1 h6 hkt
        go_enter Tryz.func29, Tryz.ntmps29
        go_wp2_with fail
        go_ret
        exact ⟨rfl, (Below.refl _ _).alloc (Nat.le_refl _) _⟩
end Go.Proofs.YthhfgjcdopkmgaaGreatDoor
namespace ScnT
open Go Go.RowKit
set_option linter.unusedVariables false
theorem rm_add (S : ByteArray) (p n : Nat) : (restB S p).drop n = restB S (p + n) := by unfold restB; rw [List.drop_drop]
/-- A round's state. -/
structure RfRun (E Ft : TypeId) (R : Except (Nat × Nat) (List Tok)) (w wr : World) (S : ByteArray) (p : Nat) (ts : List Tok) (v : Value) : Prop where
  own : wr.ownsRow (w.heap.size + 1) E 3 v ts.length (tcells ts)
  cell : wr.heap[w.heap.size]? = some (.cells #[.int .i64 0, .int .i64 0] Ft)
  kinds : ∀ t ∈ ts, 1 ≤ t.kind ∧ t.kind ≤ 8 ∧ t.kind ≠ 7
  below : Below w.heap.size w wr
  le : p ≤ S.size
  len : ts.length ≤ p
  run : ∃ f, S.size - p < f ∧ goT f (restB S p) p ts = R
theorem one_kind {l : Bs} {k n : Nat} {t : Bs} (h : oneT l = .ok (k, t, n)) : k ≠ 0 := by
  rintro rfl
  have hs : ∀ m, signT l m = .ok (0, t, n) → False := by
    intro m
    induction m with
    | zero => intro h; cases h
    | succ m ih =>
      intro h
      unfold signT at h
      simp only at h
      split at h
      · cases h
      · split at h
        · cases h
        · exact ih h
  unfold oneT at h
  simp only at h
  split at h
  · unfold nameT at h
    simp only at h
    split at h
    · cases h
    · split at h <;> cases h
  · split at h
    · unfold numberT at h
      simp only at h
      repeat' split at h
      all_goals simp at h
    · split at h
      · unfold stringT at h
        split at h <;> cases h
      · split at h
        · unfold dollarT at h
          simp only at h
          split at h
          · cases h
          · split at h <;> cases h
        · exact hs _ h
variable {E Ft : TypeId} {R : Except (Nat × Nat) (List Tok)} {w wr : World} {S : ByteArray} {p : Nat} {ts : List Tok} {v : Value}
theorem RfRun.blank (h : RfRun E Ft R w wr S p ts v) (hlt : p < S.size) (hb : isBl S[p] = true) : RfRun E Ft R w wr S (p + 1) ts v := by
  obtain ⟨f, hf, hg⟩ := h.run
  obtain ⟨f, rfl⟩ : ∃ m, f = m + 1 := ⟨f - 1, by omega⟩
  refine ⟨h.own, h.cell, h.kinds, h.below, by omega, by have := h.len; omega, f + 1, by omega, ?_⟩
  rw [← hg, rest_get S p hlt, goT_blank f _ _ p ts hb]
theorem RfRun.comment (h : RfRun E Ft R w wr S p ts v) (hlt : p < S.size) (hc : [47, 47].isPrefixOf (restB S p) = true) : RfRun E Ft R w wr S (p + tw (· != 10) S p) ts v := by
  obtain ⟨f, hf, hg⟩ := h.run
  obtain ⟨f, rfl⟩ : ∃ m, f = m + 1 := ⟨f - 1, by omega⟩
  have hl := tw_le (· != 10) S p
  refine ⟨h.own, h.cell, h.kinds, h.below, by omega, by have := h.len; omega, f + 1, by omega, ?_⟩
  rw [← hg, goT_comment f _ p ts hc, rm_add]
  rfl
theorem RfRun.line (h : RfRun E Ft R w wr S p ts v) (hlt : p < S.size) (hc : S[p] = 10) {ts' : List Tok} {v' : Value} {w' : World} (he : endLine ts p = ts') (ho : w'.ownsRow (w.heap.size + 1) E 3 v' ts'.length (tcells ts')) (hcell : w'.heap[w.heap.size]? = some (.cells #[.int .i64 0, .int .i64 0] Ft))
    (hk : ∀ t ∈ ts', 1 ≤ t.kind ∧ t.kind ≤ 8 ∧ t.kind ≠ 7) (hb : Below w.heap.size w w') (hl : ts'.length ≤ p + 1) : RfRun E Ft R w w' S (p + 1) ts' v' := by
  obtain ⟨f, hf, hg⟩ := h.run
  obtain ⟨f, rfl⟩ : ∃ m, f = m + 1 := ⟨f - 1, by omega⟩
  refine ⟨ho, hcell, hk, hb, by omega, hl, f, by omega, ?_⟩
  rw [← hg, rest_get S p hlt, hc, goT_line f _ p ts, he]
theorem RfRun.one (h : RfRun E Ft R w wr S p ts v) (hlt : p < S.size) (h1 : isBl S[p] = false) (h2 : [47, 47].isPrefixOf (restB S p) = false) (h3 : S[p] ≠ 10) {k n : Nat} {t : Bs} (ho : oneT (restB S p) = .ok (k, t, n)) {v' : Value} {w' : World}
    (hw : w'.ownsRow (w.heap.size + 1) E 3 v' (ts.length + 1) (tcells ts ++ tcs ⟨k, t, p⟩)) (hcell : w'.heap[w.heap.size]? = some (.cells #[.int .i64 0, .int .i64 0] Ft)) (hb : Below w.heap.size w w') : 1 ≤ n ∧ RfRun E Ft R w w' S (p + n) (ts ++ [⟨k, t, p⟩]) v' := by
  obtain ⟨f, hf, hg⟩ := h.run
  obtain ⟨f, rfl⟩ : ∃ m, f = m + 1 := ⟨f - 1, by omega⟩
  obtain ⟨_, hn1, hn2, hk⟩ := good_one ho
  have hk0 := one_kind ho
  rw [rest_len] at hn2
  refine ⟨hn1, by rw [tcells_append, tcells_one]; simpa using hw, hcell, fun x hx => ?_, hb, by omega, by have := h.len; simp; omega, f, by omega, ?_⟩
  · rcases List.mem_append.1 hx with hx | hx
    · exact h.kinds x hx
    · obtain rfl := List.mem_singleton.1 hx
      show 1 ≤ k ∧ k ≤ 8 ∧ k ≠ 7
      omega
  · rw [← hg, rest_get S p hlt, goT_one f _ _ p ts h1 (by rw [← rest_get S p hlt]; exact h2) h3, ← rest_get S p hlt, ho]
    show _ = goT f ((restB S p).drop n) (p + n) _
    rw [rm_add]
theorem RfRun.bad (h : RfRun E Ft R w wr S p ts v) (hlt : p < S.size) (h1 : isBl S[p] = false) (h2 : [47, 47].isPrefixOf (restB S p) = false) (h3 : S[p] ≠ 10) {c : Nat} (ho : oneT (restB S p) = .error c) : R = .error (c, p) := by
  obtain ⟨f, hf, hg⟩ := h.run
  obtain ⟨f, rfl⟩ : ∃ m, f = m + 1 := ⟨f - 1, by omega⟩
  rw [← hg, rest_get S p hlt, goT_one f _ _ p ts h1 (by rw [← rest_get S p hlt]; exact h2) h3, ← rest_get S p hlt, ho]
theorem RfRun.fin (h : RfRun E Ft R w wr S p ts v) (hp : p = S.size) : R = .ok (endLine ts p ++ [⟨7, [], p⟩]) := by
  obtain ⟨f, hf, hg⟩ := h.run
  obtain ⟨f, rfl⟩ : ∃ m, f = m + 1 := ⟨f - 1, by omega⟩
  rw [← hg, rest_nil S p (by omega), goT_end]
theorem kinds_line {ts : List Tok} (h : ∀ t ∈ ts, 1 ≤ t.kind ∧ t.kind ≤ 8 ∧ t.kind ≠ 7) (p : Nat) : ∀ t ∈ ts ++ [(⟨6, [59], p⟩ : Tok)], 1 ≤ t.kind ∧ t.kind ≤ 8 ∧ t.kind ≠ 7 := by
  intro t ht
  rcases List.mem_append.1 ht with ht | ht
  · exact h t ht
  · obtain rfl := List.mem_singleton.1 ht
    show 1 ≤ 6 ∧ 6 ≤ 8 ∧ 6 ≠ 7
    decide
theorem comment_at {S : ByteArray} {p : Nat} (hlt : p < S.size) : [47, 47].isPrefixOf (restB S p) = (S[p] == 47 && (decide (p + 1 < S.size) && lookB (restB S p) 1 == 47)) := by
  rw [rest_get S p hlt]
  by_cases h : p + 1 < S.size
  · rw [rest_get S (p + 1) h]
    simp only [List.isPrefixOf, decide_eq_true h, Bool.true_and, lookB, List.getD_cons_succ, List.getD_cons_zero, Bool.and_true]
    rw [show ((47 : UInt8) == S[p]) = (S[p] == 47) from Bool.beq_comm, show ((47 : UInt8) == S[p + 1]) = (S[p + 1] == 47) from Bool.beq_comm]
  · rw [rest_nil S (p + 1) (by omega)]
    simp only [List.isPrefixOf, decide_eq_false h, Bool.false_and, Bool.and_false]
end ScnT
