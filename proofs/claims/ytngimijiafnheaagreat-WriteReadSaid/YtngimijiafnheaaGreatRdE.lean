/- at, takes, need. -/
import Derived.Test.YtngimijiafnheaaGreatRdD
set_option maxRecDepth 100000
set_option linter.unusedSimpArgs false
namespace Go.Proofs.YtngimijiafnheaaGreat
open Go.Instr Go.RowKit LexT
set_option linter.unusedVariables false
variable {n b : Nat} {t : Tok} {r l : List Tok}
set_option maxHeartbeats 1000000 in
theorem at_any (xs : List Bs) (g N : Nat) (w : World) (h : Rd n w b (t :: r)) (hx : TxtAt w g xs) (hN : xs.length = N) (hl : N ≤ 100) :
    Calls Tryz.prog 36 #[.pointer (some ⟨b, 0, none⟩), .slice (some ⟨g, 0, none⟩) N N] w fun e w' => e = .returned (.bool (atT t xs)) ∧ Below w.heap.size w w' := by
  have HN := Lib.hid (next_any w h)
  have HX := Lib.hid hx
  have HNN := Lib.hid hN
  clear h hx hN
  go_enter Tryz.func36, Tryz.ntmps36
  go_wp2_with fail
  refine HN.out.mono ?_
  rintro e w1 ⟨rfl, hb1⟩
  have HB1 := Lib.hid hb1
  have HX1 := Lib.hid ((HX.out.under hb1).under ((Below.refl w1.heap.size w1).alloc (Nat.le_refl _) (.cells #[.int .u8 (t.kind : Int), .string (mkS t.text), .int .i64 (t.place : Int)] 110)))
  have HBA : Hid (Below w.heap.size w (w1.alloc (.cells #[.int .u8 (t.kind : Int), .string (mkS t.text), .int .i64 (t.place : Int)] 110))) := hb1.alloc hb1.size _
  clear hb1
  have HC : Hid (∀ ww, ww = w1.alloc (.cells #[.int .u8 (t.kind : Int), .string (mkS t.text), .int .i64 (t.place : Int)] 110) → Calls Tryz.prog 63 #[.slice (some ⟨g, 0, none⟩) N N, .string (mkS t.text)] ww fun e w' => e = .returned (.bool (xs.contains t.text)) ∧ ww = w') := by
    rintro ww rfl
    refine (Go.Proofs.Tryz.slices_Contains_string g 0 N N (xs.map mkS) (mkS t.text) _ (by simp; have := HNN.out; omega) (by have := HNN.out; omega) HX1.out.2).mono ?_
    rintro e w' ⟨rfl, rfl⟩
    refine ⟨?_, rfl⟩
    rw [List.take_of_length_le (by simp; have := HNN.out; omega), containsS_mk, mkS_list]
  unfold tokV
  by_cases h2 : t.kind = 2
  · have HA : Hid (atT t xs = false) := by show _ = _; unfold atT; simp [h2]
    have i2 : (t.kind : Int) = 2 := by omega
    have b2 : ((t.kind : Int) == 2) = true := by simp [i2]
    have n2 : ((t.kind : Int) != 2) = false := by simp [i2]
    clear h2 i2
    go_wp2_with fail
    go_ret
    exact ⟨ret_bool (by rw [HA.out]), HBA.out⟩
  · have i2 : ¬ (t.kind : Int) = 2 := by omega
    have b2 : ((t.kind : Int) == 2) = false := by simpa using i2
    have n2 : ((t.kind : Int) != 2) = true := by simpa using i2
    by_cases h9 : t.kind = 9
    · have HA : Hid (atT t xs = false) := by show _ = _; unfold atT; simp [h9]
      have i9 : (t.kind : Int) = 9 := by omega
      have b9 : ((t.kind : Int) == 9) = true := by simp [i9]
      have n9 : ((t.kind : Int) != 9) = false := by simp [i9]
      clear h2 h9 i9
      go_wp2_with fail
      go_ret
      exact ⟨ret_bool (by rw [HA.out]), HBA.out⟩
    · have HA : Hid (atT t xs = xs.contains t.text) := by
        show _ = _
        unfold atT
        rw [show (t.kind != 2) = true by simpa using h2, show (t.kind != 9) = true by simpa using h9]
        simp only [Bool.true_and]
      have i9 : ¬ (t.kind : Int) = 9 := by omega
      have b9 : ((t.kind : Int) == 9) = false := by simpa using i9
      have n9 : ((t.kind : Int) != 9) = true := by simpa using i9
      clear h2 h9
      go_wp2_with (go_at_call 63; refine (HC.out _ rfl).mono ?_; rintro e w' ⟨rfl, rfl⟩)
      go_ret
      exact ⟨ret_bool (by rw [HA.out]; simp), HBA.out⟩
/-- What a call does that takes a word or a sign if it is next. -/
def TakesP (n b : Nat) (x : Bs) (l : List Tok) (w : World) (e : Ending) (w' : World) : Prop :=
  (atB [x] l = false ∧ e = .returned (.bool false) ∧ Rd n w' b l ∧ w.grownBy w' (some b)) ∨
  (atB [x] l = true ∧ e = .returned (.bool true) ∧ Rd n w' b l.tail ∧ l.tail.length + 1 = l.length ∧ w.grownBy w' (some b))
set_option maxHeartbeats 1000000 in
theorem takes_any (x : Bs) (hx : x ≠ []) (w : World) (h : Rd n w b l) : Calls Tryz.prog 34 #[.pointer (some ⟨b, 0, none⟩), .string (mkS x)] w (TakesP n b x l w) := by
  obtain ⟨t, r, rfl⟩ := h.ends.cons
  have hb0 : Below w.heap.size w (w.alloc (.cells #[.string (mkS x)] 9)) := (Below.refl _ _).alloc (Nat.le_refl _) _
  have HX := Lib.hid (TxtAt.new w 9 [x] w.heap.size rfl)
  have HR := Lib.hid (h.under hb0)
  have HA : Hid (∀ ww, ww = w.alloc (.cells #[.string (mkS x)] 9) → Calls Tryz.prog 36 #[.pointer (some ⟨b, 0, none⟩), .slice (some ⟨w.heap.size, 0, none⟩) 1 1] ww fun e w' => e = .returned (.bool (atT t [x])) ∧ Below ww.heap.size ww w') := by
    rintro ww rfl
    exact at_any [x] w.heap.size 1 _ HR.out HX.out rfl (by omega)
  have HB0 := Lib.hid hb0
  have HXN := Lib.hid hx
  clear h hb0 hx
  go_enter Tryz.func34, Tryz.ntmps34
  go_wp2_with fail
  refine (HA.out _ rfl).mono ?_
  rintro e w1 ⟨rfl, hb1⟩
  have HR1 := Lib.hid (HR.out.under hb1)
  have HBW : Hid (Below w.heap.size w w1) := HB0.out.trans (hb1.mono (by simp))
  clear hb1
  cases ha : atT t [x]
  · have HA1 : Hid (atB [x] (t :: r) = false) := ha
    clear ha
    go_wp2_with fail
    go_ret
    exact .inl ⟨HA1.out, rfl, HR1.out, grown_under HBW.out b⟩
  · have HA1 : Hid (atB [x] (t :: r) = true) := ha
    have he : Fine r := HR1.out.ends.tail (.inr (atT_text ha (by simpa using HXN.out)))
    have HT := Lib.hid (take_any w1 HR1.out he)
    clear ha he
    go_wp2_with fail
    refine HT.out.mono ?_
    rintro e w2 ⟨rfl, hr2, hg2⟩
    have HT2 := Lib.hid (And.intro hr2 hg2)
    clear hr2 hg2
    go_wp2_with fail
    go_ret
    exact .inr ⟨HA1.out, rfl, HT2.out.1, rfl, grown_trans (grown_under HBW.out b) HT2.out.2⟩
set_option maxHeartbeats 1000000 in
theorem need_any (xs : List Bs) (g N : Nat) (hx : ∀ x ∈ xs, x ≠ []) (w : World) (h : Rd n w b l) (ht : TxtAt w g xs) (hN : xs.length = N) (hl : N ≤ 100) :
    Calls Tryz.prog 59 #[.pointer (some ⟨b, 0, none⟩), .slice (some ⟨g, 0, none⟩) N N] w (TokP n b l (needF xs l) w) := by
  obtain ⟨t, r, rfl⟩ := h.ends.cons
  have hb0 : Below w.heap.size w (w.alloc (.cells #[.int .u8 0, .string ⟨#[]⟩, .int .i64 0] 110)) := (Below.refl _ _).alloc (Nat.le_refl _) _
  have HR := Lib.hid (h.under hb0)
  have HN := Lib.hid (at_any xs g N _ HR.out (ht.under hb0) hN hl)
  have HLE := Lib.hid h.le
  have HB0 := Lib.hid hb0
  have HLT := Lib.hid h.lt
  have HXN := Lib.hid hx
  clear h hb0 hx ht hN
  go_enter Tryz.func59, Tryz.ntmps59
  go_wp2_with fail
  refine HN.out.mono ?_
  rintro e w1 ⟨rfl, hb1⟩
  have HR1 := Lib.hid (HR.out.under hb1)
  have HB1 := Lib.hid hb1
  have HBW : Hid (Below w.heap.size w w1) := HB0.out.trans (hb1.mono (by simp))
  have hs1 : w.heap.size < w1.heap.size := by have := hb1.size; simp at this; omega
  have HP1 := Lib.hid (show w1.heap[w.heap.size]? = some (.cells #[.int .u8 0, .string ⟨#[]⟩, .int .i64 0] 110 (0, 0)) from (hb1.block w.heap.size (by simp)).trans (heap_alloc_new w _))
  clear hb1
  have hnb : w.heap.size ≠ b := by have := HLT.out; have := HLE.out; omega
  cases ha : atT t xs
  · have HM := Lib.hid (rmust_no w1 HR1.out)
    have HNM : Hid (needF xs (t :: r) = .error (102, t.place)) := by show _ = _; unfold needF; simp [ha]
    clear ha
    go_wp2_with fail
    refine HM.out.mono ?_
    rintro e w2 ⟨rfl, hb2⟩
    exact ⟨rfl, .inr ⟨102, t.place, HNM.out, rfl, grown_under (HBW.out.trans (hb2.mono (by omega))) b⟩⟩
  · have he : Fine r := HR1.out.ends.tail (.inr (atT_text ha HXN.out))
    have HM := Lib.hid (rmust_yes w1 b)
    have HT := Lib.hid (take_any w1 HR1.out he)
    have HNM : Hid (needF xs (t :: r) = .ok (t, r)) := by show _ = _; unfold needF; simp [ha]
    clear ha he
    go_wp2_with fail
    refine HM.out.mono ?_
    rintro e w2 ⟨rfl, rfl⟩
    go_wp2_with fail
    refine HT.out.mono ?_
    rintro e w2 ⟨rfl, hr2, hg2⟩
    obtain ⟨⟨q0, q1, q2⟩, z0, z1, z2⟩ := three_facts ((hg2.block w.heap.size hs1 (by intro hh; injection hh with hh; exact hnb hh)).trans HP1.out)
    have HT2 := Lib.hid (And.intro hr2 hg2)
    clear hr2 hg2
    obtain ⟨e0, e1, e2⟩ := three_cells q0 q1 q2 (.int .u8 (t.kind : Int)) (.string (mkS t.text)) (.int .i64 (t.place : Int))
    have HE := Lib.hid (And.intro e0 (And.intro e1 e2))
    clear e0 e1 e2
    unfold tokV
    go_wp2_with fail
    obtain ⟨e0, e1, e2⟩ := HE.out
    refine bodyPost_ret (v := tokV t) (by simp [tokV, results, Tryz.results59, go_sem, e0, e1, e2]) rfl (.inl ⟨t, r, HNM.out, rfl, ?_, rfl, ?_⟩)
    · exact HT2.out.1.below (three_low n _ _ _ _ _ HLE.out)
    · exact grown_then (grown_trans (grown_under HBW.out b) HT2.out.2) (three_low w.heap.size _ _ _ _ _ (Nat.le_refl _))
end Go.Proofs.YtngimijiafnheaaGreat
