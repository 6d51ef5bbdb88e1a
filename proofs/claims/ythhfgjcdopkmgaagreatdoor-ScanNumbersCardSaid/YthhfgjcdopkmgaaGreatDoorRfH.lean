/- The document's own scanner: a token; names. -/
import Derived.Test.YthhfgjcdopkmgaaGreatDoorRfFc
import Derived.Test.YthhfgjcdopkmgaaGreatDoorRfG
import Derived.Test.YthhfgjcdopkmgaaGreatDoorRfK
import Derived.Test.YthhfgjcdopkmgaaGreatDoorScnU
set_option maxRecDepth 100000
namespace ScnT
open Go Go.RowKit
set_option linter.unusedVariables false
/-- What the reader of a token tells. -/
def tkT (R : Except Nat (Nat × Bs × Nat)) (a : Nat) (e : Ending) : Prop :=
  match R with
  | .ok (k, t, n) => e = .returned (.tuple #[.agg #[.int .u8 (k : Int), .string (mkS t), .int .i64 (a : Int)], .int .i64 ((a + n : Nat) : Int), .int .i64 0])
  | .error c => e = .returned (.tuple #[.agg #[.int .u8 0, .string ⟨#[]⟩, .int .i64 0], .int .i64 0, .int .i64 (c : Int)])
theorem number_err {l : Bs} {c : Nat} (h : numberT l = .error c) : c = 101 := by
  unfold numberT at h
  simp only at h
  repeat' split at h
  all_goals first | (injection h with h; exact h.symm) | (simp at h; done) | (simp at h; omega)
theorem string_err {l : Bs} {c : Nat} (h : stringT l = .error c) : c = 101 := by
  unfold stringT at h
  split at h
  · cases h
  · injection h with h; exact h.symm
theorem dollar_err {l : Bs} {c : Nat} (h : dollarT l = .error c) : c = 101 := by
  unfold dollarT at h
  simp only at h
  split at h
  · cases h
  · split at h
    · cases h
    · injection h with h; exact h.symm
theorem words_fit : ∀ t ∈ words, ((t != [95]) && decide (t.length ≤ 40)) = true ∧ foreignWords.contains t = false := by decide
end ScnT
namespace Go.Proofs.YthhfgjcdopkmgaaGreatDoor
open Go.Instr Go.RowKit ScnT FlT
set_option linter.unusedVariables false
set_option linter.unusedSimpArgs false
/-- The two tokens that a call of token makes at once: its result's and its own. -/
theorem two_toks (w : World) (k : Int) (X : ByteArray) (p : Int) : TokCell w.heap.size 0 ⟨#[]⟩ 0 ((w.alloc (.cells #[.int .u8 0, .string ⟨#[]⟩, .int .i64 0] 67)).alloc (.cells #[.int .u8 k, .string X, .int .i64 p] 67)) ∧ TokCell (w.heap.size + 1) k X p ((w.alloc (.cells #[.int .u8 0, .string ⟨#[]⟩, .int .i64 0] 67)).alloc (.cells #[.int .u8 k, .string X, .int .i64 p] 67)) ∧
    Below w.heap.size w ((w.alloc (.cells #[.int .u8 0, .string ⟨#[]⟩, .int .i64 0] 67)).alloc (.cells #[.int .u8 k, .string X, .int .i64 p] 67)) := by
  refine ⟨(TokCell.new w 0 ⟨#[]⟩ 0).later ((Below.refl (w.heap.size + 1) _).alloc (by simp) _) (Nat.lt_succ_self _), ?_, ((Below.refl _ _).alloc (Nat.le_refl _) _).alloc (by simp) _⟩
  have := TokCell.new (w.alloc (.cells #[.int .u8 0, .string ⟨#[]⟩, .int .i64 0] 67)) k X p
  rw [show (w.alloc (.cells #[.int .u8 0, .string ⟨#[]⟩, .int .i64 0] 67)).heap.size = w.heap.size + 1 by simp] at this
  exact this

set_option maxHeartbeats 2000000 in
theorem rfToken_number (S : ByteArray) (a : Nat) (w : World) (hS : S.size ≤ 100000) (ha : a < S.size) (h1 : isLt S[a] = false) (h2 : isDg S[a] = true) : Calls Tryz.prog 30 #[.string S, .int .i64 a] w fun e w' => tkT (numberT (restB S a)) a e ∧ Below w.heap.size w w' := by
  have HLt : Hid (∀ w, Calls Tryz.prog 54 #[.int .u8 (S[a].toNat : Int)] w fun e w' => e = .returned (.bool false) ∧ w = w') := fun w => by
    have := rfLetter_any S[a] w
    rw [h1] at this
    exact this
  have HDg : Hid (∀ w, Calls Tryz.prog 59 #[.int .u8 (S[a].toNat : Int)] w fun e w' => e = .returned (.bool true) ∧ w = w') := fun w => by
    have := rfDigit_any S[a] w
    rw [h2] at this
    exact this
  have HH2 := Lib.hid h2
  have ha0 : (0 : Int) ≤ (a : Int) := by omega
  have ha1 : (a : Int) < (S.size : Int) := by omega
  have HC := Lib.hid (fun w => rfNumber_any S a w hS ha h2)
  go_enter Tryz.func30, Tryz.ntmps30
  go_wp2_with (first | (go_at_call 54; refine (HLt.out _).mono ?_; rintro e w' ⟨rfl, rfl⟩) | (go_at_call 59; refine (HDg.out _).mono ?_; rintro e w' ⟨rfl, rfl⟩))
  have HW := Lib.hid (two_toks w 0 ⟨#[]⟩ 0)
  refine (HC.out _).mono ?_
  rintro e w1 ⟨hr, hb⟩
  have hz1 : w.heap.size + 1 < w1.heap.size := by have := hb.size; have := HW.out.2.1.cells.1; omega
  obtain ⟨_, k0, k1, k2, g0, g1, g2⟩ := (HW.out.1.later hb (HW.out.1.cells.1)).cells
  obtain ⟨_, j0, j1, j2, m0, m1, m2⟩ := (HW.out.2.1.later hb (HW.out.2.1.cells.1)).cells
  have HB := Lib.hid (HW.out.2.2.trans (hb.mono (Nat.le_of_lt HW.out.1.cells.1)))
  clear hb HW
  cases hR : numberT (restB S a) with
  | error c =>
    obtain rfl := number_err hR
    rw [hR] at hr
    obtain ⟨k, s, p, x, rfl⟩ := hr
    have HRR := Lib.hid hR
    clear hR
    go_wp2_with fail
    refine bodyPost_ret (v := .tuple #[.agg #[.int .u8 0, .string ⟨#[]⟩, .int .i64 0], .int .i64 0, .int .i64 101]) (by simp [results, Tryz.results30, go_sem, k0, k1, k2, g0, g1, g2, j0, j1, j2, m0, m1, m2]) rfl ⟨by rw [HRR.out]; rfl, ?_⟩
    exact (((((HB.out.setCell (p := ⟨w.heap.size + 1, 0, none⟩) (Nat.le_succ _) _).setCell (p := ⟨w.heap.size + 1, 1, none⟩) (Nat.le_succ _) _).setCell (p := ⟨w.heap.size + 1, 2, none⟩) (Nat.le_succ _) _).setCell (p := ⟨w.heap.size, 0, none⟩) (Nat.le_refl _) _).setCell (p := ⟨w.heap.size, 1, none⟩) (Nat.le_refl _) _).setCell (p := ⟨w.heap.size, 2, none⟩) (Nat.le_refl _) _
  | ok x =>
    obtain ⟨k, t, n⟩ := x
    rw [hR] at hr
    have hr' : e = _ := hr
    subst hr'
    have HRR := Lib.hid hR
    clear hR hr
    go_wp2_with fail
    refine bodyPost_ret (v := .tuple #[.agg #[.int .u8 (k : Int), .string (mkS t), .int .i64 (a : Int)], .int .i64 ((a + n : Nat) : Int), .int .i64 0]) (by simp [results, Tryz.results30, go_sem, k0, k1, k2, g0, g1, g2, j0, j1, j2, m0, m1, m2]) rfl ⟨by rw [HRR.out]; rfl, ?_⟩
    exact (((((HB.out.setCell (p := ⟨w.heap.size + 1, 0, none⟩) (Nat.le_succ _) _).setCell (p := ⟨w.heap.size + 1, 1, none⟩) (Nat.le_succ _) _).setCell (p := ⟨w.heap.size + 1, 2, none⟩) (Nat.le_succ _) _).setCell (p := ⟨w.heap.size, 0, none⟩) (Nat.le_refl _) _).setCell (p := ⟨w.heap.size, 1, none⟩) (Nat.le_refl _) _).setCell (p := ⟨w.heap.size, 2, none⟩) (Nat.le_refl _) _
set_option maxHeartbeats 2000000 in
theorem rfToken_text (S : ByteArray) (a : Nat) (w : World) (hS : S.size ≤ 100000) (ha : a < S.size) (h1 : isLt S[a] = false) (h2 : isDg S[a] = false) (h3 : S[a] = 34) : Calls Tryz.prog 30 #[.string S, .int .i64 a] w fun e w' => tkT (stringT (restB S a)) a e ∧ Below w.heap.size w w' := by
  have HLt : Hid (∀ w, Calls Tryz.prog 54 #[.int .u8 (S[a].toNat : Int)] w fun e w' => e = .returned (.bool false) ∧ w = w') := fun w => by
    have := rfLetter_any S[a] w
    rw [h1] at this
    exact this
  have HDg : Hid (∀ w, Calls Tryz.prog 59 #[.int .u8 (S[a].toNat : Int)] w fun e w' => e = .returned (.bool false) ∧ w = w') := fun w => by
    have := rfDigit_any S[a] w
    rw [h2] at this
    exact this
  have f34 : ((S[a].toNat : Int) == 34) = true := by rw [h3]; rfl
  clear h3
  have ha0 : (0 : Int) ≤ (a : Int) := by omega
  have ha1 : (a : Int) < (S.size : Int) := by omega
  have HC := Lib.hid (fun w => rfText_any S a w hS ha)
  go_enter Tryz.func30, Tryz.ntmps30
  go_wp2_with (first | (go_at_call 54; refine (HLt.out _).mono ?_; rintro e w' ⟨rfl, rfl⟩) | (go_at_call 59; refine (HDg.out _).mono ?_; rintro e w' ⟨rfl, rfl⟩))
  have HW := Lib.hid (two_toks w 0 ⟨#[]⟩ 0)
  refine (HC.out _).mono ?_
  rintro e w1 ⟨hr, hb⟩
  have hz1 : w.heap.size + 1 < w1.heap.size := by have := hb.size; have := HW.out.2.1.cells.1; omega
  obtain ⟨_, k0, k1, k2, g0, g1, g2⟩ := (HW.out.1.later hb (HW.out.1.cells.1)).cells
  obtain ⟨_, j0, j1, j2, m0, m1, m2⟩ := (HW.out.2.1.later hb (HW.out.2.1.cells.1)).cells
  have HB := Lib.hid (HW.out.2.2.trans (hb.mono (Nat.le_of_lt HW.out.1.cells.1)))
  clear hb HW
  cases hR : stringT (restB S a) with
  | error c =>
    obtain rfl := string_err hR
    rw [hR] at hr
    obtain ⟨k, s, p, x, rfl⟩ := hr
    have HRR := Lib.hid hR
    clear hR
    go_wp2_with fail
    refine bodyPost_ret (v := .tuple #[.agg #[.int .u8 0, .string ⟨#[]⟩, .int .i64 0], .int .i64 0, .int .i64 101]) (by simp [results, Tryz.results30, go_sem, k0, k1, k2, g0, g1, g2, j0, j1, j2, m0, m1, m2]) rfl ⟨by rw [HRR.out]; rfl, ?_⟩
    exact (((((HB.out.setCell (p := ⟨w.heap.size + 1, 0, none⟩) (Nat.le_succ _) _).setCell (p := ⟨w.heap.size + 1, 1, none⟩) (Nat.le_succ _) _).setCell (p := ⟨w.heap.size + 1, 2, none⟩) (Nat.le_succ _) _).setCell (p := ⟨w.heap.size, 0, none⟩) (Nat.le_refl _) _).setCell (p := ⟨w.heap.size, 1, none⟩) (Nat.le_refl _) _).setCell (p := ⟨w.heap.size, 2, none⟩) (Nat.le_refl _) _
  | ok x =>
    obtain ⟨k, t, n⟩ := x
    rw [hR] at hr
    have hr' : e = _ := hr
    subst hr'
    have HRR := Lib.hid hR
    clear hR hr
    go_wp2_with fail
    refine bodyPost_ret (v := .tuple #[.agg #[.int .u8 (k : Int), .string (mkS t), .int .i64 (a : Int)], .int .i64 ((a + n : Nat) : Int), .int .i64 0]) (by simp [results, Tryz.results30, go_sem, k0, k1, k2, g0, g1, g2, j0, j1, j2, m0, m1, m2]) rfl ⟨by rw [HRR.out]; rfl, ?_⟩
    exact (((((HB.out.setCell (p := ⟨w.heap.size + 1, 0, none⟩) (Nat.le_succ _) _).setCell (p := ⟨w.heap.size + 1, 1, none⟩) (Nat.le_succ _) _).setCell (p := ⟨w.heap.size + 1, 2, none⟩) (Nat.le_succ _) _).setCell (p := ⟨w.heap.size, 0, none⟩) (Nat.le_refl _) _).setCell (p := ⟨w.heap.size, 1, none⟩) (Nat.le_refl _) _).setCell (p := ⟨w.heap.size, 2, none⟩) (Nat.le_refl _) _
set_option maxHeartbeats 2000000 in
theorem rfToken_dollar (S : ByteArray) (a : Nat) (w : World) (hS : S.size ≤ 100000) (ha : a < S.size) (h1 : isLt S[a] = false) (h2 : isDg S[a] = false) (h3 : S[a] ≠ 34) (h4 : S[a] = 36) : Calls Tryz.prog 30 #[.string S, .int .i64 a] w fun e w' => tkT (dollarT (restB S a)) a e ∧ Below w.heap.size w w' := by
  have HLt : Hid (∀ w, Calls Tryz.prog 54 #[.int .u8 (S[a].toNat : Int)] w fun e w' => e = .returned (.bool false) ∧ w = w') := fun w => by
    have := rfLetter_any S[a] w
    rw [h1] at this
    exact this
  have HDg : Hid (∀ w, Calls Tryz.prog 59 #[.int .u8 (S[a].toNat : Int)] w fun e w' => e = .returned (.bool false) ∧ w = w') := fun w => by
    have := rfDigit_any S[a] w
    rw [h2] at this
    exact this
  have f34 : ((S[a].toNat : Int) == 34) = false := by
    rw [beq_eq_false_iff_ne]
    intro e
    exact h3 (UInt8.toNat_inj.1 (by show _ = 34; omega))
  have f36 : ((S[a].toNat : Int) == 36) = true := by rw [h4]; rfl
  clear h3 h4
  have ha0 : (0 : Int) ≤ (a : Int) := by omega
  have ha1 : (a : Int) < (S.size : Int) := by omega
  have HC := Lib.hid (fun w => rfDollar_any S a w hS ha)
  go_enter Tryz.func30, Tryz.ntmps30
  go_wp2_with (first | (go_at_call 54; refine (HLt.out _).mono ?_; rintro e w' ⟨rfl, rfl⟩) | (go_at_call 59; refine (HDg.out _).mono ?_; rintro e w' ⟨rfl, rfl⟩))
  have HW := Lib.hid (two_toks w 0 ⟨#[]⟩ 0)
  refine (HC.out _).mono ?_
  rintro e w1 ⟨hr, hb⟩
  have hz1 : w.heap.size + 1 < w1.heap.size := by have := hb.size; have := HW.out.2.1.cells.1; omega
  obtain ⟨_, k0, k1, k2, g0, g1, g2⟩ := (HW.out.1.later hb (HW.out.1.cells.1)).cells
  obtain ⟨_, j0, j1, j2, m0, m1, m2⟩ := (HW.out.2.1.later hb (HW.out.2.1.cells.1)).cells
  have HB := Lib.hid (HW.out.2.2.trans (hb.mono (Nat.le_of_lt HW.out.1.cells.1)))
  clear hb HW
  cases hR : dollarT (restB S a) with
  | error c =>
    obtain rfl := dollar_err hR
    rw [hR] at hr
    obtain ⟨k, s, p, x, rfl⟩ := hr
    have HRR := Lib.hid hR
    clear hR
    go_wp2_with fail
    refine bodyPost_ret (v := .tuple #[.agg #[.int .u8 0, .string ⟨#[]⟩, .int .i64 0], .int .i64 0, .int .i64 101]) (by simp [results, Tryz.results30, go_sem, k0, k1, k2, g0, g1, g2, j0, j1, j2, m0, m1, m2]) rfl ⟨by rw [HRR.out]; rfl, ?_⟩
    exact (((((HB.out.setCell (p := ⟨w.heap.size + 1, 0, none⟩) (Nat.le_succ _) _).setCell (p := ⟨w.heap.size + 1, 1, none⟩) (Nat.le_succ _) _).setCell (p := ⟨w.heap.size + 1, 2, none⟩) (Nat.le_succ _) _).setCell (p := ⟨w.heap.size, 0, none⟩) (Nat.le_refl _) _).setCell (p := ⟨w.heap.size, 1, none⟩) (Nat.le_refl _) _).setCell (p := ⟨w.heap.size, 2, none⟩) (Nat.le_refl _) _
  | ok x =>
    obtain ⟨k, t, n⟩ := x
    rw [hR] at hr
    have hr' : e = _ := hr
    subst hr'
    have HRR := Lib.hid hR
    clear hR hr
    go_wp2_with fail
    refine bodyPost_ret (v := .tuple #[.agg #[.int .u8 (k : Int), .string (mkS t), .int .i64 (a : Int)], .int .i64 ((a + n : Nat) : Int), .int .i64 0]) (by simp [results, Tryz.results30, go_sem, k0, k1, k2, g0, g1, g2, j0, j1, j2, m0, m1, m2]) rfl ⟨by rw [HRR.out]; rfl, ?_⟩
    exact (((((HB.out.setCell (p := ⟨w.heap.size + 1, 0, none⟩) (Nat.le_succ _) _).setCell (p := ⟨w.heap.size + 1, 1, none⟩) (Nat.le_succ _) _).setCell (p := ⟨w.heap.size + 1, 2, none⟩) (Nat.le_succ _) _).setCell (p := ⟨w.heap.size, 0, none⟩) (Nat.le_refl _) _).setCell (p := ⟨w.heap.size, 1, none⟩) (Nat.le_refl _) _).setCell (p := ⟨w.heap.size, 2, none⟩) (Nat.le_refl _) _
end Go.Proofs.YthhfgjcdopkmgaaGreatDoor
