/- The document's own scanner: a token that is a name or a word: none. -/
/- SameTokens over two rows that hold the same tokens; two rows of tokens lie apart. -/
/- The document's own scanner: all tokens of a source. -/
import Derived.Test.YthhfgjcdopkmgaaGreatDoorRfHa
import Derived.Test.YthhfgjcdopkmgaaGreatDoorRfHc
import Derived.Test.YthhfgjcdopkmgaaGreatDoorScnZa
import Derived.Test.YthhfgjcdopkmgaaGreatDoorFlP
import Derived.Test.YthhfgjcdopkmgaaGreatDoorFlG
import Derived.Deep.QuietTactic
import Derived.BigQuiet
import Derived.Deep.CutRange
import Derived.Laws.StructEq
import Derived.Test.YthhfgjcdopkmgaaGreatDoorRfK
import Derived.Test.YthhfgjcdopkmgaaGreatDoorFlD
import Derived.Test.YthhfgjcdopkmgaaGreatDoorScnX
import Derived.OwnWalk
import Derived.BigRegion
set_option maxRecDepth 100000
/- The document's own scanner: a token, whole. -/
namespace Go.Proofs.YthhfgjcdopkmgaaGreatDoor
open Go.Instr Go.RowKit ScnT FlT
set_option linter.unusedVariables false
set_option linter.unusedSimpArgs false
set_option maxHeartbeats 4000000 in
theorem rfName_none (S X : ByteArray) (a L : Nat) (w : World) (bf : Bool) (hS : S.size ≤ 100000) (ha : a < S.size) (haL : a + L ≤ S.size) (h1 : isLt S[a] = true) (hX : S.extract a (a + L) = X)
    (HRN : Hid (∀ w, Calls Tryz.prog 55 #[.string S, .int .i64 a] w fun e w' => e = .returned (.int .i64 ((a : Int) + (L : Int))) ∧ w = w'))
    (HNM : Hid (∀ w, Calls Tryz.prog 56 #[.string X] w fun e w' => e = .returned (.bool false) ∧ w = w'))
    (HAF : Hid (∀ g c w, TextsAt w g foreignWords → Calls Tryz.prog 53 #[.string X, .slice (some ⟨g, 0, none⟩) 11 c] w fun e w' => e = .returned (.bool bf) ∧ w = w'))
    (HAW : Hid (∀ g c w, TextsAt w g words → Calls Tryz.prog 53 #[.string X, .slice (some ⟨g, 0, none⟩) 16 c] w fun e w' => e = .returned (.bool false) ∧ w = w'))
    (HR : Hid (tkT (nameT (restB S a)) a (.returned (.tuple #[.agg #[.int .u8 0, .string ⟨#[]⟩, .int .i64 0], .int .i64 0, .int .i64 101])))) :
    Calls Tryz.prog 30 #[.string S, .int .i64 a] w fun e w' => tkT (nameT (restB S a)) a e ∧ Below w.heap.size w w' := by
  have HLt : Hid (∀ w, Calls Tryz.prog 54 #[.int .u8 (S[a].toNat : Int)] w fun e w' => e = .returned (.bool true) ∧ w = w') := fun w => by
    have := rfLetter_any S[a] w
    rw [h1] at this
    exact this
  have ha0 : (0 : Int) ≤ (a : Int) := by omega
  have ha1 : (a : Int) < (S.size : Int) := by omega
  have b0 : (0 : Int) ≤ (a : Int) + (L : Int) := by omega
  have b1 : (a : Int) ≤ (a : Int) + (L : Int) := by omega
  have b2 : (a : Int) + (L : Int) ≤ (S.size : Int) := by omega
  have b3 : ((a : Int) + (L : Int)).toNat = a + L := by omega
  have HXX := Lib.hid hX
  have HT := Lib.hid (two_toks w 2 X (a : Int))
  clear h1
  go_enter Tryz.func30, Tryz.ntmps30
  go_upto_region 12 with (first | (go_at_call 54; refine (HLt.out _).mono ?_; rintro e w' ⟨rfl, rfl⟩) | (go_at_call 55; refine (HRN.out _).mono ?_; rintro e w' ⟨rfl, rfl⟩))
  generalize ((w.alloc (.cells #[.int .u8 0, .string ⟨#[]⟩, .int .i64 0] 67)).alloc (.cells #[.int .u8 2, .string X, .int .i64 (a : Int)] 67)) = W at *
  have hsz := HT.out.1.cells.1
  obtain ⟨_, k0, k1, k2, g0, g1, g2⟩ := HT.out.1.cells
  obtain ⟨hsz1, j0, j1, j2, m0, m1, m2⟩ := HT.out.2.1.cells
  have HB := Lib.hid HT.out.2.2
  have HC0 := Lib.hid HT.out.1
  have HC1 := Lib.hid HT.out.2.1
  clear HT
  have HD : Hid (TokCell w.heap.size 0 ⟨#[]⟩ 0 W ∧ TokCell (w.heap.size + 1) 2 X (a : Int) W ∧ Below w.heap.size w W) := ⟨HC0.out, HC1.out, HB.out⟩
  go_quiet ((go_at_call 56; exact Calls.quiet_of_same ((HNM.out _).mono fun _ _ h => ⟨h.1, h.2.symm⟩)))
  have HD2 : Hid (TokCell w.heap.size 0 ⟨#[]⟩ 0 (W.drewN nq) ∧ TokCell (w.heap.size + 1) 2 X (a : Int) (W.drewN nq) ∧ Below w.heap.size w (W.drewN nq)) := ⟨HC0.out, HC1.out, ⟨HB.out.os, HB.out.tape, HB.out.output, HB.out.size, HB.out.block⟩⟩
  clear HD HB HC0 HC1 hsz hsz1 k0 k1 k2 g0 g1 g2 j0 j1 j2 m0 m1 m2
  generalize W.drewN nq = V at *
  have hsz := HD2.out.1.cells.1
  obtain ⟨_, k0, k1, k2, g0, g1, g2⟩ := HD2.out.1.cells
  obtain ⟨hsz1, j0, j1, j2, m0, m1, m2⟩ := HD2.out.2.1.cells
  have HB := Lib.hid HD2.out.2.2
  have HC0 := Lib.hid HD2.out.1
  have HC1 := Lib.hid HD2.out.2.1
  clear HD2
  all_goals
    go_upto_region 13 with fail
    go_region_with (first
      | (go_at_call 58; refine (rfWords_any _).mono ?_; rintro e w' ⟨rfl, rfl⟩)
      | (go_at_call 53; with_reducible refine (HAW.out _ _ _ (TextsAt.at _ words _ (by simp)).drew).mono ?_; rintro e w' ⟨rfl, rfl⟩)
      | (go_at_call 53; with_reducible refine (HAW.out _ _ _ (TextsAt.at _ words _ (by simp))).mono ?_; rintro e w' ⟨rfl, rfl⟩)
      | (go_at_call 53; with_reducible refine (HAW.out _ _ _ (TextsAt.at _ words _ (by simp)).drew.drew).mono ?_; rintro e w' ⟨rfl, rfl⟩))
    all_goals
      have hb2 : Below V.heap.size V (V.alloc (.cells (List.map (fun t => Value.string (mkS t)) words).toArray 9)).drew := ((Below.refl _ _).alloc (Nat.le_refl _) _).drew
      generalize (V.alloc (.cells (List.map (fun t => Value.string (mkS t)) words).toArray 9)).drew = W2 at *
      obtain ⟨hz0, x0, x1, x2, y0, y1, y2⟩ := (HC0.out.later hb2 hsz).cells
      obtain ⟨hz1, z0, z1, z2, o0, o1, o2⟩ := (HC1.out.later hb2 hsz1).cells
      have HB2 := Lib.hid (HB.out.trans (hb2.mono (Nat.le_of_lt hsz)))
      clear hb2
      go_wp2_with fail
      refine bodyPost_ret (v := .tuple #[.agg #[.int .u8 0, .string ⟨#[]⟩, .int .i64 0], .int .i64 0, .int .i64 101]) (by simp [results, Tryz.results30, go_sem, x0, x1, x2, y0, y1, y2, z0, z1, z2, o0, o1, o2]) rfl ⟨HR.out, ?_⟩
      exact (((HB2.out.setCell (p := ⟨w.heap.size, 0, none⟩) (Nat.le_refl _) _).setCell (p := ⟨w.heap.size, 1, none⟩) (Nat.le_refl _) _).setCell (p := ⟨w.heap.size, 2, none⟩) (Nat.le_refl _) _)
end Go.Proofs.YthhfgjcdopkmgaaGreatDoor
namespace Go.Proofs.YthhfgjcdopkmgaaGreatDoor
open Go.Instr Go.RowKit ScnT FlT
set_option linter.unusedVariables false
set_option linter.unusedSimpArgs false
theorem rfToken_name (S : ByteArray) (a : Nat) (w : World) (hS : S.size ≤ 100000) (ha : a < S.size) (h1 : isLt S[a] = true) : Calls Tryz.prog 30 #[.string S, .int .i64 a] w fun e w' => tkT (nameT (restB S a)) a e ∧ Below w.heap.size w w' := by
  have hld : isLd S[a] = true := by rw [ld_eq, h1]; rfl
  have hL := tw_le isLd S a
  have hcons : restB S a = S[a] :: restB S (a + 1) := rest_get S a ha
  obtain ⟨t, ht⟩ : ∃ t, (restB S a).takeWhile isLd = t := ⟨_, rfl⟩
  have htl : tw isLd S a = t.length := by rw [← ht]; rfl
  have hte : t = S[a] :: (restB S (a + 1)).takeWhile isLd := by rw [← ht, hcons, List.takeWhile_cons, hld]; rfl
  have hall : t.all isLd = true := by rw [← ht]; exact all_tw _ _
  have hX : S.extract a (a + t.length) = mkS t := by
    rw [Lib.extract_eq]
    have e2 : a + t.length - a = t.length := by omega
    rw [e2, ← ht]
    unfold mkS
    congr 2
    exact take_tw isLd (restB S a)
  rw [htl] at hL
  have hpos : 0 < t.length := by rw [hte]; simp
  have HRN : Hid (∀ w, Calls Tryz.prog 55 #[.string S, .int .i64 a] w fun e w' => e = .returned (.int .i64 ((a : Int) + (t.length : Int))) ∧ w = w') := fun w => by
    have := rfRun_any S a w hS (by omega)
    rw [htl, show ((a + t.length : Nat) : Int) = (a : Int) + (t.length : Int) by omega] at this
    exact this
  have HNM : Hid (∀ w, Calls Tryz.prog 56 #[.string (mkS t)] w fun e w' => e = .returned (.bool ((t != [95]) && decide (t.length ≤ 40))) ∧ w = w') := fun w => by
    have := rfName_any (mkS t) w (by rw [mkS_size]; omega) (by rw [mkS_size]; omega) (mk_name t hall) (by
      rw [mk_get]
      have : t[0]'(by omega) = S[a] := by simp [hte]
      rw [this]
      exact h1)
    rw [mkS_list, mkS_size] at this
    exact this
  have HAF : Hid (∀ g c w, TextsAt w g foreignWords → Calls Tryz.prog 53 #[.string (mkS t), .slice (some ⟨g, 0, none⟩) 11 c] w fun e w' => e = .returned (.bool (foreignWords.contains t)) ∧ w = w') := fun g c w hc => rfAmong_any t foreignWords g c w (by decide) hc
  have HAW : Hid (∀ g c w, TextsAt w g words → Calls Tryz.prog 53 #[.string (mkS t), .slice (some ⟨g, 0, none⟩) 16 c] w fun e w' => e = .returned (.bool (words.contains t)) ∧ w = w') := fun g c w hc => rfAmong_any t words g c w (by decide) hc
  have hway := name_way (restB S a)
  rw [ht] at hway
  have hend : ((a : Int) + (t.length : Int)) = ((a + t.length : Nat) : Int) := by omega
  cases hw : words.contains t
  · rw [hw] at HAW hway
    cases hN : ((t != [95]) && decide (t.length ≤ 40))
    · rw [hN] at HNM hway
      exact rfName_none S (mkS t) a t.length w (foreignWords.contains t) hS ha (by omega) h1 hX HRN HNM HAF HAW (by show tkT _ _ _; rw [hway]; rfl)
    · rw [hN] at HNM hway
      cases hf : foreignWords.contains t
      · rw [hf] at HAF hway
        exact rfName_plain S (mkS t) a t.length w hS ha (by omega) h1 hX HRN HNM HAF HAW (by show tkT _ _ _; rw [hway, hend]; rfl)
      · rw [hf] at HAF hway
        exact rfName_foreign S (mkS t) a t.length w hS ha (by omega) h1 hX HRN HNM HAF HAW (by show tkT _ _ _; rw [hway]; rfl)
  · rw [hw] at HAW hway
    obtain ⟨hN, hf⟩ := words_fit t (List.contains_iff_mem.1 hw)
    rw [hN] at HNM
    rw [hf] at HAF
    exact rfName_word S (mkS t) a t.length w hS ha (by omega) h1 hX HRN HNM HAF HAW (by show tkT _ _ _; rw [hway, hend]; rfl)
theorem rfToken_any (S : ByteArray) (a : Nat) (w : World) (hS : S.size ≤ 100000) (ha : a < S.size) : Calls Tryz.prog 30 #[.string S, .int .i64 a] w fun e w' => tkT (oneT (restB S a)) a e ∧ Below w.heap.size w w' := by
  have hlk : lookB (restB S a) 0 = S[a] := look_in S a 0 ha
  cases h1 : isLt S[a]
  · cases h2 : isDg S[a]
    · by_cases h3 : S[a] = 34
      · rw [one_string (by rw [hlk]; exact h1) (by rw [hlk]; exact h2) (by rw [hlk, h3]; rfl)]
        exact rfToken_text S a w hS ha h1 h2 h3
      · by_cases h4 : S[a] = 36
        · rw [one_dollar (by rw [hlk]; exact h1) (by rw [hlk]; exact h2) (by rw [hlk]; exact beq_eq_false_iff_ne.2 h3) (by rw [hlk, h4]; rfl)]
          exact rfToken_dollar S a w hS ha h1 h2 h3 h4
        · rw [one_sign (by rw [hlk]; exact h1) (by rw [hlk]; exact h2) (by rw [hlk]; exact beq_eq_false_iff_ne.2 h3) (by rw [hlk]; exact beq_eq_false_iff_ne.2 h4)]
          exact rfToken_sign S a w hS ha h1 h2 h3 h4
    · rw [one_digit (by rw [hlk]; exact h1) (by rw [hlk]; exact h2)]
      exact rfToken_number S a w hS ha h1 h2
  · rw [one_letter (by rw [hlk]; exact h1)]
    exact rfToken_name S a w hS ha h1
end Go.Proofs.YthhfgjcdopkmgaaGreatDoor
namespace Go.Proofs.YthhfgjcdopkmgaaGreatDoor
open Go.Instr Go.RowKit ScnT FlT
set_option linter.unusedVariables false
set_option linter.unusedSimpArgs false
theorem neqTok (k q : Int) (t : ByteArray) (w : World) : (binOp .neq 67 (.agg #[.int .u8 k, .string t, .int .i64 q]) (.agg #[.int .u8 k, .string t, .int .i64 q])).run Tryz.prog w = .ok (.bool false) w := by simp [go_sem]
theorem neqgTok (k q : Int) (t : ByteArray) (x y : Operand) (w : World) : (eqGuard .neq 67 x y (.agg #[.int .u8 k, .string t, .int .i64 q]) (.agg #[.int .u8 k, .string t, .int .i64 q])).run Tryz.prog w = .ok () w := by simp [go_sem]
set_option maxHeartbeats 4000000 in
theorem SameTokens_any (ts : List Tok) (a b : Option Addr) (ca cb : Nat) (w : World) (hl : ts.length < 1000000) (ha : ToksAt w a ca ts) (hb : ToksAt w b cb ts) :
    Calls Tryz.prog 11 #[.slice a ts.length ca, .slice b ts.length cb] w fun e w' => e = .returned (.bool true) ∧ Below w.heap.size w w' := by
  have HA := Lib.hid ha
  have HB := Lib.hid hb
  clear ha hb
  go_enter Tryz.func11, Tryz.ntmps11
  go_wp2_with fail
  go_loopg [5] ts.length (fun gg v wr => ∃ k : Nat, k ≤ ts.length ∧ gg = ts.length - k ∧ v = .int .i64 k ∧ Below w.heap.size w wr)
  case atStart => exact ⟨0, by omega, rfl, rfl, Below.refl _ _⟩
  case round =>
    obtain ⟨k, hk, hgk, rfl, hbl⟩ := hrel
    have HGK := Lib.hid hgk
    have HBL := Lib.hid hbl
    clear hgk hbl
    by_cases hlt : k < ts.length
    · have t1 : decide ((k : Int) < (ts.length : Int)) = true := decide_eq_true (by omega)
      obtain ⟨t, ht⟩ : ∃ t, ts[k]? = some t := ⟨_, List.getElem?_eq_getElem hlt⟩
      obtain ⟨g1, rfl, _, c0, c1, c2⟩ := (HA.out.under HBL.out).at_ k t ht
      obtain ⟨g2, rfl, _, d0, d1, d2⟩ := (HB.out.under HBL.out).at_ k t ht
      have k0 : (0 : Int) ≤ (k : Int) := by omega
      have k1 : (k : Int) < (ts.length : Int) := by omega
      clear ht
      have EQ := fun n => neqTok (t.kind : Int) (t.place : Int) (mkS t.text) (wr.drewN n)
      have EG := fun n x y => neqgTok (t.kind : Int) (t.place : Int) (mkS t.text) x y (wr.drewN n)
      go_upto_region 6 with fail
      go_quiet (fail)
      go_wp2_with fail
      go_roundg (ts.length - (k + 1))
      case rel => exact ⟨k + 1, by omega, rfl, by go_num, HBL.out.trans ⟨rfl, rfl, rfl, Nat.le_refl _, fun _ _ => rfl⟩⟩
      case measure => rw [HGK.out]; omega
    · have t1 : decide ((k : Int) < (ts.length : Int)) = false := decide_eq_false (by omega)
      go_wp2_with fail
      go_ret
      exact ⟨rfl, HBL.out⟩
end Go.Proofs.YthhfgjcdopkmgaaGreatDoor
/- ScanTells: the walk, for any text. -/
namespace ScnT
open Go Go.RowKit
theorem sign_err {l : Bs} {c : Nat} : ∀ m, signT l m = .error c → c = 100 ∨ c = 101 := by
  intro m
  induction m with
  | zero => intro h; injection h with h; exact .inl h.symm
  | succ m ih =>
    intro h
    unfold signT at h
    simp only at h
    split at h
    · injection h with h; exact .inr h.symm
    · split at h
      · cases h
      · exact ih h
theorem name_err {l : Bs} {c : Nat} (h : nameT l = .error c) : c = 101 := by
  unfold nameT at h
  simp only at h
  split at h
  · cases h
  · split at h
    · cases h
    · injection h with h; exact h.symm
theorem one_err {l : Bs} {c : Nat} (h : oneT l = .error c) : c = 100 ∨ c = 101 := by
  unfold oneT at h
  simp only at h
  split at h
  · exact .inr (name_err h)
  · split at h
    · exact .inr (number_err h)
    · split at h
      · exact .inr (string_err h)
      · split at h
        · exact .inr (dollar_err h)
        · exact sign_err _ h
end ScnT
namespace Go.Proofs.YthhfgjcdopkmgaaGreatDoor
open Go.Instr Go.RowKit ScnT FlT
set_option linter.unusedVariables false
set_option linter.unusedSimpArgs false
/-- Behind an append. -/
theorem after_push {Ft : TypeId} {R : Except (Nat × Nat) (List Tok)} {w wr w2 w3 : World} {S : ByteArray} {p : Nat} {ts : List Tok} {v v' : Value} {c : Array Value} {news : List Value} (h : RfRun 67 Ft R w wr S p ts v) (hb2 : Below wr.heap.size wr w2)
    (hG : Grown 67 (w.heap.size + 1) 3 v ts.length (tcells ts) 1 news v' (w2.alloc (.cells c 67)) w3) :
    w3.ownsRow (w.heap.size + 1) 67 3 v' (ts.length + 1) (tcells ts ++ news) ∧ w3.heap[w.heap.size]? = some (.cells #[.int .i64 0, .int .i64 0] Ft) ∧ Below w.heap.size w w3 := by
  have hlt : w.heap.size < wr.heap.size := (Array.getElem?_eq_some_iff.1 h.cell).1
  have hs2 := hb2.size
  have o2 : w2.ownsRow (w.heap.size + 1) 67 3 v ts.length (tcells ts) := row_keep h.own fun b e => hb2.block b (h.own.lt b e).2
  have hbb := hG.below (o2.alloc (.cells c 67)) (by simp; omega)
  refine ⟨hG.1, ?_, ?_⟩
  · have q1 := hbb.block w.heap.size (Nat.lt_succ_self _)
    have q2 : (w2.alloc (.cells c 67)).heap[w.heap.size]? = w2.heap[w.heap.size]? := Below.heap_alloc _ _ _ (by omega)
    exact q1.trans (q2.trans ((hb2.block _ hlt).trans h.cell))
  · exact ((h.below.trans (hb2.mono (by omega))).alloc (by omega) _).trans (hbb.mono (Nat.le_succ _))
theorem fin_told {w w3 : World} {out : List Tok} {v' : Value} (ho : w3.ownsRow (w.heap.size + 1) 67 3 v' out.length (tcells out)) (hb : Below w.heap.size w w3) (hl : out.length ≤ 70000) :
    Told (.ok out) w (.returned (.tuple #[v', .agg #[.int .i64 0, .int .i64 0]])) ((w3.setCell ⟨w.heap.size, 0, none⟩ (.int .i64 0)).setCell ⟨w.heap.size, 1, none⟩ (.int .i64 0)) := by
  refine .inl ⟨out, v', rfl, rfl, own_mono (row_keep ho fun b e => ?_) (Nat.le_succ _), hl, (hb.setCell (p := ⟨w.heap.size, 0, none⟩) (Nat.le_refl _) _).setCell (p := ⟨w.heap.size, 1, none⟩) (Nat.le_refl _) _⟩
  have hne : b ≠ w.heap.size := by have := (ho.lt b e).1; omega
  rw [Below.heap_setCell _ _ _ _ (by show b ≠ w.heap.size; exact hne), Below.heap_setCell _ _ _ _ (by show b ≠ w.heap.size; exact hne)]
theorem cells_at (w : World) (l : List Value) (T : TypeId) (n : Nat) (hn : w.heap.size = n) : ∀ j u, l[j]? = some u → (w.alloc (.cells l.toArray T)).cell? ((⟨n, 0, none⟩ : Addr).add j) = some u := by
  subst hn
  exact new_cells w l T

set_option maxHeartbeats 16000000 in
theorem RefTokens_any (S : ByteArray) (w : World) (hm : S.size ≤ maxLen) : Calls Tryz.prog 10 #[.string S] w (Told (tokensT S.data.toList) w) := by
  unfold maxLen at hm
  obtain ⟨i0, hi, hz0, hz1, hz2⟩ := info_parts Tryz.infoTok
  have HI := Lib.hid (And.intro hi (And.intro hz0 (And.intro hz1 hz2)))
  clear hi hz0 hz1 hz2
  by_cases hs : S.size ≤ 65536
  · have hT : tokensT S.data.toList = goT (S.size + 1) S.data.toList 0 [] := by
      unfold tokensT
      rw [if_neg (by simp; omega)]
      simp
    have hs' : decide ((65536 : Int) < (S.size : Int)) = false := by simp; omega
    obtain ⟨R, hR⟩ : ∃ R, goT (S.size + 1) S.data.toList 0 [] = R := ⟨_, rfl⟩
    rw [hR] at hT
    rw [hT]
    have HR0 : Hid (∀ wr, Below w.heap.size w wr → wr.heap[w.heap.size]? = some (.cells #[.int .i64 0, .int .i64 0] 32) → RfRun 67 32 R w wr S 0 [] (.slice none 0 0)) := fun wr hb hc => ⟨World.ownsRow_nil _ _ _ _, hc, by simp, hb, by omega, by simp, S.size + 1, by omega, hR⟩
    clear hR hT
    go_enter Tryz.func10, Tryz.ntmps10
    go_wp2_with fail
    go_loopg [4, 5] S.size (fun gg v u wr => ∃ (p : Nat) (ts : List Tok), gg = S.size - p ∧ u = .int .i64 p ∧ RfRun 67 32 R w wr S p ts v)
    case atStart => exact ⟨0, [], rfl, rfl, HR0.out _ ((Below.refl _ _).alloc (Nat.le_refl _) _) (heap_alloc_new _ _)⟩
    case round =>
      rename_i v
      obtain ⟨p, ts, hgk, rfl, hrun⟩ := hrel
      have HGK := Lib.hid hgk
      have HR := Lib.hid hrun
      have hple := hrun.le
      have hlen := hrun.len
      have hsz := hrun.below.size
      have hlt0 : w.heap.size < wr.heap.size := (Array.getElem?_eq_some_iff.1 hrun.cell).1
      obtain ⟨ao, cc, hv, htk⟩ := toks_of_own hrun.own
      subst hv
      have HTK := Lib.hid htk
      have p0 : (0 : Int) ≤ (p : Int) := by omega
      clear hgk hrun htk HR0
      by_cases hlt : p < S.size
      · have t1 : (p : Int) < (S.size : Int) := by omega
        by_cases c9 : S[p] = 9
        · have f9 : ((S[p].toNat : Int) == 9) = true := by rw [c9]; rfl
          have HN := Lib.hid (HR.out.blank hlt (by rw [c9]; rfl))
          clear c9
          go_wp2_with fail
          go_roundg (S.size - (p + 1))
          case rel => exact ⟨p + 1, ts, rfl, by go_num, HN.out⟩
          case measure => rw [HGK.out]; omega
        · have m9 := c9
          have f9 : ((S[p].toNat : Int) == 9) = false := by
            rw [beq_eq_false_iff_ne]
            intro e
            exact m9 (UInt8.toNat_inj.1 (by show _ = 9; omega))
          by_cases c13 : S[p] = 13
          · have f13 : ((S[p].toNat : Int) == 13) = true := by rw [c13]; rfl
            have HN := Lib.hid (HR.out.blank hlt (by rw [c13]; rfl))
            clear c13
            go_wp2_with fail
            go_roundg (S.size - (p + 1))
            case rel => exact ⟨p + 1, ts, rfl, by go_num, HN.out⟩
            case measure => rw [HGK.out]; omega
          · have m13 := c13
            have f13 : ((S[p].toNat : Int) == 13) = false := by
              rw [beq_eq_false_iff_ne]
              intro e
              exact m13 (UInt8.toNat_inj.1 (by show _ = 13; omega))
            by_cases c32 : S[p] = 32
            · have f32 : ((S[p].toNat : Int) == 32) = true := by rw [c32]; rfl
              have HN := Lib.hid (HR.out.blank hlt (by rw [c32]; rfl))
              clear c32
              go_wp2_with fail
              go_roundg (S.size - (p + 1))
              case rel => exact ⟨p + 1, ts, rfl, by go_num, HN.out⟩
              case measure => rw [HGK.out]; omega
            · have m32 := c32
              have f32 : ((S[p].toNat : Int) == 32) = false := by
                rw [beq_eq_false_iff_ne]
                intro e
                exact m32 (UInt8.toNat_inj.1 (by show _ = 32; omega))
              have HBL : Hid (isBl S[p] = false) := by show _ = _; unfold isBl; simp [c9, c13, c32]
              by_cases c10 : S[p] = 10
              · have f10 : ((S[p].toNat : Int) == 10) = true := by rw [c10]; rfl
                have HL := Lib.hid (fun (ts' : List Tok) (v' : Value) (w' : World) (he : endLine ts p = ts') => HR.out.line hlt c10 (v' := v') (w' := w') he)
                clear c9 c13 c32 c10 m9 m13 m32
                go_wp2_with fail
                refine (rfEnds_any ts ao cc wr (by omega) HTK.out HR.out.kinds).mono ?_
                rintro e w2 ⟨rfl, hb2⟩
                have HB2 := Lib.hid hb2
                have hs2 := hb2.size
                clear hb2
                have hel := endLine_of ts p
                cases hen : endsT ts
                · rw [hen] at hel
                  have HEL := Lib.hid hel
                  clear hen hel
                  have HN := Lib.hid (HL.out ts _ _ HEL.out (row_keep HR.out.own fun b e => HB2.out.block b (HR.out.own.lt b e).2) ((HB2.out.block _ hlt0).trans HR.out.cell) HR.out.kinds (HR.out.below.trans (HB2.out.mono (by omega))) (by omega))
                  go_wp2_with fail
                  go_roundg (S.size - (p + 1))
                  case rel => exact ⟨p + 1, ts, rfl, by go_num, HN.out⟩
                  case measure => rw [HGK.out]; omega
                · rw [hen] at hel
                  have HEL := Lib.hid hel
                  have HO2 := Lib.hid (row_keep (w' := w2) HR.out.own fun b e => HB2.out.block b (HR.out.own.lt b e).2)
                  clear hen hel
                  go_wp2_with (at_builtin; refine wpList_append_two rfl _ _ 29 rfl (w.heap.size + 1) 67 i0 _ 3 32 Tryz.underlying29 HI.out.1 HI.out.2.1 HI.out.2.2.1 HI.out.2.2.2 rfl (by decide) _ ts.length _ rfl (HO2.out.alloc _) ⟨w2.heap.size, 0, none⟩ 1 1 (by decide) rfl (tcs ⟨6, [59], p⟩) rfl (new_cells w2 (tcs ⟨6, [59], p⟩) 67) (tcs_oneCell _) ?_ ?_ ?_ ?_)
                  any_goals (first | omega | (unfold maxLen; omega) | (simp; omega))
                  · intro v' w3 hG
                    have hp := after_push HR.out HB2.out hG
                    have HN := Lib.hid (HL.out (ts ++ [⟨6, [59], p⟩]) _ _ HEL.out (by rw [tcells_append, tcells_one]; simpa using hp.1) hp.2.1 (kinds_line HR.out.kinds p) hp.2.2 (by simp; omega))
                    clear hG hp
                    go_wp2_with fail
                    go_roundg (S.size - (p + 1))
                    case rel => exact ⟨p + 1, _, rfl, by go_num, HN.out⟩
                    case measure => rw [HGK.out]; omega
              · have m10 := c10
                have f10 : ((S[p].toNat : Int) == 10) = false := by
                  rw [beq_eq_false_iff_ne]
                  intro e
                  exact m10 (UInt8.toNat_inj.1 (by show _ = 10; omega))
                have hca := comment_at hlt
                have HTK2 := HTK
                by_cases c47 : S[p] = 47
                · have f47 : ((S[p].toNat : Int) == 47) = true := by rw [c47]; rfl
                  by_cases hn : p + 1 < S.size
                  · have q1 : (p : Int) + 1 < (S.size : Int) := by omega
                    have q3 : (0 : Int) ≤ (p : Int) + 1 := by omega
                    have q4 : ((p : Int) + 1).toNat = p + 1 := by omega
                    have hlk : lookB (restB S p) 1 = S[p + 1] := look_in S p 1 hn
                    by_cases d47 : S[p + 1] = 47
                    · have g47 : ((S[p + 1].toNat : Int) == 47) = true := by rw [d47]; rfl
                      have HN := Lib.hid (HR.out.comment hlt (by rw [hca, hlk, c47, d47, decide_eq_true hn]; rfl))
                      have htl := tw_le (· != 10) S p
                      have HTW := Lib.hid (fun j h1 h2 => tw_at (p := (· != 10)) (S := S) (a := p) (j := j) h1 h2)
                      have HTE := Lib.hid (fun j h1 h2 => tw_end (p := (· != 10)) (S := S) (a := p) (j := j) h1 h2)
                      have HPOS : Hid (1 ≤ tw (· != 10) S p) := by
                        show 1 ≤ _
                        unfold tw
                        rw [rest_get S p hlt, List.takeWhile_cons, if_pos (by simpa using c10)]
                        simp
                      obtain ⟨m, hm2⟩ : ∃ m, tw (· != 10) S p = m := ⟨_, rfl⟩
                      rw [hm2] at HN htl HTW HTE HPOS
                      clear c9 c13 c32 c10 m9 m13 m32 m10 hca hlk c47 d47 hm2
                      go_wp2_with fail
                      go_loop [5] (fun v => ∃ j : Nat, p ≤ j ∧ j ≤ p + m ∧ v = .int .i64 j) (fun v => S.size - (intOf v).toNat)
                      case atStart => exact ⟨p, Nat.le_refl _, by omega, rfl⟩
                      case round =>
                        obtain ⟨j, hj0, hj, rfl⟩ := hrel
                        have j0 : (0 : Int) ≤ (j : Int) := by omega
                        by_cases h : j < p + m
                        · obtain ⟨hjlt, hjp⟩ := HTW.out j hj0 h
                          have hj10 : S[j] ≠ 10 := by simpa using hjp
                          have u1 : (j : Int) < (S.size : Int) := by omega
                          have y10 : ((S[j].toNat : Int) == 10) = false := by
                            rw [beq_eq_false_iff_ne]
                            intro e
                            exact hj10 (UInt8.toNat_inj.1 (by show _ = 10; omega))
                          clear hjp hj10
                          go_wp2_with fail
                          go_round
                          case rel => exact ⟨j + 1, by omega, by omega, by go_num⟩
                          case measure => simp [intOf]; omega
                        · have hje : j = p + m := by omega
                          by_cases hjlt : j < S.size
                          · have hjp := HTE.out j hje hjlt
                            have hj10 : S[j] = 10 := by simpa using hjp
                            have u1 : (j : Int) < (S.size : Int) := by omega
                            have y10 : ((S[j].toNat : Int) == 10) = true := by rw [hj10]; rfl
                            have HJE := Lib.hid hje
                            clear hjp hj10 hje h
                            go_wp2_with fail
                            go_roundg (S.size - (p + m))
                            case rel => exact ⟨p + m, ts, rfl, by rw [HJE.out], HN.out⟩
                            case measure => rw [HGK.out]; have := HPOS.out; omega
                          · have u1 : ¬ ((j : Int) < (S.size : Int)) := by omega
                            have HJE := Lib.hid hje
                            clear hje h
                            go_wp2_with fail
                            go_roundg (S.size - (p + m))
                            case rel => exact ⟨p + m, ts, rfl, by rw [HJE.out], HN.out⟩
                            case measure => rw [HGK.out]; have := HPOS.out; omega
                    · have n47 := d47
                      have g47 : ((S[p + 1].toNat : Int) == 47) = false := by
                        rw [beq_eq_false_iff_ne]
                        intro e
                        exact n47 (UInt8.toNat_inj.1 (by show _ = 47; omega))
                      have hnc : [47, 47].isPrefixOf (restB S p) = false := by rw [hca, hlk, show (S[p + 1] == 47) = false from beq_eq_false_iff_ne.2 d47, Bool.and_false, Bool.and_false]
                      clear hlk c47 d47 n47
                      have HONE := Lib.hid (fun (k n : Nat) (t : Bs) (v' : Value) (w' : World) (ho : oneT (restB S p) = .ok (k, t, n)) => HR.out.one hlt HBL.out hnc c10 ho (v' := v') (w' := w'))
                      have HBAD := Lib.hid (fun (c : Nat) (ho : oneT (restB S p) = .error c) => HR.out.bad hlt HBL.out hnc c10 ho)
                      clear c9 c13 c32 c10 m9 m13 m32 m10 hca hnc
                      go_wp2_with fail
                      refine (rfToken_any S p _ (by omega) hlt).mono ?_
                      rintro e w2 ⟨hr, hb2⟩
                      have HB2 := Lib.hid hb2
                      have hs2 := hb2.size
                      clear hb2
                      cases ho : oneT (restB S p) with
                      | error c =>
                        rw [ho] at hr
                        have hr' : e = _ := hr
                        subst hr'
                        have hc1 := one_err ho
                        have z1 : ((c : Int) == 0) = false := by rw [beq_eq_false_iff_ne]; omega
                        have HE := Lib.hid (HBAD.out c ho)
                        have hcell := (HB2.out.block _ hlt0).trans HR.out.cell
                        have k0 : w2.cell? ⟨w.heap.size, 0, none⟩ = some (.int .i64 0) := by rw [cell_of_row w2 w.heap.size 0 _ 32 (0, 0) hcell]; rfl
                        have k1 : w2.cell? ⟨w.heap.size, 1, none⟩ = some (.int .i64 0) := by rw [cell_of_row w2 w.heap.size 1 _ 32 (0, 0) hcell]; rfl
                        have g0 : w2.frozen? ⟨w.heap.size, 0, none⟩ = false := frozen_of_row w2 w.heap.size 0 _ _ hcell
                        have g1 : w2.frozen? ⟨w.heap.size, 1, none⟩ = false := frozen_of_row w2 w.heap.size 1 _ _ hcell
                        have hw2 : w.heap.size < w2.heap.size := by omega
                        have hw3 : ¬ w.heap.size = w2.heap.size := by omega
                        clear hr ho hc1 hcell
                        go_wp2_with fail
                        refine bodyPost_ret (v := .tuple #[.slice none 0 0, .agg #[.int .i64 (c : Int), .int .i64 (p : Int)]]) (by simp [results, Tryz.results10, go_sem, k0, k1, g0, g1, hw2, hw3]) rfl ?_
                        rw [HE.out]
                        refine .inr ⟨c, p, rfl, rfl, ?_⟩
                        have hbz := HR.out.below.trans (HB2.out.mono (by omega))
                        first
                          | exact ((hbz.alloc (by omega) _).setCell (p := ⟨w.heap.size, 0, none⟩) (Nat.le_refl _) _).setCell (p := ⟨w.heap.size, 1, none⟩) (Nat.le_refl _) _
                          | exact ((hbz.setCell (p := ⟨w.heap.size, 0, none⟩) (Nat.le_refl _) _).setCell (p := ⟨w.heap.size, 1, none⟩) (Nat.le_refl _) _).alloc (by simp [World.setCell]; omega) _
                      | ok x =>
                        obtain ⟨k, t, n⟩ := x
                        rw [ho] at hr
                        have hr' : e = _ := hr
                        subst hr'
                        have HO := Lib.hid ho
                        clear hr ho
                        have hb3 : Below wr.heap.size wr (w2.alloc (.cells #[.int .u8 (k : Int), .string (mkS t), .int .i64 (p : Int)] 67)) := HB2.out.alloc hs2 _
                        have HB3 := Lib.hid hb3
                        have HO2 := Lib.hid (row_keep (w' := w2.alloc (.cells #[.int .u8 (k : Int), .string (mkS t), .int .i64 (p : Int)] 67)) HR.out.own fun b e => hb3.block b (HR.out.own.lt b e).2)
                        have HNW := Lib.hid (cells_at (w2.alloc (.cells #[.int .u8 (k : Int), .string (mkS t), .int .i64 (p : Int)] 67)) (tcs ⟨k, t, p⟩) 67 (w2.heap.size + 1) (by simp))
                        clear hb3
                        go_wp2_with (at_builtin; refine wpList_append_two rfl _ _ 29 rfl (w.heap.size + 1) 67 i0 _ 3 32 Tryz.underlying29 HI.out.1 HI.out.2.1 HI.out.2.2.1 HI.out.2.2.2 rfl (by decide) _ ts.length _ rfl (HO2.out.alloc _) ⟨w2.heap.size + 1, 0, none⟩ 1 1 (by decide) rfl (tcs ⟨k, t, p⟩) rfl HNW.out (tcs_oneCell _) ?_ ?_ ?_ ?_)
                        any_goals (first | omega | (unfold maxLen; omega) | (simp; omega))
                        · intro v' w3 hG
                          have hp := after_push HR.out HB3.out hG
                          have HN := Lib.hid (HONE.out k n t _ _ HO.out hp.1 hp.2.1 hp.2.2)
                          have hn1 := HN.out.1
                          clear hG hp
                          go_wp2_with fail
                          go_roundg (S.size - (p + n))
                          case rel => exact ⟨p + n, _, rfl, rfl, HN.out.2⟩
                          case measure => rw [HGK.out]; have := HN.out.2.le; omega
                  · have q1 : ¬ ((p : Int) + 1 < (S.size : Int)) := by omega
                    have hnc : [47, 47].isPrefixOf (restB S p) = false := by rw [hca, decide_eq_false hn, Bool.false_and, Bool.and_false]
                    clear c47
                    have HONE := Lib.hid (fun (k n : Nat) (t : Bs) (v' : Value) (w' : World) (ho : oneT (restB S p) = .ok (k, t, n)) => HR.out.one hlt HBL.out hnc c10 ho (v' := v') (w' := w'))
                    have HBAD := Lib.hid (fun (c : Nat) (ho : oneT (restB S p) = .error c) => HR.out.bad hlt HBL.out hnc c10 ho)
                    clear c9 c13 c32 c10 m9 m13 m32 m10 hca hnc
                    go_wp2_with fail
                    refine (rfToken_any S p _ (by omega) hlt).mono ?_
                    rintro e w2 ⟨hr, hb2⟩
                    have HB2 := Lib.hid hb2
                    have hs2 := hb2.size
                    clear hb2
                    cases ho : oneT (restB S p) with
                    | error c =>
                      rw [ho] at hr
                      have hr' : e = _ := hr
                      subst hr'
                      have hc1 := one_err ho
                      have z1 : ((c : Int) == 0) = false := by rw [beq_eq_false_iff_ne]; omega
                      have HE := Lib.hid (HBAD.out c ho)
                      have hcell := (HB2.out.block _ hlt0).trans HR.out.cell
                      have k0 : w2.cell? ⟨w.heap.size, 0, none⟩ = some (.int .i64 0) := by rw [cell_of_row w2 w.heap.size 0 _ 32 (0, 0) hcell]; rfl
                      have k1 : w2.cell? ⟨w.heap.size, 1, none⟩ = some (.int .i64 0) := by rw [cell_of_row w2 w.heap.size 1 _ 32 (0, 0) hcell]; rfl
                      have g0 : w2.frozen? ⟨w.heap.size, 0, none⟩ = false := frozen_of_row w2 w.heap.size 0 _ _ hcell
                      have g1 : w2.frozen? ⟨w.heap.size, 1, none⟩ = false := frozen_of_row w2 w.heap.size 1 _ _ hcell
                      have hw2 : w.heap.size < w2.heap.size := by omega
                      have hw3 : ¬ w.heap.size = w2.heap.size := by omega
                      clear hr ho hc1 hcell
                      go_wp2_with fail
                      refine bodyPost_ret (v := .tuple #[.slice none 0 0, .agg #[.int .i64 (c : Int), .int .i64 (p : Int)]]) (by simp [results, Tryz.results10, go_sem, k0, k1, g0, g1, hw2, hw3]) rfl ?_
                      rw [HE.out]
                      refine .inr ⟨c, p, rfl, rfl, ?_⟩
                      have hbz := HR.out.below.trans (HB2.out.mono (by omega))
                      first
                        | exact ((hbz.alloc (by omega) _).setCell (p := ⟨w.heap.size, 0, none⟩) (Nat.le_refl _) _).setCell (p := ⟨w.heap.size, 1, none⟩) (Nat.le_refl _) _
                        | exact ((hbz.setCell (p := ⟨w.heap.size, 0, none⟩) (Nat.le_refl _) _).setCell (p := ⟨w.heap.size, 1, none⟩) (Nat.le_refl _) _).alloc (by simp [World.setCell]; omega) _
                    | ok x =>
                      obtain ⟨k, t, n⟩ := x
                      rw [ho] at hr
                      have hr' : e = _ := hr
                      subst hr'
                      have HO := Lib.hid ho
                      clear hr ho
                      have hb3 : Below wr.heap.size wr (w2.alloc (.cells #[.int .u8 (k : Int), .string (mkS t), .int .i64 (p : Int)] 67)) := HB2.out.alloc hs2 _
                      have HB3 := Lib.hid hb3
                      have HO2 := Lib.hid (row_keep (w' := w2.alloc (.cells #[.int .u8 (k : Int), .string (mkS t), .int .i64 (p : Int)] 67)) HR.out.own fun b e => hb3.block b (HR.out.own.lt b e).2)
                      have HNW := Lib.hid (cells_at (w2.alloc (.cells #[.int .u8 (k : Int), .string (mkS t), .int .i64 (p : Int)] 67)) (tcs ⟨k, t, p⟩) 67 (w2.heap.size + 1) (by simp))
                      clear hb3
                      go_wp2_with (at_builtin; refine wpList_append_two rfl _ _ 29 rfl (w.heap.size + 1) 67 i0 _ 3 32 Tryz.underlying29 HI.out.1 HI.out.2.1 HI.out.2.2.1 HI.out.2.2.2 rfl (by decide) _ ts.length _ rfl (HO2.out.alloc _) ⟨w2.heap.size + 1, 0, none⟩ 1 1 (by decide) rfl (tcs ⟨k, t, p⟩) rfl HNW.out (tcs_oneCell _) ?_ ?_ ?_ ?_)
                      any_goals (first | omega | (unfold maxLen; omega) | (simp; omega))
                      · intro v' w3 hG
                        have hp := after_push HR.out HB3.out hG
                        have HN := Lib.hid (HONE.out k n t _ _ HO.out hp.1 hp.2.1 hp.2.2)
                        have hn1 := HN.out.1
                        clear hG hp
                        go_wp2_with fail
                        go_roundg (S.size - (p + n))
                        case rel => exact ⟨p + n, _, rfl, rfl, HN.out.2⟩
                        case measure => rw [HGK.out]; have := HN.out.2.le; omega
                · have m47 := c47
                  have f47 : ((S[p].toNat : Int) == 47) = false := by
                    rw [beq_eq_false_iff_ne]
                    intro e
                    exact m47 (UInt8.toNat_inj.1 (by show _ = 47; omega))
                  have hnc : [47, 47].isPrefixOf (restB S p) = false := by rw [hca, show (S[p] == 47) = false from beq_eq_false_iff_ne.2 c47, Bool.false_and]
                  clear m47 c47
                  have HONE := Lib.hid (fun (k n : Nat) (t : Bs) (v' : Value) (w' : World) (ho : oneT (restB S p) = .ok (k, t, n)) => HR.out.one hlt HBL.out hnc c10 ho (v' := v') (w' := w'))
                  have HBAD := Lib.hid (fun (c : Nat) (ho : oneT (restB S p) = .error c) => HR.out.bad hlt HBL.out hnc c10 ho)
                  clear c9 c13 c32 c10 m9 m13 m32 m10 hca hnc
                  go_wp2_with fail
                  refine (rfToken_any S p _ (by omega) hlt).mono ?_
                  rintro e w2 ⟨hr, hb2⟩
                  have HB2 := Lib.hid hb2
                  have hs2 := hb2.size
                  clear hb2
                  cases ho : oneT (restB S p) with
                  | error c =>
                    rw [ho] at hr
                    have hr' : e = _ := hr
                    subst hr'
                    have hc1 := one_err ho
                    have z1 : ((c : Int) == 0) = false := by rw [beq_eq_false_iff_ne]; omega
                    have HE := Lib.hid (HBAD.out c ho)
                    have hcell := (HB2.out.block _ hlt0).trans HR.out.cell
                    have k0 : w2.cell? ⟨w.heap.size, 0, none⟩ = some (.int .i64 0) := by rw [cell_of_row w2 w.heap.size 0 _ 32 (0, 0) hcell]; rfl
                    have k1 : w2.cell? ⟨w.heap.size, 1, none⟩ = some (.int .i64 0) := by rw [cell_of_row w2 w.heap.size 1 _ 32 (0, 0) hcell]; rfl
                    have g0 : w2.frozen? ⟨w.heap.size, 0, none⟩ = false := frozen_of_row w2 w.heap.size 0 _ _ hcell
                    have g1 : w2.frozen? ⟨w.heap.size, 1, none⟩ = false := frozen_of_row w2 w.heap.size 1 _ _ hcell
                    have hw2 : w.heap.size < w2.heap.size := by omega
                    have hw3 : ¬ w.heap.size = w2.heap.size := by omega
                    clear hr ho hc1 hcell
                    go_wp2_with fail
                    refine bodyPost_ret (v := .tuple #[.slice none 0 0, .agg #[.int .i64 (c : Int), .int .i64 (p : Int)]]) (by simp [results, Tryz.results10, go_sem, k0, k1, g0, g1, hw2, hw3]) rfl ?_
                    rw [HE.out]
                    refine .inr ⟨c, p, rfl, rfl, ?_⟩
                    have hbz := HR.out.below.trans (HB2.out.mono (by omega))
                    first
                      | exact ((hbz.alloc (by omega) _).setCell (p := ⟨w.heap.size, 0, none⟩) (Nat.le_refl _) _).setCell (p := ⟨w.heap.size, 1, none⟩) (Nat.le_refl _) _
                      | exact ((hbz.setCell (p := ⟨w.heap.size, 0, none⟩) (Nat.le_refl _) _).setCell (p := ⟨w.heap.size, 1, none⟩) (Nat.le_refl _) _).alloc (by simp [World.setCell]; omega) _
                  | ok x =>
                    obtain ⟨k, t, n⟩ := x
                    rw [ho] at hr
                    have hr' : e = _ := hr
                    subst hr'
                    have HO := Lib.hid ho
                    clear hr ho
                    have hb3 : Below wr.heap.size wr (w2.alloc (.cells #[.int .u8 (k : Int), .string (mkS t), .int .i64 (p : Int)] 67)) := HB2.out.alloc hs2 _
                    have HB3 := Lib.hid hb3
                    have HO2 := Lib.hid (row_keep (w' := w2.alloc (.cells #[.int .u8 (k : Int), .string (mkS t), .int .i64 (p : Int)] 67)) HR.out.own fun b e => hb3.block b (HR.out.own.lt b e).2)
                    have HNW := Lib.hid (cells_at (w2.alloc (.cells #[.int .u8 (k : Int), .string (mkS t), .int .i64 (p : Int)] 67)) (tcs ⟨k, t, p⟩) 67 (w2.heap.size + 1) (by simp))
                    clear hb3
                    go_wp2_with (at_builtin; refine wpList_append_two rfl _ _ 29 rfl (w.heap.size + 1) 67 i0 _ 3 32 Tryz.underlying29 HI.out.1 HI.out.2.1 HI.out.2.2.1 HI.out.2.2.2 rfl (by decide) _ ts.length _ rfl (HO2.out.alloc _) ⟨w2.heap.size + 1, 0, none⟩ 1 1 (by decide) rfl (tcs ⟨k, t, p⟩) rfl HNW.out (tcs_oneCell _) ?_ ?_ ?_ ?_)
                    any_goals (first | omega | (unfold maxLen; omega) | (simp; omega))
                    · intro v' w3 hG
                      have hp := after_push HR.out HB3.out hG
                      have HN := Lib.hid (HONE.out k n t _ _ HO.out hp.1 hp.2.1 hp.2.2)
                      have hn1 := HN.out.1
                      clear hG hp
                      go_wp2_with fail
                      go_roundg (S.size - (p + n))
                      case rel => exact ⟨p + n, _, rfl, rfl, HN.out.2⟩
                      case measure => rw [HGK.out]; have := HN.out.2.le; omega
      · have t1 : ¬ ((p : Int) < (S.size : Int)) := by omega
        have hfin := HR.out.fin (by omega)
        go_wp2_with fail
        refine (rfEnds_any ts ao cc wr (by omega) HTK.out HR.out.kinds).mono ?_
        rintro e w2 ⟨rfl, hb2⟩
        have HB2 := Lib.hid hb2
        have hs2 := hb2.size
        clear hb2
        rw [endLine_of ts p] at hfin
        have HO2 := Lib.hid (row_keep (w' := w2) HR.out.own fun b e => HB2.out.block b (HR.out.own.lt b e).2)
        cases hen : endsT ts
        · rw [hen] at hfin
          have HFIN : Hid (R = .ok (ts ++ [⟨7, [], p⟩])) := hfin
          clear hen hfin
          go_wp2_with (at_builtin; refine wpList_append_two rfl _ _ 29 rfl (w.heap.size + 1) 67 i0 _ 3 32 Tryz.underlying29 HI.out.1 HI.out.2.1 HI.out.2.2.1 HI.out.2.2.2 rfl (by decide) _ ts.length _ rfl (HO2.out.alloc _) ⟨w2.heap.size, 0, none⟩ 1 1 (by decide) rfl (tcs ⟨7, [], p⟩) rfl (new_cells w2 (tcs ⟨7, [], p⟩) 67) (tcs_oneCell _) ?_ ?_ ?_ ?_)
          any_goals (first | omega | (unfold maxLen; omega) | (simp; omega))
          · intro v' w3 hG
            have hp := after_push HR.out HB2.out hG
            have HP := Lib.hid hp
            have k0 : w3.cell? ⟨w.heap.size, 0, none⟩ = some (.int .i64 0) := by rw [cell_of_row w3 w.heap.size 0 _ 32 (0, 0) hp.2.1]; rfl
            have k1 : w3.cell? ⟨w.heap.size, 1, none⟩ = some (.int .i64 0) := by rw [cell_of_row w3 w.heap.size 1 _ 32 (0, 0) hp.2.1]; rfl
            have g0 : w3.frozen? ⟨w.heap.size, 0, none⟩ = false := frozen_of_row w3 w.heap.size 0 _ _ hp.2.1
            have g1 : w3.frozen? ⟨w.heap.size, 1, none⟩ = false := frozen_of_row w3 w.heap.size 1 _ _ hp.2.1
            clear hG hp
            go_wp2_with fail
            refine bodyPost_ret (v := .tuple #[v', .agg #[.int .i64 0, .int .i64 0]]) (by simp [results, Tryz.results10, go_sem, k0, k1, g0, g1]) rfl ?_
            rw [HFIN.out]
            exact fin_told (by rw [tcells_append, tcells_one]; simpa using HP.out.1) HP.out.2.2 (by simp; omega)
        · rw [hen] at hfin
          have HFIN : Hid (R = .ok ((ts ++ [⟨6, [59], p⟩]) ++ [⟨7, [], p⟩])) := hfin
          clear hen hfin
          go_wp2_with (at_builtin; refine wpList_append_two rfl _ _ 29 rfl (w.heap.size + 1) 67 i0 _ 3 32 Tryz.underlying29 HI.out.1 HI.out.2.1 HI.out.2.2.1 HI.out.2.2.2 rfl (by decide) _ ts.length _ rfl (HO2.out.alloc _) ⟨w2.heap.size, 0, none⟩ 1 1 (by decide) rfl (tcs ⟨6, [59], p⟩) rfl (new_cells w2 (tcs ⟨6, [59], p⟩) 67) (tcs_oneCell _) ?_ ?_ ?_ ?_)
          any_goals (first | omega | (unfold maxLen; omega) | (simp; omega))
          · intro v' w3 hG
            have hp := after_push HR.out HB2.out hG
            have HP := Lib.hid hp
            have hw3 : w.heap.size < w3.heap.size := (Array.getElem?_eq_some_iff.1 hp.2.1).1
            clear hG hp
            go_wp2_with (at_builtin; refine wpList_append_two rfl _ _ 29 rfl (w.heap.size + 1) 67 i0 _ 3 32 Tryz.underlying29 HI.out.1 HI.out.2.1 HI.out.2.2.1 HI.out.2.2.2 rfl (by decide) _ (ts.length + 1) _ rfl (HP.out.1.alloc _) ⟨w3.heap.size, 0, none⟩ 1 1 (by decide) rfl (tcs ⟨7, [], p⟩) rfl (new_cells w3 (tcs ⟨7, [], p⟩) 67) (tcs_oneCell _) ?_ ?_ ?_ ?_)
            any_goals (first | omega | (unfold maxLen; omega) | (simp; omega))
            · intro v'' w4 hG
              have hbb := hG.below (HP.out.1.alloc _) (by simp; omega)
              have HO4 := Lib.hid hG.1
              have hq : w4.heap[w.heap.size]? = some (.cells #[.int .i64 0, .int .i64 0] 32) := (hbb.block _ (Nat.lt_succ_self _)).trans ((Below.heap_alloc _ _ _ hw3).trans HP.out.2.1)
              have HB4 := Lib.hid ((HP.out.2.2.alloc (Nat.le_of_lt hw3) _).trans (hbb.mono (Nat.le_succ _)))
              have k0 : w4.cell? ⟨w.heap.size, 0, none⟩ = some (.int .i64 0) := by rw [cell_of_row w4 w.heap.size 0 _ 32 (0, 0) hq]; rfl
              have k1 : w4.cell? ⟨w.heap.size, 1, none⟩ = some (.int .i64 0) := by rw [cell_of_row w4 w.heap.size 1 _ 32 (0, 0) hq]; rfl
              have g0 : w4.frozen? ⟨w.heap.size, 0, none⟩ = false := frozen_of_row w4 w.heap.size 0 _ _ hq
              have g1 : w4.frozen? ⟨w.heap.size, 1, none⟩ = false := frozen_of_row w4 w.heap.size 1 _ _ hq
              clear hG hbb hq
              go_wp2_with fail
              refine bodyPost_ret (v := .tuple #[v'', .agg #[.int .i64 0, .int .i64 0]]) (by simp [results, Tryz.results10, go_sem, k0, k1, g0, g1]) rfl ?_
              rw [HFIN.out]
              exact fin_told (by rw [tcells_append, tcells_append, tcells_one, tcells_one]; simpa using HO4.out) HB4.out (by simp; omega)
  · have hT : tokensT S.data.toList = .error (3, 0) := by
      unfold tokensT
      rw [if_pos (by simp; omega)]
    have hs' : decide ((65536 : Int) < (S.size : Int)) = true := by simp; omega
    rw [hT]
    clear hT
    go_enter Tryz.func10, Tryz.ntmps10
    go_wp2_with fail
    refine bodyPost_ret (v := .tuple #[.slice none 0 0, .agg #[.int .i64 3, .int .i64 0]]) (by simp [results, Tryz.results10, go_sem]) rfl ?_
    exact .inr ⟨3, 0, rfl, rfl, (Below.refl _ _).alloc (Nat.le_refl _) _⟩
end Go.Proofs.YthhfgjcdopkmgaaGreatDoor
namespace ScnT
open Go Go.RowKit
set_option linter.unusedVariables false
def cOf (R : Except (Nat × Nat) (List Tok)) : Nat := match R with | .ok _ => 0 | .error (c, _) => c
def qOf (R : Except (Nat × Nat) (List Tok)) : Nat := match R with | .ok _ => 0 | .error (_, q) => q
def tsOf (R : Except (Nat × Nat) (List Tok)) : List Tok := match R with | .ok ts => ts | .error _ => []
end ScnT
namespace Go.Proofs.YthhfgjcdopkmgaaGreatDoor
open Go.Instr Go.RowKit ScnT FlT
set_option linter.unusedVariables false
set_option linter.unusedSimpArgs false
theorem told_one {R : Except (Nat × Nat) (List Tok)} {w w' : World} {e : Ending} (h : Told R w e w') : ∃ tv, e = .returned (.tuple #[tv, .agg #[.int .i64 (cOf R : Int), .int .i64 (qOf R : Int)]]) ∧ w'.ownsRow w.heap.size 67 3 tv (tsOf R).length (tcells (tsOf R)) ∧ (tsOf R).length ≤ 70000 ∧ Below w.heap.size w w' := by
  rcases h with ⟨out, tv, rfl, rfl, ho, hl, hb⟩ | ⟨c, q, rfl, rfl, hb⟩
  · exact ⟨tv, rfl, ho, hl, hb⟩
  · exact ⟨_, rfl, World.ownsRow_nil _ _ _ _, by simp [tsOf], hb⟩
theorem moves_under {S : Nat → Prop} {a w w' : World} {B : Nat} (h : Moves S w w') (hb : Below B a w) (hS : ∀ b, S b → B ≤ b) (hB : B ≤ w.heap.size) : Below B a w' :=
  ⟨h.os.trans hb.os, h.tape.trans hb.tape, h.output.trans hb.output, Nat.le_trans hb.size h.size, fun b hlt => (h.block b (by omega) (fun hs => by have := hS b hs; omega)).trans (hb.block b hlt)⟩
/-- Two rows of tokens of the call's own lie apart. -/
theorem toks_apart (lo : Nat) (ts : List Tok) (v1 v3 : Value) (w : World) (hl : ts.length < 1000000) (h1 : w.ownsRow lo 67 3 v1 ts.length (tcells ts)) (h3 : w.ownsRow lo 67 3 v3 ts.length (tcells ts))
    (hne : ∀ b, v1.ownBlock = some b → v3.ownBlock ≠ some b) (hlo : lo ≤ w.heap.size) :
    Calls Tryz.prog 12 #[.slice (some ⟨w.heap.size, 0, none⟩) 2 2] (w.alloc (.cells #[v1, v3] 29)) fun e w' => e = .returned (.bool true) ∧ Below lo w w' := by
  refine (ApartTokens_of lo w.heap.size 2 (fun k => if k = 0 then v1 else v3) (fun _ => ts.length) (fun _ => tcells ts) 2 _ (by decide) (by decide) (fun _ _ => hl) (fun k hk => ?_) (fun k hk => ?_) (fun k j hk hj hkj b hb1 hb2 => ?_) (by simp; omega) (fun b v T S w h1 h2 h3 h4 => apart_any b v T S w h1 h2 h3 h4)).mono ?_
  · rw [World.cell?_alloc_new]
    match k, hk with
    | 0, _ => rfl
    | 1, _ => rfl
  · match k, hk with
    | 0, _ => exact h1.alloc _
    | 1, _ => exact h3.alloc _
  · match k, hk, j, hj with
    | 0, _, 0, _ => exact hkj rfl
    | 1, _, 1, _ => exact hkj rfl
    | 0, _, 1, _ => exact hne b hb1 hb2
    | 1, _, 0, _ => exact hne b hb2 hb1
  · rintro e w' ⟨rfl, hm⟩
    refine ⟨rfl, moves_under hm ((Below.refl _ _).alloc hlo _) ?_ (by simp; omega)⟩
    rintro b ⟨k, hk, hb1⟩
    match k, hk with
    | 0, _ => exact (h1.lt b hb1).1
    | 1, _ => exact (h3.lt b hb1).1
theorem row_under {B lo : Nat} {T : TypeId} {n : Nat} {v : Value} {xs : List Value} {w w' : World} (h : w.ownsRow lo T 3 v n xs) (hb : Below B w w') (hB : w.heap.size ≤ B) : w'.ownsRow lo T 3 v n xs :=
  row_keep h fun b e => hb.block b (by have := (h.lt b e).2; omega)
set_option maxHeartbeats 4000000 in
theorem ScanTells_any (s : ByteArray) (w : World) (hs : s.size ≤ maxLen) : Calls Tryz.prog 4 #[.string s] w fun e w' => e = .returned (.bool true) ∧ Below w.heap.size w w' := by
  by_cases h1 : s.size ≤ 70000
  · have g1 : decide ((70000 : Int) < (s.size : Int)) = false := by simp; omega
    have HT := Lib.hid (fun ww => (Tokens_any s ww hs).mono (fun _ _ h => told_one h))
    have HR := Lib.hid (fun ww => (RefTokens_any s ww hs).mono (fun _ _ h => told_one h))
    obtain ⟨c, hc⟩ : ∃ c, cOf (tokensT s.data.toList) = c := ⟨_, rfl⟩
    obtain ⟨q, hq⟩ : ∃ q, qOf (tokensT s.data.toList) = q := ⟨_, rfl⟩
    obtain ⟨ts, hts⟩ : ∃ ts, tsOf (tokensT s.data.toList) = ts := ⟨_, rfl⟩
    rw [hc, hq, hts] at HT HR
    clear hc hq hts hs h1
    go_enter Tryz.func4, Tryz.ntmps4
    go_wp2_with fail
    refine (HT.out w).mono ?_
    rintro e w1 ⟨tv1, rfl, ho1, hl, hb1⟩
    obtain ⟨ao1, c1, hv1, tk1⟩ := toks_of_own ho1
    subst hv1
    have HO1 := Lib.hid ho1
    have HK1 := Lib.hid tk1
    have HB1 := Lib.hid hb1
    have hs1 := hb1.size
    clear ho1 tk1 hb1
    go_wp2_with fail
    refine (HR.out _).mono ?_
    rintro e w2 ⟨tv2, rfl, ho2, _, hb2⟩
    obtain ⟨ao2, c2, hv2, tk2⟩ := toks_of_own ho2
    subst hv2
    have HK2 := Lib.hid tk2
    have hs2 := hb2.size
    rw [World.size_alloc] at hs2
    have HF2 : Hid (w2.heap[w1.heap.size]? = some (.cells #[.int .i64 (c : Int), .int .i64 (q : Int)] 32)) := (hb2.block _ (by rw [World.size_alloc]; omega)).trans (heap_alloc_new _ _)
    have HB2 : Hid (Below w1.heap.size w1 w2) := ((Below.refl _ _).alloc (Nat.le_refl _) _).trans (hb2.mono (by rw [World.size_alloc]; omega))
    clear ho2 tk2 hb2
    go_wp2_with fail
    refine (HT.out _).mono ?_
    rintro e w3 ⟨tv3, rfl, ho3, _, hb3⟩
    obtain ⟨ao3, c3, hv3, tk3⟩ := toks_of_own ho3
    subst hv3
    have hs3 := hb3.size
    rw [World.size_alloc] at hs3
    rw [World.size_alloc] at ho3
    have HO3 := Lib.hid ho3
    have hq2 : w3.heap[w2.heap.size]? = some (.cells #[.int .i64 (c : Int), .int .i64 (q : Int)] 32) := (hb3.block _ (by rw [World.size_alloc]; omega)).trans (heap_alloc_new _ _)
    have HB3 : Hid (Below w2.heap.size w2 w3) := ((Below.refl _ _).alloc (Nat.le_refl _) _).trans (hb3.mono (by rw [World.size_alloc]; omega))
    have hq1 : w3.heap[w1.heap.size]? = some (.cells #[.int .i64 (c : Int), .int .i64 (q : Int)] 32) := (HB3.out.block _ (by omega)).trans HF2.out
    have k0 : w3.cell? ⟨w1.heap.size, 0, none⟩ = some (.int .i64 (c : Int)) := by rw [cell_of_row w3 w1.heap.size 0 _ 32 (0, 0) hq1]; rfl
    have k1 : w3.cell? ⟨w1.heap.size, 1, none⟩ = some (.int .i64 (q : Int)) := by rw [cell_of_row w3 w1.heap.size 1 _ 32 (0, 0) hq1]; rfl
    have j0 : w3.cell? ⟨w2.heap.size, 0, none⟩ = some (.int .i64 (c : Int)) := by rw [cell_of_row w3 w2.heap.size 0 _ 32 (0, 0) hq2]; rfl
    have j1 : w3.cell? ⟨w2.heap.size, 1, none⟩ = some (.int .i64 (q : Int)) := by rw [cell_of_row w3 w2.heap.size 1 _ 32 (0, 0) hq2]; rfl
    have l1 : w1.heap.size < w3.heap.size := by omega
    have l2 : w2.heap.size < w3.heap.size := by omega
    have n1 : ¬ w1.heap.size = w3.heap.size := by omega
    have n2 : ¬ w2.heap.size = w3.heap.size := by omega
    have HB13 : Hid (Below w1.heap.size w1 w3) := HB2.out.trans (HB3.out.mono (by omega))
    clear hb3 tk3 ho3 hq1 hq2 HF2
    go_wp2_with fail
    refine (SameTokens_any ts ao1 ao2 c1 c2 _ (by omega) ((HK1.out.under HB13.out).under ((Below.refl _ _).alloc (by omega) _)) ((HK2.out.under HB3.out).under ((Below.refl _ _).alloc (by omega) _))).mono ?_
    rintro e w4 ⟨rfl, hb4⟩
    have hs4 := hb4.size
    rw [World.size_alloc] at hs4
    have HB4 : Hid (Below w3.heap.size w3 w4) := ((Below.refl _ _).alloc (Nat.le_refl _) _).trans (hb4.mono (by rw [World.size_alloc]; omega))
    clear hb4
    have HAP : Hid (Calls Tryz.prog 12 #[.slice (some ⟨w4.heap.size, 0, none⟩) 2 2] (w4.alloc (.cells #[.slice ao1 ts.length c1, .slice ao3 ts.length c3] 29)) fun e w' => e = .returned (.bool true) ∧ Below w.heap.size w4 w') := by
      refine toks_apart w.heap.size ts _ _ w4 (by omega) (row_under HO1.out (HB13.out.trans (HB4.out.mono (by omega))) (Nat.le_refl _)) (own_mono (row_under HO3.out HB4.out (Nat.le_refl _)) (by omega)) (fun b e1 e2 => ?_) (by omega)
      have q1 := (HO1.out.lt b e1).2
      have q3 := (HO3.out.lt b e2).1
      omega
    have HB14 : Hid (Below w.heap.size w w4) := (HB1.out.trans (HB13.out.mono hs1)).trans (HB4.out.mono (by omega))
    go_wp2_with fail
    refine HAP.out.mono ?_
    rintro e w5 ⟨rfl, hb5⟩
    have HB5 : Hid (Below w.heap.size w w5) := HB14.out.trans hb5
    clear hb5
    go_wp2_with fail
    refine (awake_any w5).mono ?_
    rintro e w6 ⟨rfl, hb6⟩
    have HB6 : Hid (Below w.heap.size w w6) := HB5.out.trans (hb6.mono HB5.out.size)
    clear hb6
    go_wp2_with fail
    go_ret
    exact ⟨rfl, HB6.out⟩
  · have g1 : decide ((70000 : Int) < (s.size : Int)) = true := by simp; omega
    go_enter Tryz.func4, Tryz.ntmps4
    go_wp2_with fail
    refine (awake_any w).mono ?_
    rintro e w1 ⟨rfl, hb1⟩
    have HB1 := Lib.hid hb1
    clear hb1
    go_wp2_with fail
    go_ret
    exact ⟨rfl, HB1.out⟩
end Go.Proofs.YthhfgjcdopkmgaaGreatDoor
