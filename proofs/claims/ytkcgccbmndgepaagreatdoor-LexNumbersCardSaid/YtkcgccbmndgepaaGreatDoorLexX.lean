/- The document's own tokens: all of a source. -/
import Derived.Test.YtkcgccbmndgepaaGreatDoorLexW
import Derived.Test.YtkcgccbmndgepaaGreatDoorLexP
import Derived.Test.YtkcgccbmndgepaaGreatDoorFlD
import Derived.OwnWalk
import Derived.BigRegion
set_option maxRecDepth 100000
namespace LexT
open Go Go.RowKit FlT
set_option linter.unusedVariables false
theorem skip_bl {c : UInt8} {r : Bs} (h : isBl c = true) : skipB (c :: r) = skipB r + 1 := by
  rw [skip_rec, skip_rec r]
  have h3 : (c :: r).takeWhile isBl = c :: r.takeWhile isBl := by rw [List.takeWhile_cons, if_pos h]
  simp only [h3, List.length_cons, List.drop_succ_cons]
  split
  · rw [show (r.takeWhile isBl).length + 1 + ((r.drop (r.takeWhile isBl).length).takeWhile notNL).length = ((r.takeWhile isBl).length + ((r.drop (r.takeWhile isBl).length).takeWhile notNL).length) + 1 from by omega, List.drop_succ_cons]
    omega
  · rfl
theorem goT_blank (f : Nat) (c : UInt8) (r : Bs) (p : Nat) (ts : List Tok) (h : isBl c = true) : goT (f + 1) (c :: r) p ts = goT (f + 1) r (p + 1) ts := by
  rw [goT, goT]
  simp only [skip_bl h, List.drop_succ_cons]
  have e : p + (skipB r + 1) = p + 1 + skipB r := by omega
  rw [e]
theorem skip_com {l : Bs} (h : [47, 47].isPrefixOf l = true) : skipB l = (l.takeWhile notNL).length + skipB (l.drop (l.takeWhile notNL).length) := by
  have h0 : l.takeWhile isBl = [] := by
    cases l with
    | nil => rfl
    | cons c r =>
      simp only [List.isPrefixOf, Bool.and_eq_true, beq_iff_eq] at h
      rw [List.takeWhile_cons, ← h.1]
      rfl
  rw [skip_rec]
  simp only [h0, List.length_nil, List.drop_zero, h, if_true, Nat.zero_add]
theorem goT_comment (f : Nat) (l : Bs) (p : Nat) (ts : List Tok) (h : [47, 47].isPrefixOf l = true) : goT (f + 1) l p ts = goT (f + 1) (l.drop (l.takeWhile notNL).length) (p + (l.takeWhile notNL).length) ts := by
  rw [goT, goT]
  simp only [skip_com h, ← List.drop_drop, Nat.add_assoc]
theorem skip_none {c : UInt8} {r : Bs} (h1 : isBl c = false) (h2 : [47, 47].isPrefixOf (c :: r) = false) : skipB (c :: r) = 0 := by
  rw [skip_rec]
  have h3 : (c :: r).takeWhile isBl = [] := by rw [List.takeWhile_cons, h1]; rfl
  simp only [h3, List.length_nil, List.drop_zero, h2, Bool.false_eq_true, if_false]
theorem goT_one (f : Nat) (c : UInt8) (r : Bs) (p : Nat) (ts : List Tok) (h1 : isBl c = false) (h2 : [47, 47].isPrefixOf (c :: r) = false) : goT (f + 1) (c :: r) p ts = match oneT (c :: r) with | .error e => .error (e, p) | .ok (kd, t, n) => goT f ((c :: r).drop n) (p + n) (ts ++ [⟨kd, t, p⟩]) := by
  rw [goT]
  simp only [skip_none h1 h2, List.drop_zero, Nat.add_zero]
  cases oneT (c :: r) <;> rfl
theorem goT_end (f p : Nat) (ts : List Tok) : goT (f + 1) [] p ts = .ok (ts ++ [⟨7, [], p⟩]) := rfl
/-- A round's state. -/
structure RfRun (E Ft : TypeId) (R : Except (Nat × Nat) (List Tok)) (w wr : World) (S : ByteArray) (p : Nat) (ts : List Tok) (v : Value) : Prop where
  own : wr.ownsRow (w.heap.size + 1) E 3 v ts.length (tcells ts)
  cell : wr.heap[w.heap.size]? = some (.cells #[.int .i64 0, .int .i64 0] Ft)
  below : Below w.heap.size w wr
  le : p ≤ S.size
  len : ts.length ≤ p
  run : ∃ f, S.size - p < f ∧ goT f (restB S p) p ts = R
section
variable {E Ft : TypeId} {R : Except (Nat × Nat) (List Tok)} {w wr : World} {S : ByteArray} {p : Nat} {ts : List Tok} {v : Value}
theorem RfRun.blank (h : RfRun E Ft R w wr S p ts v) (hlt : p < S.size) (hb : isBl S[p] = true) : RfRun E Ft R w wr S (p + 1) ts v := by
  obtain ⟨f, hf, hg⟩ := h.run
  obtain ⟨f, rfl⟩ : ∃ m, f = m + 1 := ⟨f - 1, by omega⟩
  refine ⟨h.own, h.cell, h.below, by omega, by have := h.len; omega, f + 1, by omega, ?_⟩
  rw [← hg, rest_get S p hlt, goT_blank f _ _ p ts hb]
theorem RfRun.comment (h : RfRun E Ft R w wr S p ts v) (hlt : p < S.size) (hc : [47, 47].isPrefixOf (restB S p) = true) : RfRun E Ft R w wr S (p + tw notNL S p) ts v := by
  obtain ⟨f, hf, hg⟩ := h.run
  obtain ⟨f, rfl⟩ : ∃ m, f = m + 1 := ⟨f - 1, by omega⟩
  have hl := tw_le notNL S p
  refine ⟨h.own, h.cell, h.below, by omega, by have := h.len; omega, f + 1, by omega, ?_⟩
  rw [← hg, goT_comment f _ p ts hc, drop_rest]
  rfl
theorem RfRun.one (h : RfRun E Ft R w wr S p ts v) (hlt : p < S.size) (h1 : isBl S[p] = false) (h2 : [47, 47].isPrefixOf (restB S p) = false) {k n : Nat} {t : Bs} (ho : oneT (restB S p) = .ok (k, t, n)) {v' : Value} {w' : World}
    (hw : w'.ownsRow (w.heap.size + 1) E 3 v' (ts.length + 1) (tcells ts ++ tcs ⟨k, t, p⟩)) (hcell : w'.heap[w.heap.size]? = some (.cells #[.int .i64 0, .int .i64 0] Ft)) (hb : Below w.heap.size w w') : 1 ≤ n ∧ RfRun E Ft R w w' S (p + n) (ts ++ [⟨k, t, p⟩]) v' := by
  obtain ⟨f, hf, hg⟩ := h.run
  obtain ⟨f, rfl⟩ : ∃ m, f = m + 1 := ⟨f - 1, by omega⟩
  have T := told_one ho
  have hn1 := T.pos
  have hn2 := T.le
  rw [rest_len] at hn2
  refine ⟨hn1, by rw [tcells_append, tcells_one]; simpa using hw, hcell, hb, by omega, by have := h.len; simp; omega, f, by omega, ?_⟩
  rw [← hg, rest_get S p hlt, goT_one f _ _ p ts h1 (by rw [← rest_get S p hlt]; exact h2), ← rest_get S p hlt, ho]
  show _ = goT f ((restB S p).drop n) (p + n) _
  rw [drop_rest]
theorem RfRun.bad (h : RfRun E Ft R w wr S p ts v) (hlt : p < S.size) (h1 : isBl S[p] = false) (h2 : [47, 47].isPrefixOf (restB S p) = false) {c : Nat} (ho : oneT (restB S p) = .error c) : R = .error (c, p) := by
  obtain ⟨f, hf, hg⟩ := h.run
  obtain ⟨f, rfl⟩ : ∃ m, f = m + 1 := ⟨f - 1, by omega⟩
  rw [← hg, rest_get S p hlt, goT_one f _ _ p ts h1 (by rw [← rest_get S p hlt]; exact h2), ← rest_get S p hlt, ho]
theorem RfRun.fin (h : RfRun E Ft R w wr S p ts v) (hp : p = S.size) : R = .ok (ts ++ [⟨7, [], p⟩]) := by
  obtain ⟨f, hf, hg⟩ := h.run
  obtain ⟨f, rfl⟩ : ∃ m, f = m + 1 := ⟨f - 1, by omega⟩
  rw [← hg, rest_nil S p (by omega), goT_end]
end
end LexT
namespace Go.Proofs.YtkcgccbmndgepaaGreatDoor
open Go.Instr Go.RowKit LexT FlT
set_option linter.unusedVariables false
set_option linter.unusedSimpArgs false
/-- Behind an append. -/
theorem after_push {Ft : TypeId} {R : Except (Nat × Nat) (List Tok)} {w wr w2 w3 : World} {S : ByteArray} {p : Nat} {ts : List Tok} {v v' : Value} {c : Array Value} {news : List Value} (h : RfRun 57 Ft R w wr S p ts v) (hb2 : Below wr.heap.size wr w2)
    (hG : Grown 57 (w.heap.size + 1) 3 v ts.length (tcells ts) 1 news v' (w2.alloc (.cells c 57)) w3) :
    w3.ownsRow (w.heap.size + 1) 57 3 v' (ts.length + 1) (tcells ts ++ news) ∧ w3.heap[w.heap.size]? = some (.cells #[.int .i64 0, .int .i64 0] Ft) ∧ Below w.heap.size w w3 := by
  have hlt : w.heap.size < wr.heap.size := (Array.getElem?_eq_some_iff.1 h.cell).1
  have hs2 := hb2.size
  have o2 : w2.ownsRow (w.heap.size + 1) 57 3 v ts.length (tcells ts) := row_keep h.own fun b e => hb2.block b (h.own.lt b e).2
  have hbb := hG.below (o2.alloc (.cells c 57)) (by simp; omega)
  refine ⟨hG.1, ?_, ?_⟩
  · have q1 := hbb.block w.heap.size (Nat.lt_succ_self _)
    have q2 : (w2.alloc (.cells c 57)).heap[w.heap.size]? = w2.heap[w.heap.size]? := Below.heap_alloc _ _ _ (by omega)
    exact q1.trans (q2.trans ((hb2.block _ hlt).trans h.cell))
  · exact ((h.below.trans (hb2.mono (by omega))).alloc (by omega) _).trans (hbb.mono (Nat.le_succ _))
theorem fin_told {w w3 : World} {out : List Tok} {v' : Value} (ho : w3.ownsRow (w.heap.size + 1) 57 3 v' out.length (tcells out)) (hb : Below w.heap.size w w3) (hl : out.length ≤ 70000) :
    Told (.ok out) w (.returned (.tuple #[v', .agg #[.int .i64 0, .int .i64 0]])) ((w3.setCell ⟨w.heap.size, 0, none⟩ (.int .i64 0)).setCell ⟨w.heap.size, 1, none⟩ (.int .i64 0)) := by
  refine .inl ⟨out, v', rfl, rfl, own_mono (row_keep ho fun b e => ?_) (Nat.le_succ _), hl, (hb.setCell (p := ⟨w.heap.size, 0, none⟩) (Nat.le_refl _) _).setCell (p := ⟨w.heap.size, 1, none⟩) (Nat.le_refl _) _⟩
  have hne : b ≠ w.heap.size := by have := (ho.lt b e).1; omega
  rw [Below.heap_setCell _ _ _ _ (by show b ≠ w.heap.size; exact hne), Below.heap_setCell _ _ _ _ (by show b ≠ w.heap.size; exact hne)]
theorem cells_at (w : World) (l : List Value) (T : TypeId) (n : Nat) (hn : w.heap.size = n) : ∀ j u, l[j]? = some u → (w.alloc (.cells l.toArray T)).cell? ((⟨n, 0, none⟩ : Addr).add j) = some u := by
  subst hn
  exact new_cells w l T

set_option maxHeartbeats 16000000 in
theorem RefTokens_any (S : ByteArray) (w : World) (hm : S.size ≤ maxLen) : Calls Tryz.prog 10 #[.string S] w (Told (tokensT S.data.toList) w) := by
  unfold maxLen at hm
  obtain ⟨i0, hi, hz0, hz1, hz2⟩ := info_parts Tryz.infoTok
  have HI := Lib.hid (And.intro hi (And.intro hz0 (And.intro hz1 hz2)))
  clear hi hz0 hz1 hz2
  by_cases hs : S.size ≤ 65536
  · have hT : tokensT S.data.toList = goT (S.size + 1) S.data.toList 0 [] := by
      unfold tokensT
      rw [if_neg (by simp; omega)]
      simp
    have hs' : decide ((65536 : Int) < (S.size : Int)) = false := by simp; omega
    obtain ⟨R, hR⟩ : ∃ R, goT (S.size + 1) S.data.toList 0 [] = R := ⟨_, rfl⟩
    rw [hR] at hT
    rw [hT]
    have HR0 : Hid (∀ wr, Below w.heap.size w wr → wr.heap[w.heap.size]? = some (.cells #[.int .i64 0, .int .i64 0] 32) → RfRun 57 32 R w wr S 0 [] (.slice none 0 0)) := fun wr hb hc => ⟨World.ownsRow_nil _ _ _ _, hc, hb, by omega, by simp, S.size + 1, by omega, hR⟩
    clear hR hT
    go_enter Tryz.func10, Tryz.ntmps10
    go_wp2_with fail
    go_loopg [4, 5] S.size (fun gg v u wr => ∃ (p : Nat) (ts : List Tok), gg = S.size - p ∧ u = .int .i64 p ∧ RfRun 57 32 R w wr S p ts v)
    case atStart => exact ⟨0, [], rfl, rfl, HR0.out _ ((Below.refl _ _).alloc (Nat.le_refl _) _) (heap_alloc_new _ _)⟩
    case round =>
      rename_i v
      obtain ⟨p, ts, hgk, rfl, hrun⟩ := hrel
      have HGK := Lib.hid hgk
      have HR := Lib.hid hrun
      have hple := hrun.le
      have hlen := hrun.len
      have hsz := hrun.below.size
      have hlt0 : w.heap.size < wr.heap.size := (Array.getElem?_eq_some_iff.1 hrun.cell).1
      obtain ⟨ao, cc, hv, htk⟩ := toks_of_own hrun.own
      subst hv
      have p0 : (0 : Int) ≤ (p : Int) := by omega
      clear hgk hrun htk HR0
      by_cases hlt : p < S.size
      · have t1 : (p : Int) < (S.size : Int) := by omega
        by_cases c9 : S[p] = 9
        · have f9 : ((S[p].toNat : Int) == 9) = true := byte_eq (k := 9) (by decide) c9
          have HN := Lib.hid (HR.out.blank hlt (by rw [c9]; rfl))
          clear c9
          go_wp2_with fail
          go_roundg (S.size - (p + 1))
          case rel => exact ⟨p + 1, ts, rfl, by go_num, HN.out⟩
          case measure => rw [HGK.out]; omega
        · have m9 := c9
          have f9 : ((S[p].toNat : Int) == 9) = false := byte_ne (k := 9) (by decide) m9
          by_cases c10 : S[p] = 10
          · have f10 : ((S[p].toNat : Int) == 10) = true := byte_eq (k := 10) (by decide) c10
            have HN := Lib.hid (HR.out.blank hlt (by rw [c10]; rfl))
            clear c10
            go_wp2_with fail
            go_roundg (S.size - (p + 1))
            case rel => exact ⟨p + 1, ts, rfl, by go_num, HN.out⟩
            case measure => rw [HGK.out]; omega
          · have m10 := c10
            have f10 : ((S[p].toNat : Int) == 10) = false := byte_ne (k := 10) (by decide) m10
            by_cases c13 : S[p] = 13
            · have f13 : ((S[p].toNat : Int) == 13) = true := byte_eq (k := 13) (by decide) c13
              have HN := Lib.hid (HR.out.blank hlt (by rw [c13]; rfl))
              clear c13
              go_wp2_with fail
              go_roundg (S.size - (p + 1))
              case rel => exact ⟨p + 1, ts, rfl, by go_num, HN.out⟩
              case measure => rw [HGK.out]; omega
            · have m13 := c13
              have f13 : ((S[p].toNat : Int) == 13) = false := byte_ne (k := 13) (by decide) m13
              by_cases c32 : S[p] = 32
              · have f32 : ((S[p].toNat : Int) == 32) = true := byte_eq (k := 32) (by decide) c32
                have HN := Lib.hid (HR.out.blank hlt (by rw [c32]; rfl))
                clear c32
                go_wp2_with fail
                go_roundg (S.size - (p + 1))
                case rel => exact ⟨p + 1, ts, rfl, by go_num, HN.out⟩
                case measure => rw [HGK.out]; omega
              · have m32 := c32
                have f32 : ((S[p].toNat : Int) == 32) = false := byte_ne (k := 32) (by decide) m32
                have HBL : Hid (isBl S[p] = false) := by show _ = _; unfold isBl; simp [c9, c10, c13, c32]
                have HCM := Lib.hid (fun w => rfComment_any S p w (by omega) hlt)
                clear c9 c10 c13 c32 m9 m10 m13 m32
                cases hnc : [47, 47].isPrefixOf (restB S p)
                · rw [hnc] at HCM
                  have HONE := Lib.hid (fun (k n : Nat) (t : Bs) (v' : Value) (w' : World) (ho : oneT (restB S p) = .ok (k, t, n)) => HR.out.one hlt HBL.out hnc ho (v' := v') (w' := w'))
                  have HBAD := Lib.hid (fun (c : Nat) (ho : oneT (restB S p) = .error c) => HR.out.bad hlt HBL.out hnc ho)
                  clear hnc
                  go_wp2_with (go_at_call 27; refine (HCM.out _).mono ?_; rintro e w' ⟨rfl, rfl⟩)
                  refine (rfToken_any S p _ (by omega) hlt).mono ?_
                  rintro e w2 ⟨hr, hb2⟩
                  have HB2 := Lib.hid hb2
                  have hs2 := hb2.size
                  clear hb2
                  cases ho : oneT (restB S p) with
                  | error c =>
                    rw [ho] at hr
                    have hr' : e = _ := hr
                    subst hr'
                    have hc1 := one_err ho
                    have z1 : ((c : Int) == 0) = false := by rw [beq_eq_false_iff_ne]; omega
                    have HE := Lib.hid (HBAD.out c ho)
                    have hcell := (HB2.out.block _ hlt0).trans HR.out.cell
                    have k0 : w2.cell? ⟨w.heap.size, 0, none⟩ = some (.int .i64 0) := by rw [cell_of_row w2 w.heap.size 0 _ 32 (0, 0) hcell]; rfl
                    have k1 : w2.cell? ⟨w.heap.size, 1, none⟩ = some (.int .i64 0) := by rw [cell_of_row w2 w.heap.size 1 _ 32 (0, 0) hcell]; rfl
                    have g0 : w2.frozen? ⟨w.heap.size, 0, none⟩ = false := frozen_of_row w2 w.heap.size 0 _ _ hcell
                    have g1 : w2.frozen? ⟨w.heap.size, 1, none⟩ = false := frozen_of_row w2 w.heap.size 1 _ _ hcell
                    have hw2 : w.heap.size < w2.heap.size := by omega
                    have hw3 : ¬ w.heap.size = w2.heap.size := by omega
                    clear hr ho hc1 hcell
                    go_wp2_with fail
                    refine bodyPost_ret (v := .tuple #[.slice none 0 0, .agg #[.int .i64 (c : Int), .int .i64 (p : Int)]]) (by simp [results, Tryz.results10, go_sem, k0, k1, g0, g1, hw2, hw3]) rfl ?_
                    rw [HE.out]
                    refine .inr ⟨c, p, rfl, rfl, ?_⟩
                    have hbz := HR.out.below.trans (HB2.out.mono (by omega))
                    first
                      | exact ((hbz.alloc (by omega) _).setCell (p := ⟨w.heap.size, 0, none⟩) (Nat.le_refl _) _).setCell (p := ⟨w.heap.size, 1, none⟩) (Nat.le_refl _) _
                      | exact ((hbz.setCell (p := ⟨w.heap.size, 0, none⟩) (Nat.le_refl _) _).setCell (p := ⟨w.heap.size, 1, none⟩) (Nat.le_refl _) _).alloc (by simp [World.setCell]; omega) _
                  | ok x =>
                    obtain ⟨k, t, n⟩ := x
                    rw [ho] at hr
                    have hr' : e = _ := hr
                    subst hr'
                    have HO := Lib.hid ho
                    clear hr ho
                    have hb3 : Below wr.heap.size wr (w2.alloc (.cells #[.int .u8 (k : Int), .string (mkS t), .int .i64 (p : Int)] 57)) := HB2.out.alloc hs2 _
                    have HB3 := Lib.hid hb3
                    have HO2 := Lib.hid (row_keep (w' := w2.alloc (.cells #[.int .u8 (k : Int), .string (mkS t), .int .i64 (p : Int)] 57)) HR.out.own fun b e => hb3.block b (HR.out.own.lt b e).2)
                    have HNW := Lib.hid (cells_at (w2.alloc (.cells #[.int .u8 (k : Int), .string (mkS t), .int .i64 (p : Int)] 57)) (tcs ⟨k, t, p⟩) 57 (w2.heap.size + 1) (by simp))
                    clear hb3
                    go_wp2_with (at_builtin; refine wpList_append_two rfl _ _ 29 rfl (w.heap.size + 1) 57 i0 _ 3 32 Tryz.underlying29 HI.out.1 HI.out.2.1 HI.out.2.2.1 HI.out.2.2.2 rfl (by decide) _ ts.length _ rfl (HO2.out.alloc _) ⟨w2.heap.size + 1, 0, none⟩ 1 1 (by decide) rfl (tcs ⟨k, t, p⟩) rfl HNW.out (tcs_oneCell _) ?_ ?_ ?_ ?_)
                    any_goals (first | omega | (unfold maxLen; omega) | (simp; omega))
                    · intro v' w3 hG
                      have hp := after_push HR.out HB3.out hG
                      have HN := Lib.hid (HONE.out k n t _ _ HO.out hp.1 hp.2.1 hp.2.2)
                      have hn1 := HN.out.1
                      clear hG hp
                      go_wp2_with fail
                      go_roundg (S.size - (p + n))
                      case rel => exact ⟨p + n, _, rfl, rfl, HN.out.2⟩
                      case measure => rw [HGK.out]; have := HN.out.2.le; omega
                · rw [hnc] at HCM
                  have HN := Lib.hid (HR.out.comment hlt hnc)
                  have hpos := (pieceB_len (piece_comment hlt hnc).1).1
                  have HOV := Lib.hid (fun w => rfOver_any S p w (by omega) (by omega))
                  clear hnc
                  go_wp2_with (first | (go_at_call 27; refine (HCM.out _).mono ?_; rintro e w' ⟨rfl, rfl⟩) | (go_at_call 28; refine (HOV.out _).mono ?_; rintro e w' ⟨rfl, rfl⟩))
                  go_roundg (S.size - (p + tw notNL S p))
                  case rel => exact ⟨p + tw notNL S p, ts, rfl, rfl, HN.out⟩
                  case measure => rw [HGK.out]; have := HN.out.le; omega
      · have t1 : ¬ ((p : Int) < (S.size : Int)) := by omega
        have HFIN := Lib.hid (HR.out.fin (by omega))
        have hpe : p = S.size := by omega
        have HPE := Lib.hid hpe
        have HPS : Hid ((S.size : Int) = (p : Int)) := by show _ = _; omega
        have HO2 := Lib.hid HR.out.own
        clear hpe
        go_wp2_with (at_builtin; refine wpList_append_two rfl _ _ 29 rfl (w.heap.size + 1) 57 i0 _ 3 32 Tryz.underlying29 HI.out.1 HI.out.2.1 HI.out.2.2.1 HI.out.2.2.2 rfl (by decide) _ ts.length _ rfl (HO2.out.alloc _) ⟨wr.heap.size, 0, none⟩ 1 1 (by decide) rfl (tcs ⟨7, [], S.size⟩) rfl (new_cells wr (tcs ⟨7, [], S.size⟩) 57) (tcs_oneCell _) ?_ ?_ ?_ ?_)
        any_goals (first | omega | (unfold maxLen; omega) | (simp; omega))
        · intro v' w3 hG
          have hp := after_push HR.out (Below.refl _ _) hG
          have HP := Lib.hid hp
          have k0 : w3.cell? ⟨w.heap.size, 0, none⟩ = some (.int .i64 0) := by rw [cell_of_row w3 w.heap.size 0 _ 32 (0, 0) hp.2.1]; rfl
          have k1 : w3.cell? ⟨w.heap.size, 1, none⟩ = some (.int .i64 0) := by rw [cell_of_row w3 w.heap.size 1 _ 32 (0, 0) hp.2.1]; rfl
          have g0 : w3.frozen? ⟨w.heap.size, 0, none⟩ = false := frozen_of_row w3 w.heap.size 0 _ _ hp.2.1
          have g1 : w3.frozen? ⟨w.heap.size, 1, none⟩ = false := frozen_of_row w3 w.heap.size 1 _ _ hp.2.1
          clear hG hp
          go_wp2_with fail
          refine bodyPost_ret (v := .tuple #[v', .agg #[.int .i64 0, .int .i64 0]]) (by simp [results, Tryz.results10, go_sem, k0, k1, g0, g1]) rfl ?_
          rw [HFIN.out]
          exact fin_told (by rw [tcells_append, tcells_one, HPE.out]; simpa using HP.out.1) HP.out.2.2 (by simp; omega)
  · have hT : tokensT S.data.toList = .error (3, 0) := by
      unfold tokensT
      rw [if_pos (by simp; omega)]
    have hs' : decide ((65536 : Int) < (S.size : Int)) = true := by simp; omega
    rw [hT]
    clear hT
    go_enter Tryz.func10, Tryz.ntmps10
    go_wp2_with fail
    refine bodyPost_ret (v := .tuple #[.slice none 0 0, .agg #[.int .i64 3, .int .i64 0]]) (by simp [results, Tryz.results10, go_sem]) rfl (.inr ⟨3, 0, rfl, rfl, ?_⟩)
    first
      | exact (Below.refl _ _).alloc (Nat.le_refl _) _
      | exact (((Below.refl w.heap.size w).alloc (Nat.le_refl _) _).setCell (p := ⟨w.heap.size, 0, none⟩) (Nat.le_refl _) _).setCell (p := ⟨w.heap.size, 1, none⟩) (Nat.le_refl _) _
end Go.Proofs.YtkcgccbmndgepaaGreatDoor
