/- An alternative. -/
import Derived.Test.YtngimijiafnheaaGreatRdL
import Derived.BigRegion
set_option maxRecDepth 100000
set_option linter.unusedSimpArgs false
namespace LexT
open Go Go.RowKit
set_option linter.unusedVariables false
theorem six_cells {X : World} {p : Nat} {z0 z1 z2 z3 z4 z5 : Value} (h0 : X.cell? ⟨p, 0, none⟩ = some z0) (h1 : X.cell? ⟨p, 1, none⟩ = some z1) (h2 : X.cell? ⟨p, 2, none⟩ = some z2) (h3 : X.cell? ⟨p, 3, none⟩ = some z3) (h4 : X.cell? ⟨p, 4, none⟩ = some z4) (h5 : X.cell? ⟨p, 5, none⟩ = some z5) (a0 a1 a2 a3 a4 a5 : Value) :
    (six X p a0 a1 a2 a3 a4 a5).cell? ⟨p, 0, none⟩ = some a0 ∧ (six X p a0 a1 a2 a3 a4 a5).cell? ⟨p, 1, none⟩ = some a1 ∧ (six X p a0 a1 a2 a3 a4 a5).cell? ⟨p, 2, none⟩ = some a2 ∧ (six X p a0 a1 a2 a3 a4 a5).cell? ⟨p, 3, none⟩ = some a3 ∧ (six X p a0 a1 a2 a3 a4 a5).cell? ⟨p, 4, none⟩ = some a4 ∧ (six X p a0 a1 a2 a3 a4 a5).cell? ⟨p, 5, none⟩ = some a5 := by
  unfold six
  simp [go_sem, h0, h1, h2, h3, h4, h5]
/-- Words as far as they were read. -/
theorem wordsF_stop {N f : Nat} {ws : List Wd} {l : List Tok} (h : kindB 2 l = false) : wordsF N (f + 1) ws l = some (.ok (ws, l)) := by
  show (if kindB 2 l = true then _ else _) = _
  rw [h]; rfl
theorem wordsF_err {N f : Nat} {ws : List Wd} {l : List Tok} {e : Er} (h : kindB 2 l = true) (h2 : wordF N 0 l = some (.error e)) : wordsF N (f + 1) ws l = some (.error e) := by
  show (if kindB 2 l = true then _ else _) = _
  rw [h]
  show bnd (wordF N 0 l) _ = _
  rw [h2]; rfl
theorem wordsF_more {N f : Nat} {ws : List Wd} {l l1 : List Tok} {x : Wd} (h : kindB 2 l = true) (h2 : wordF N 0 l = some (.ok (x, l1))) : wordsF N (f + 1) ws l = wordsF N f (ws ++ [x]) l1 := by
  show (if kindB 2 l = true then _ else _) = _
  rw [h]
  show bnd (wordF N 0 l) _ = _
  rw [h2]; rfl
end LexT
namespace Go.Proofs.YtngimijiafnheaaGreat
open Go.Instr Go.RowKit LexT
set_option linter.unusedVariables false
variable {n b : Nat} {t : Tok} {r l : List Tok}
/-- An alternative as it is read. -/
def altB (pl : Nat) (pr : Bs) (hs : Bool) (ac : Bs) (wh : Int) : Value → Array Value := fun v => #[v, .string (mkS pr), .bool hs, .string (mkS ac), .int .i64 wh, .int .i64 (pl : Int)]
def AltF (lo lo2 b p q pl : Nat) (pr : Bs) (hs : Bool) (ac : Bs) (wh : Int) (w : World) (ws : List Wd) : Prop :=
  FldO lo lo2 b p q 47 (.cells zeroAlt 47 (0, 0)) 50 3 (altB pl pr hs ac wh) w (wdsC 50 ws)
/-- The reader and what is read so far. -/
structure AltS (n lo lo2 b p q pl : Nat) (pr : Bs) (hs : Bool) (ac : Bs) (wh : Int) (w wr : World) (ws : List Wd) (l : List Tok) : Prop where
  rd : Rd n wr b l
  fld : AltF lo lo2 b p q pl pr hs ac wh wr ws
  gr : w.grownBy wr (some b)
theorem AltS.turn {n lo lo2 b p q pl : Nat} {pr : Bs} {hs : Bool} {ac : Bs} {wh : Int} {w wr w2 : World} {ws : List Wd} {l l2 : List Tok} (h : AltS n lo lo2 b p q pl pr hs ac wh w wr ws l) (hr : Rd n w2 b l2) (hg : wr.grownBy w2 (some b)) : AltS n lo lo2 b p q pl pr hs ac wh w w2 ws l2 :=
  ⟨hr, h.fld.keep hg, grown_trans h.gr hg⟩
theorem AltS.under {n lo lo2 b p q pl : Nat} {pr : Bs} {hs : Bool} {ac : Bs} {wh : Int} {w wr w2 : World} {ws : List Wd} {l : List Tok} (h : AltS n lo lo2 b p q pl pr hs ac wh w wr ws l) (hb : Below wr.heap.size wr w2) : AltS n lo lo2 b p q pl pr hs ac wh w w2 ws l := h.turn (h.rd.under hb) (grown_below hb _)
/-- The words' row with one more. -/
theorem AltS.put {n lo lo2 b p q pl kk : Nat} {pr : Bs} {hs : Bool} {ac : Bs} {wh : Int} {w wr w1 W1 W2 : World} {ws : List Wd} {x1 : Wd} {l l1 : List Tok} {v v' : Value} {xs news : List Value} {S' S1 : List Nat} (h : AltS n lo lo2 b p q pl pr hs ac wh w wr ws l) (hn : n ≤ lo) (hw : lo ≤ w.heap.size) (hw2 : w.heap.size ≤ p)
    (hF : wr.heap[p]? = some (.cells (altB pl pr hs ac wh v) 47 (0, 0)) ∧ (wdsC 50 ws).length = kk * 3 ∧ wr.ownsRow 0 50 3 v kk xs ∧ (∀ ww, wr.grownBy ww (some b) → ww.ownsRow 0 50 3 v kk xs) ∧ (∀ g, v.ownBlock = some g → lo2 ≤ g) ∧ AtL wr (wdsC 50 ws) S' xs ∧ (ownL v ++ S').Nodup ∧ ∀ s ∈ S', lo2 ≤ s)
    (hr1 : Rd n w1 b l1) (hgw : wr.grownBy w1 (some b)) (hat1 : AtL w1 (wdC 50 x1) S1 news) (hnd1 : S1.Nodup) (hge1 : ∀ s ∈ S1, wr.heap.size ≤ s)
    (hWB : Below w1.heap.size w1 W1) (ho2 : W2.ownsRow 0 50 3 v' (kk + 1) (xs ++ news)) (hg2 : W1.grownBy W2 v.ownBlock) (hnew2 : ∀ g, v'.ownBlock = some g → v.ownBlock = some g ∨ W1.heap.size ≤ g) :
    AltS n lo lo2 b p q pl pr hs ac wh w (W2.setCell ⟨p, 0, none⟩ v') (ws ++ [x1]) l1 := by
  obtain ⟨hv, hk, ho, hoo, hge, ha, hnd, hS⟩ := hF
  have hd := AtL.same (w' := W1) _ _ _ hat1 (fun g hg => hWB.block g (AtL.lt _ _ _ hat1 g hg))
  have hp1 := h.fld.p1
  have hp2 := h.fld.p2
  have hput := h.fld.put (idx := 0) (m := 1) hv hk ho hge ha hnd hS (grown_then hgw (hWB.mono hgw.size)) hd (by rw [wdC_length]) hnd1 hge1 ho2 hg2 hnew2 (by unfold altB; rfl)
  refine ⟨rd_put _ hr1 hWB hg2 hge (by omega) (by omega), ?_, ?_⟩
  · unfold AltF
    rw [wdsC_append, wdsC_one]; exact hput.1
  · have hx := hput.2
    have hg := h.gr
    have hle := h.fld.le
    refine ⟨hx.os.trans hg.os, hx.tape.trans hg.tape, hx.output.trans hg.output, Nat.le_trans hg.size hx.size, fun i hi hne => ?_⟩
    exact (hx.block i (by omega) (fun hh => hne (by rw [hh])) (by omega)).trans (hg.block i hi hne)
theorem altF_err1 {N : Nat} {l : List Tok} {e : Er} (h : wordsF N N [] l = some (.error e)) : altF N l = some (.error e) := by
  show bnd (wordsF N N [] l) _ = _
  rw [h]; rfl
theorem altF_err2 {N : Nat} {l l1 : List Tok} {ws : List Wd} {e : Er} (h : wordsF N N [] l = some (.ok (ws, l1))) (h2 : atB [[112, 114, 101, 99]] l1 = true) (h3 : nameF l1.tail = .error e) : altF N l = some (.error e) := by
  show bnd (wordsF N N [] l) _ = _
  rw [h]
  show bnd (precF l1) _ = _
  unfold precF
  rw [h2, h3]; rfl
theorem altF_ok {N : Nat} {l l1 l2 : List Tok} {ws : List Wd} {pr : Bs} (h : wordsF N N [] l = some (.ok (ws, l1))) (h2 : precF l1 = some (.ok (pr, l2))) : altF N l = actF2 ws pr (plc l) l2 := by
  show bnd (wordsF N N [] l) _ = _
  rw [h]
  show bnd (precF l1) _ = _
  rw [h2]; rfl
theorem precF_no {l1 : List Tok} (h2 : atB [[112, 114, 101, 99]] l1 = false) : precF l1 = some (.ok ([], l1)) := by
  unfold precF; rw [h2]; rfl
theorem precF_yes {l1 l2 : List Tok} {t : Tok} (h2 : atB [[112, 114, 101, 99]] l1 = true) (h3 : nameF l1.tail = .ok (t, l2)) : precF l1 = some (.ok (t.text, l2)) := by
  unfold precF; rw [h2, h3]; rfl
theorem actF2_no {ws : List Wd} {pr : Bs} {p : Nat} {t : Tok} {r : List Tok} (h : (t.kind == 9) = false) : actF2 ws pr p (t :: r) = some (.ok (⟨ws, pr, false, [], 0, p⟩, t :: r)) := by
  unfold actF2; simp only [h]; rfl
theorem actF2_yes {ws : List Wd} {pr : Bs} {p : Nat} {t : Tok} {r : List Tok} (h : (t.kind == 9) = true) : actF2 ws pr p (t :: r) = some (.ok (⟨ws, pr, true, t.text, t.place + 1, p⟩, r)) := by
  unfold actF2; simp only [h]; rfl
theorem wrap64_i64 (k : Nat) : wrap64 ((k : Int) + 1) = IntKind.i64.wrap (((k + 1 : Nat)) : Int) := by
  rw [IntWalk.i64_left]
  exact congrArg wrap64 (by omega)
theorem alt_end {n lo lo2 b p pl m wn : Nat} {wh : Int} {pr ac : Bs} {hs : Bool} {w w5 : World} {ws : List Wd} {l5 : List Tok} {v : Value} {S : List Nat} {R : Pa Al} (h : AltS n lo lo2 b p lo pl pr hs ac wh w w5 ws l5)
    (hat : At w5 (.row 50 3 (wdsC 50 ws)) S v) (hnd : S.Nodup) (hge : ∀ s ∈ S, lo2 ≤ s) (hlo : w.heap.size = lo) (hn : n ≤ lo) (hR : R = some (.ok (⟨ws, pr, hs, ac, wn, pl⟩, l5))) (hwn : wh = IntKind.i64.wrap (wn : Int)) (hm : l5.length < m) :
    StrP n b altC R m w (.returned (.agg #[v, .string (mkS pr), .bool hs, .string (mkS ac), .int .i64 wh, .int .i64 (pl : Int)])) (six w5 lo v (.string (mkS pr)) (.bool hs) (.string (mkS ac)) (.int .i64 wh) (.int .i64 (pl : Int))) := by
  have hq2 := h.fld.q2
  have hlow := six_low lo w5 lo v (.string (mkS pr)) (.bool hs) (.string (mkS ac)) (.int .i64 wh) (.int .i64 (pl : Int)) (Nat.le_refl _)
  refine .inl ⟨⟨ws, pr, hs, ac, wn, pl⟩, l5, S, [v, .string (mkS pr), .bool hs, .string (mkS ac), .int .i64 wh, .int .i64 (pl : Int)], hR, rfl, h.rd.below (hlow.mono hn), hm, ?_, hnd, fun s hs => by have := hge s hs; omega, ?_⟩
  · have hat' : At (six w5 lo v (.string (mkS pr)) (.bool hs) (.string (mkS ac)) (.int .i64 wh) (.int .i64 (pl : Int))) (.row 50 3 (wdsC 50 ws)) S v :=
      At.same _ _ _ hat (fun g hg => six_same _ _ _ _ _ _ _ _ _ (by have := hge g hg; omega))
    have := AtL.cons hat' (AtL.plainCons (v := .string (mkS pr)) (AtL.plainCons (v := .bool hs) (AtL.plainCons (v := .string (mkS ac)) (AtL.plainCons (v := .int .i64 wh) (AtL.plainCons (v := .int .i64 (pl : Int)) (AtL.nil _))))))
    simpa [altC, strC, hwn] using this
  · subst hlo
    exact grown_then h.gr hlow
theorem AltS.slice {n lo lo2 b p q pl : Nat} {pr : Bs} {hs : Bool} {ac : Bs} {wh : Int} {w wr : World} {ws : List Wd} {l : List Tok} (h : AltS n lo lo2 b p q pl pr hs ac wh w wr ws l) : ∃ ao cn cc S, wr.heap[p]? = some (.cells #[.slice ao cn cc, .string (mkS pr), .bool hs, .string (mkS ac), .int .i64 wh, .int .i64 (pl : Int)] 47 (0, 0)) ∧
    At wr (.row 50 3 (wdsC 50 ws)) S (.slice ao cn cc) ∧ S.Nodup ∧ (∀ s ∈ S, lo2 ≤ s) ∧ wr.heap[q]? = some (.cells #[.slice none 0 0, .string ⟨#[]⟩, .bool false, .string ⟨#[]⟩, .int .i64 0, .int .i64 0] 47 (0, 0)) := by
  obtain ⟨v, S, hv, hat, hnd, hge⟩ := h.fld.row
  obtain ⟨ao, cn, cc, rfl⟩ : ∃ ao cn cc, v = .slice ao cn cc := by
    unfold At at hat
    obtain ⟨nn, xs, S', _, ho9, _⟩ := hat
    obtain ⟨ao, cc, rfl⟩ := own_form ho9
    exact ⟨ao, nn, cc, rfl⟩
  exact ⟨ao, cn, cc, S, hv, hat, hnd, hge, h.fld.ptr⟩
theorem AltS.set {n lo lo2 b p q pl : Nat} {pr : Bs} {hs : Bool} {ac : Bs} {wh : Int} {pr' : Bs} {hs' : Bool} {ac' : Bs} {wh' : Int} {w wr : World} {ws : List Wd} {l : List Tok} (h : AltS n lo lo2 b p q pl pr hs ac wh w wr ws l) (idx : Nat) (u : Value) (hn : n ≤ p) (hw : w.heap.size ≤ p) (hc : ∀ v, (altB pl pr hs ac wh v).setIfInBounds idx u = altB pl pr' hs' ac' wh' v) :
    AltS n lo lo2 b p q pl pr' hs' ac' wh' w (wr.setCell ⟨p, idx, none⟩ u) ws l :=
  ⟨h.rd.below ((Below.refl _ _).setCell (p := ⟨p, idx, none⟩) hn u), h.fld.set idx u hc, grown_then h.gr ((Below.refl _ _).setCell (p := ⟨p, idx, none⟩) hw u)⟩
set_option maxHeartbeats 8000000 in
theorem alt_any (N : Nat) (w : World) (l : List Tok) (h : Rd n w b l) (hN : l.length < N) : Calls Tryz.prog 68 #[.pointer (some ⟨b, 0, none⟩)] w (StrP n b altC (altF N l) (l.length + 1) w) := by
  obtain ⟨t, r, rfl⟩ := h.ends.cons
  have hb0 : Below w.heap.size w (w.alloc (.cells zeroAlt 47)) := (Below.refl _ _).alloc (Nat.le_refl _) _
  have HN := Lib.hid (next_any _ (h.under hb0))
  have HR := Lib.hid (h.under hb0)
  have HB0 := Lib.hid hb0
  have HH := Lib.hid (And.intro h.lt (And.intro h.le (And.intro hN h.small)))
  clear h hN hb0
  have f2 := tokF2
  go_enter Tryz.func68, Tryz.ntmps68
  go_wp2_with fail
  refine HN.out.mono ?_
  rintro e w1 ⟨rfl, hb1⟩
  have HR1 := Lib.hid (HR.out.under hb1)
  have HB1 := Lib.hid hb1
  have HQ := Lib.hid (show w1.heap[w.heap.size]? = some (.cells zeroAlt 47 (0, 0)) from (hb1.block w.heap.size (by simp)).trans (heap_alloc_new w _))
  have hsz : w.heap.size + 1 ≤ w1.heap.size := by have := hb1.size; simpa using this
  have HS1 := Lib.hid hsz
  clear hb1 hsz
  obtain ⟨W1, hW1⟩ : ∃ W1, W1 = w1.alloc (.cells #[.slice none 0 0, .string ⟨#[]⟩, .bool false, .string ⟨#[]⟩, .int .i64 0, .int .i64 (t.place : Int)] 47) := ⟨_, rfl⟩
  have HST : Hid (AltS n w.heap.size (w1.heap.size + 1) b w1.heap.size w.heap.size t.place [] false [] 0 w W1 [] (t :: r)) := by
    have hbW : Below w1.heap.size w1 W1 := by rw [hW1]; exact (Below.refl _ _).alloc (Nat.le_refl _) _
    have hs := HS1.out
    have hh := HH.out
    refine ⟨HR1.out.under hbW, ⟨⟨.slice none 0 0, [], ?_, At.empty _ _ _, List.nodup_nil, by simp⟩, ?_, by omega, by omega, by omega, by omega, by omega, by omega, ?_⟩, ?_⟩
    · rw [hW1]; exact heap_alloc_new w1 _
    · exact (hbW.block _ (by omega)).trans HQ.out
    · rw [hW1]; simp
    · exact grown_under ((HB0.out.trans (HB1.out.mono (by simp))).trans (hbW.mono (by omega))) b
  have HW1 := Lib.hid hW1
  clear hW1
  obtain ⟨i0, hi, hz0, hz1, hz2⟩ := info_parts Tryz.infoWord
  have HI := Lib.hid hi
  have HZ := Lib.hid (And.intro hz0 (And.intro hz1 hz2))
  clear hi hz0 hz1 hz2
  have HPW := Lib.hid (show w.heap.size ≤ w1.heap.size by have := HS1.out; omega)
  unfold tokV
  go_wp2_with fail
  rw [← HW1.out]
  clear HN HR HB0 HR1 HB1 HQ HW1 HS1
  generalize w1.heap.size = p at *
  obtain ⟨lo, hlo⟩ : ∃ lo, w.heap.size = lo := ⟨_, rfl⟩
  have HLO := Lib.hid hlo
  rw [hlo] at HST HPW ⊢
  clear hlo
  go_loopg [11] (r.length + 1) (fun g v wr => ∃ (f : Nat) (ws : List Wd) (l' : List Tok), g = l'.length ∧ l'.length < f ∧ wordsF N N [] (t :: r) = wordsF N f ws l' ∧ ws.length + l'.length ≤ r.length + 1 ∧ AltS n lo (p + 1) b p lo t.place [] false [] 0 w wr ws l')
  case atStart => exact ⟨N, [], t :: r, by simp, by have := HH.out; simpa using this.2.2.1, rfl, by simp, HST.out⟩
  case round =>
    obtain ⟨f, ws, l', hg, hf, hwf, hlen, hst⟩ := hrel
    obtain ⟨t', r', rfl⟩ := hst.rd.ends.cons
    have HT := Lib.hid (isNext_any 2 wr hst.rd)
    have HST := Lib.hid hst
    have HQ := Lib.hid (And.intro hg (And.intro hf (And.intro hwf hlen)))
    clear hg hf hwf hlen hst
    go_wp2_with fail
    refine HT.out.mono ?_
    rintro e w2 ⟨rfl, hb2⟩
    have HST2 := Lib.hid (HST.out.under hb2)
    clear hb2 HT
    cases hk2 : (t'.kind == 2)
    · have HWO : Hid (wordsF N N [] (t :: r) = some (.ok (ws, t' :: r'))) := by
        obtain ⟨hg, hf, hwf, hlen⟩ := HQ.out
        obtain ⟨f', rfl⟩ : ∃ k, f = k + 1 := ⟨f - 1, by omega⟩
        exact hwf.trans (wordsF_stop hk2)
      have HL0 := Lib.hid (show (t' :: r').length ≤ r.length + 1 by have := HQ.out.2.2.2; omega)
      have HH2 := Lib.hid (show n ≤ lo by have := HH.out.2.1; have := HLO.out; omega)
      have HPW2 := Lib.hid (show n ≤ p by have := HH2.out; have := HPW.out; omega)
      have HT := Lib.hid (takes_any [112, 114, 101, 99] (by simp) w2 HST2.out.rd)
      clear hk2 HQ HST
      go_wp2_with fail
      refine HT.out.mono ?_
      rintro e w3 (⟨ha, rfl, hr3, hg3⟩ | ⟨ha, rfl, hr3, hlt, hg3⟩)
      · have HX := Lib.hid (HST2.out.turn hr3 hg3)
        have HPR : Hid (altF N (t :: r) = actF2 ws [] t.place (t' :: r')) := altF_ok HWO.out (precF_no ha)
        have HL2 := HL0
        clear ha hr3 hg3
        go_wp2_with fail

        have HN5 := Lib.hid (isNext_any 9 _ HX.out.rd)
        go_wp2_with fail
        refine HN5.out.mono ?_
        rintro e w5 ⟨rfl, hb5⟩
        have HX := Lib.hid (HX.out.under hb5)
        clear hb5 HN5
        cases hk9 : (t'.kind == 9)
        · have HRR : Hid (altF N (t :: r) = some (.ok (⟨ws, [], false, [], 0, t.place⟩, t' :: r'))) := HPR.out.trans (actF2_no hk9)
          have HLEN := Lib.hid (show (t' :: r').length < r.length + 2 by have := HL2.out; omega)
          clear hk9
          obtain ⟨ao, cn, cc, S, hv, hat, hnd, hge, hz⟩ := HX.out.slice
          obtain ⟨⟨g0, g1, g2, g3, g4, g5⟩, _⟩ := six_facts hv
          obtain ⟨⟨q0, q1, q2, q3, q4, q5⟩, u0, u1, u2, u3, u4, u5⟩ := six_facts hz
          have HE := Lib.hid (six_cells q0 q1 q2 q3 q4 q5 (.slice ao cn cc) (.string (mkS [])) (.bool false) (.string (mkS [])) (.int .i64 (0 : Int)) (.int .i64 (t.place : Int)))
          have HA := Lib.hid (And.intro hat (And.intro hnd hge))
          clear hv hat hnd hge hz
          go_wp2_with fail
          refine bodyPost_ret (v := .agg #[.slice ao cn cc, .string (mkS []), .bool false, .string (mkS []), .int .i64 (0 : Int), .int .i64 (t.place : Int)]) (by simp [results, Tryz.results68, go_sem, q0, q1, q2, q3, q4, q5]) rfl ?_
          exact alt_end HX.out HA.out.1 HA.out.2.1 HA.out.2.2 HLO.out HH2.out HRR.out (by rfl) HLEN.out

        · have HRR : Hid (altF N (t :: r) = some (.ok (⟨ws, [], true, t'.text, t'.place + 1, t.place⟩, r'))) := HPR.out.trans (actF2_yes hk9)
          have HLEN := Lib.hid (show r'.length < r.length + 2 by have := HL2.out; simp at this; omega)
          have HTK := Lib.hid (take_any w5 HX.out.rd (HX.out.rd.ends.tail (.inl (by have : t'.kind = 9 := by simpa using hk9
                                                                                    omega))))
          clear hk9
          go_wp2_with fail
          refine HTK.out.mono ?_
          rintro e w6 ⟨rfl, hr6, hg6⟩
          have HX := Lib.hid (HX.out.turn hr6 hg6)
          clear hr6 hg6
          obtain ⟨W6, hW6⟩ : ∃ W6, W6 = w6.alloc (.cells #[.int .u8 (t'.kind : Int), .string (mkS t'.text), .int .i64 (t'.place : Int)] 110) := ⟨_, rfl⟩
          have hb6 : Below w6.heap.size w6 W6 := by rw [hW6]; exact (Below.refl _ _).alloc (Nat.le_refl _) _
          obtain ⟨⟨k0, k1, k2⟩, _⟩ := three_facts (show W6.heap[w6.heap.size]? = some (.cells #[.int .u8 (t'.kind : Int), .string (mkS t'.text), .int .i64 (t'.place : Int)] 110 (0, 0)) by rw [hW6]; exact heap_alloc_new w6 _)
          have HW6 := Lib.hid hW6
          have HL6 := Lib.hid (show p < w6.heap.size by have := HX.out.fld.p2; have := HX.out.fld.le; omega)
          have HX := Lib.hid (HX.out.under hb6)
          obtain ⟨ao, cn, cc, S, hv, hat, hnd, hge, hz⟩ := HX.out.slice
          obtain ⟨⟨g0, g1, g2, g3, g4, g5⟩, v0, v1, v2, v3, v4, v5⟩ := six_facts hv
          clear hW6 hb6 hv hat hnd hge hz
          unfold tokV
          go_upto_region 8 with fail
          rw [← HW6.out]
          have hlp : ¬ w6.heap.size = p := by have := HX.out.fld.p2; have := HX.out.fld.le; have := HL6.out; omega
          have hpl : ¬ p = w6.heap.size := fun h => hlp h.symm
          go_region
          clear g0 g1 g2 g3 g4 g5 v0 v1 v2 v3 v4 v5
          have HX := Lib.hid ((((HX.out.set (pr' := []) (hs' := true) (ac' := []) (wh' := 0) 2 (.bool true) HPW2.out (by have := HPW.out; have := HLO.out; omega) (fun v => by unfold altB; rfl)).set (pr' := []) (hs' := true) (ac' := t'.text) (wh' := 0) 3 (.string (mkS t'.text)) HPW2.out (by have := HPW.out; have := HLO.out; omega) (fun v => by unfold altB; rfl)).set (pr' := []) (hs' := true) (ac' := t'.text) (wh' := wrap64 ((t'.place : Int) + 1)) 4 (.int .i64 (wrap64 ((t'.place : Int) + 1))) HPW2.out (by have := HPW.out; have := HLO.out; omega) (fun v => by unfold altB; rfl)).under (Below.refl _ _).drew)
          generalize ((((W6.setCell ⟨p, 2, none⟩ (.bool true)).setCell ⟨p, 3, none⟩ (.string (mkS t'.text))).setCell ⟨p, 4, none⟩ (.int .i64 (wrap64 ((t'.place : Int) + 1))))).drew = w5 at *
          obtain ⟨ao, cn, cc, S, hv, hat, hnd, hge, hz⟩ := HX.out.slice
          obtain ⟨⟨g0, g1, g2, g3, g4, g5⟩, _⟩ := six_facts hv
          obtain ⟨⟨q0, q1, q2, q3, q4, q5⟩, u0, u1, u2, u3, u4, u5⟩ := six_facts hz
          have HE := Lib.hid (six_cells q0 q1 q2 q3 q4 q5 (.slice ao cn cc) (.string (mkS [])) (.bool true) (.string (mkS t'.text)) (.int .i64 (wrap64 ((t'.place : Int) + 1) : Int)) (.int .i64 (t.place : Int)))
          have HA := Lib.hid (And.intro hat (And.intro hnd hge))
          clear hv hat hnd hge hz
          go_wp2_with fail
          refine bodyPost_ret (v := .agg #[.slice ao cn cc, .string (mkS []), .bool true, .string (mkS t'.text), .int .i64 (wrap64 ((t'.place : Int) + 1) : Int), .int .i64 (t.place : Int)]) (by simp [results, Tryz.results68, go_sem, q0, q1, q2, q3, q4, q5]) rfl ?_
          exact alt_end HX.out HA.out.1 HA.out.2.1 HA.out.2.2 HLO.out HH2.out HRR.out (wrap64_i64 _) HLEN.out


      · have HX := Lib.hid (HST2.out.turn hr3 hg3)
        have HNM := Lib.hid (name_any w3 hr3)
        have HLT := Lib.hid (And.intro ha hlt)
        clear ha hlt hr3 hg3
        go_wp2_with fail
        refine HNM.out.mono ?_
        rintro e w4 (⟨t4, l4, hn4, rfl, hr4, hl4, hg4⟩ | ⟨c', q', hn4, rfl, hg4⟩)
        · have HPR : Hid (altF N (t :: r) = actF2 ws t4.text t.place l4) := altF_ok HWO.out (precF_yes HLT.out.1 hn4)
          have HL2 := Lib.hid (show l4.length ≤ r.length + 1 by have := HL0.out; have := HLT.out.2; omega)
          have HX := Lib.hid (HX.out.turn hr4 hg4)
          obtain ⟨ao, cn, cc, S, hv, hat, hnd, hge, hz⟩ := HX.out.slice
          obtain ⟨⟨g0, g1, g2, g3, g4, g5⟩, v0, v1, v2, v3, v4, v5⟩ := six_facts hv
          have HX := Lib.hid (HX.out.set (pr' := t4.text) (hs' := false) (ac' := []) (wh' := 0) 1 (.string (mkS t4.text)) HPW2.out (by have := HPW.out; have := HLO.out; omega) (fun v => by unfold altB; rfl))
          clear hn4 hr4 hl4 hg4 hv hat hnd hge hz
          have f1 := tokF1
          unfold tokV
          go_upto_region 6 with fail
          clear g0 g1 g2 g3 g4 g5 v0 v1 v2 v3 v4 v5
          generalize (w4.setCell ⟨p, 1, none⟩ (.string (mkS t4.text))) = w4s at *
          obtain ⟨t5, r5, hl5⟩ := HX.out.rd.ends.cons
          subst hl5
          have HN5 := Lib.hid (isNext_any 9 _ HX.out.rd)
          go_wp2_with fail
          refine HN5.out.mono ?_
          rintro e w5 ⟨rfl, hb5⟩
          have HX := Lib.hid (HX.out.under hb5)
          clear hb5 HN5
          cases hk9 : (t5.kind == 9)
          · have HRR : Hid (altF N (t :: r) = some (.ok (⟨ws, t4.text, false, [], 0, t.place⟩, t5 :: r5))) := HPR.out.trans (actF2_no hk9)
            have HLEN := Lib.hid (show (t5 :: r5).length < r.length + 2 by have := HL2.out; omega)
            clear hk9
            obtain ⟨ao, cn, cc, S, hv, hat, hnd, hge, hz⟩ := HX.out.slice
            obtain ⟨⟨g0, g1, g2, g3, g4, g5⟩, _⟩ := six_facts hv
            obtain ⟨⟨q0, q1, q2, q3, q4, q5⟩, u0, u1, u2, u3, u4, u5⟩ := six_facts hz
            have HE := Lib.hid (six_cells q0 q1 q2 q3 q4 q5 (.slice ao cn cc) (.string (mkS t4.text)) (.bool false) (.string (mkS [])) (.int .i64 (0 : Int)) (.int .i64 (t.place : Int)))
            have HA := Lib.hid (And.intro hat (And.intro hnd hge))
            clear hv hat hnd hge hz
            go_wp2_with fail
            refine bodyPost_ret (v := .agg #[.slice ao cn cc, .string (mkS t4.text), .bool false, .string (mkS []), .int .i64 (0 : Int), .int .i64 (t.place : Int)]) (by simp [results, Tryz.results68, go_sem, q0, q1, q2, q3, q4, q5]) rfl ?_
            exact alt_end HX.out HA.out.1 HA.out.2.1 HA.out.2.2 HLO.out HH2.out HRR.out (by rfl) HLEN.out

          · have HRR : Hid (altF N (t :: r) = some (.ok (⟨ws, t4.text, true, t5.text, t5.place + 1, t.place⟩, r5))) := HPR.out.trans (actF2_yes hk9)
            have HLEN := Lib.hid (show r5.length < r.length + 2 by have := HL2.out; simp at this; omega)
            have HTK := Lib.hid (take_any w5 HX.out.rd (HX.out.rd.ends.tail (.inl (by have : t5.kind = 9 := by simpa using hk9
                                                                                      omega))))
            clear hk9
            go_wp2_with fail
            refine HTK.out.mono ?_
            rintro e w6 ⟨rfl, hr6, hg6⟩
            have HX := Lib.hid (HX.out.turn hr6 hg6)
            clear hr6 hg6
            obtain ⟨W6, hW6⟩ : ∃ W6, W6 = w6.alloc (.cells #[.int .u8 (t5.kind : Int), .string (mkS t5.text), .int .i64 (t5.place : Int)] 110) := ⟨_, rfl⟩
            have hb6 : Below w6.heap.size w6 W6 := by rw [hW6]; exact (Below.refl _ _).alloc (Nat.le_refl _) _
            obtain ⟨⟨k0, k1, k2⟩, _⟩ := three_facts (show W6.heap[w6.heap.size]? = some (.cells #[.int .u8 (t5.kind : Int), .string (mkS t5.text), .int .i64 (t5.place : Int)] 110 (0, 0)) by rw [hW6]; exact heap_alloc_new w6 _)
            have HW6 := Lib.hid hW6
            have HL6 := Lib.hid (show p < w6.heap.size by have := HX.out.fld.p2; have := HX.out.fld.le; omega)
            have HX := Lib.hid (HX.out.under hb6)
            obtain ⟨ao, cn, cc, S, hv, hat, hnd, hge, hz⟩ := HX.out.slice
            obtain ⟨⟨g0, g1, g2, g3, g4, g5⟩, v0, v1, v2, v3, v4, v5⟩ := six_facts hv
            clear hW6 hb6 hv hat hnd hge hz
            unfold tokV
            go_upto_region 8 with fail
            rw [← HW6.out]
            have hlp : ¬ w6.heap.size = p := by have := HX.out.fld.p2; have := HX.out.fld.le; have := HL6.out; omega
            have hpl : ¬ p = w6.heap.size := fun h => hlp h.symm
            go_region
            clear g0 g1 g2 g3 g4 g5 v0 v1 v2 v3 v4 v5
            have HX := Lib.hid ((((HX.out.set (pr' := t4.text) (hs' := true) (ac' := []) (wh' := 0) 2 (.bool true) HPW2.out (by have := HPW.out; have := HLO.out; omega) (fun v => by unfold altB; rfl)).set (pr' := t4.text) (hs' := true) (ac' := t5.text) (wh' := 0) 3 (.string (mkS t5.text)) HPW2.out (by have := HPW.out; have := HLO.out; omega) (fun v => by unfold altB; rfl)).set (pr' := t4.text) (hs' := true) (ac' := t5.text) (wh' := wrap64 ((t5.place : Int) + 1)) 4 (.int .i64 (wrap64 ((t5.place : Int) + 1))) HPW2.out (by have := HPW.out; have := HLO.out; omega) (fun v => by unfold altB; rfl)).under (Below.refl _ _).drew)
            generalize ((((W6.setCell ⟨p, 2, none⟩ (.bool true)).setCell ⟨p, 3, none⟩ (.string (mkS t5.text))).setCell ⟨p, 4, none⟩ (.int .i64 (wrap64 ((t5.place : Int) + 1))))).drew = w5 at *
            obtain ⟨ao, cn, cc, S, hv, hat, hnd, hge, hz⟩ := HX.out.slice
            obtain ⟨⟨g0, g1, g2, g3, g4, g5⟩, _⟩ := six_facts hv
            obtain ⟨⟨q0, q1, q2, q3, q4, q5⟩, u0, u1, u2, u3, u4, u5⟩ := six_facts hz
            have HE := Lib.hid (six_cells q0 q1 q2 q3 q4 q5 (.slice ao cn cc) (.string (mkS t4.text)) (.bool true) (.string (mkS t5.text)) (.int .i64 (wrap64 ((t5.place : Int) + 1) : Int)) (.int .i64 (t.place : Int)))
            have HA := Lib.hid (And.intro hat (And.intro hnd hge))
            clear hv hat hnd hge hz
            go_wp2_with fail
            refine bodyPost_ret (v := .agg #[.slice ao cn cc, .string (mkS t4.text), .bool true, .string (mkS t5.text), .int .i64 (wrap64 ((t5.place : Int) + 1) : Int), .int .i64 (t.place : Int)]) (by simp [results, Tryz.results68, go_sem, q0, q1, q2, q3, q4, q5]) rfl ?_
            exact alt_end HX.out HA.out.1 HA.out.2.1 HA.out.2.2 HLO.out HH2.out HRR.out (wrap64_i64 _) HLEN.out


        · exact ⟨rfl, .inr ⟨c', q', altF_err2 HWO.out HLT.out.1 hn4, rfl, grown_trans HX.out.gr hg4⟩⟩
    · obtain ⟨v, kk, xs, hv, hkk, ho, hoo, hge, S', ha, hnd, hS⟩ := HST2.out.fld.open_
      obtain ⟨ao, cc, rfl⟩ := own_form ho
      have HWD := Lib.hid (word_any N 0 w2.drew (t' :: r') (HST2.out.rd.under (Below.refl _ _).drew) (by have := HQ.out; have := HH.out; simp at *; omega) (by omega))
      have c1 : w2.cell? ⟨p, 0, none⟩ = some (.slice ao kk cc) := by rw [cell_of_row w2 p 0 _ _ _ hv]; rfl
      have z1 : w2.frozen? ⟨p, 0, none⟩ = false := by simp [World.frozen?, hv]
      have hplt : p < w2.heap.size := World.block_lt_of_cell? _ _ c1
      have HKK := Lib.hid (show ws.length = kk by have := hkk; rw [wdsC_length] at this; omega)
      have HF := Lib.hid (And.intro hv (And.intro hkk (And.intro ho (And.intro hoo (And.intro hge (And.intro ha (And.intro hnd hS)))))))
      have HBP := Lib.hid (show b < p by have := HST2.out.fld.b0; have := HST2.out.fld.p1; omega)
      have HK2 := Lib.hid hk2
      clear hv hkk ho hoo hge ha hnd hS hk2
      go_wp2_with fail
      go_region_law (first
        | (go_simp
           go_at_call 96
           refine HWD.out.mono ?_
           rintro e w3 (⟨x1, l1, S1, ys, hn1, rfl, hr1, hl1, hat1, hnd1, hge1, hg1⟩ | ⟨c', q', hn1, rfl, hg1⟩)
           case inr =>
             refine ⟨?_, .inr ⟨c', q', ?_, rfl, grown_trans HST2.out.gr (grown_trans (grown_under (Below.refl _ _).drew b) hg1)⟩⟩
             · first | rfl | (simp [go_sem]; done) | (unfold Act.put; simp)
             · obtain ⟨hg, hf, hwf, hlen⟩ := HQ.out
               obtain ⟨f', rfl⟩ : ∃ k, f = k + 1 := ⟨f - 1, by omega⟩
               exact altF_err1 (hwf.trans (wordsF_err HK2.out hn1))
           obtain ⟨nm, ao1, n1, c1', q1', as1, hx1, hys⟩ := hat1.word
           subst hys
           have hgw : w2.grownBy w3 (some b) := grown_trans (grown_under (Below.refl _ _).drew b) hg1
           have HOA : Hid (∀ ww, Below w3.heap.size w3 ww → ww.ownsRow 0 50 3 (.slice ao kk cc) kk xs) := fun ww hb => HF.out.2.2.2.1 _ (grown_then hgw (hb.mono hgw.size))
           have HGA : Hid (∀ ww, Below w3.heap.size w3 ww → w2.grownBy ww (some b)) := fun ww hb => grown_then hgw (hb.mono hgw.size)
           have d1 : w3.cell? ⟨p, 0, none⟩ = some (.slice ao kk cc) := (World.cell?_of_block (a := ⟨p, 0, none⟩) (hgw.block p hplt (by intro hh; injection hh with hh; have := HBP.out; omega))).trans c1
           have hp3 : p < w3.heap.size := by have := hgw.size; omega
           have H1 := Lib.hid (And.intro hn1 (And.intro hr1 (And.intro hl1 (And.intro hgw (And.intro hat1 (And.intro hnd1 hge1))))))
           clear hn1 hr1 hl1 hg1 hgw hat1 hnd1 hge1 hx1)
        | (refine step_append_r rfl (.tmp 16) (.tmp 19) 45 rfl 50 i0 _ 3 48 Tryz.underlying45 HI.out HZ.out.1 HZ.out.2.1 HZ.out.2.2 rfl (by decide) (.slice ao kk cc) kk xs rfl (HOA.out _ ((Below.refl _ _).alloc (Nat.le_refl _) _)) ⟨w3.heap.size, 0, none⟩ 1 1 rfl [.string (mkS nm), .slice ao1 n1 c1', .int .i64 (q1' : Int)] rfl (new_cells w3 [.string (mkS nm), .slice ao1 n1 c1', .int .i64 (q1' : Int)] 50) (by simp [Value.oneCell']) (by have := HKK.out; have := HQ.out; have := HH.out; simp at *; unfold maxLen; omega) (by have := HKK.out; have := HQ.out; have := HH.out; simp at *; omega) ?_
           intro v2 W2 ho2 hg2 hnew2
           obtain ⟨g2, c2, hv2⟩ := own_pos ho2 (by omega)
           subst hv2
           have hp2 := fldO_at HST2.out.fld HF.out.1 HF.out.2.2.2.2.1 (HGA.out _ ((Below.refl _ _).alloc (Nat.le_refl _) _)) hg2
           have y1 : W2.cell? ⟨p, 0, none⟩ = some (.slice ao kk cc) := by rw [cell_of_row W2 p 0 _ _ _ hp2]; rfl
           have y2 : W2.frozen? ⟨p, 0, none⟩ = false := by simp [World.frozen?, hp2]
           have H2 := Lib.hid (And.intro ho2 (And.intro hg2 hnew2))
           clear ho2 hg2 hnew2 hp2))
      all_goals
        go_wp2_with fail
        obtain ⟨hg, hf, hwf, hlen⟩ := HQ.out
        obtain ⟨f', rfl⟩ : ∃ k, f = k + 1 := ⟨f - 1, by omega⟩
        obtain ⟨hn1, hr1, hl1, hgw, hat1, hnd1, hge1⟩ := H1.out
        have hlo := HLO.out
        have hnn := HH.out.2.1
        have hpw := HPW.out
        go_roundg (l1.length)
        case rel => exact ⟨f', ws ++ [x1], l1, rfl, by omega, hwf.trans (wordsF_more HK2.out hn1), by simp at *; omega, HST2.out.put (by omega) (by omega) (by omega) HF.out hr1 hgw hat1 hnd1 hge1 ((Below.refl _ _).alloc (Nat.le_refl _) _) H2.out.1 H2.out.2.1 H2.out.2.2⟩
        case measure => omega
end Go.Proofs.YtngimijiafnheaaGreat
