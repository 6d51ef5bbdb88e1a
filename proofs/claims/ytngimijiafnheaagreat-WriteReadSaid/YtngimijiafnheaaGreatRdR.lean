/- A declaration: the walk. -/
import Derived.Test.YtngimijiafnheaaGreatRdQ
set_option maxRecDepth 100000
set_option linter.unusedSimpArgs false
namespace LexT
open Go Go.RowKit
set_option linter.unusedVariables false
theorem str_eq (a c : Bs) : ((mkS a).toList == (mkS c).toList) = (a == c) := by rw [mkS_toList, mkS_toList]
theorem declF_1 {N : Nat} {l : List Tok} {e : Er} (h : needF kinds l = .error e) : declF N l = some (.error e) := by unfold declF; rw [h]; rfl
theorem declF_2 {N : Nat} {l l1 : List Tok} {t : Tok} {e : Er} (h : needF kinds l = .ok (t, l1)) (h2 : typedF t.text l1 = some (.error e)) : declF N l = some (.error e) := by
  unfold declF; rw [h]
  show bnd (typedF t.text l1) _ = _
  rw [h2]; rfl
theorem declF_3 {N : Nat} {l l1 l2 : List Tok} {t : Tok} {ty : Bs} {e : Er} (h : needF kinds l = .ok (t, l1)) (h2 : typedF t.text l1 = some (.ok (ty, l2))) (h3 : nameF l2 = .error e) : declF N l = some (.error e) := by
  unfold declF; rw [h]
  show bnd (typedF t.text l1) _ = _
  rw [h2]
  show bnd (some (nameF l2)) _ = _
  rw [h3]; rfl
theorem declF_4 {N : Nat} {l l1 l2 l3 : List Tok} {t t3 : Tok} {ty : Bs} {e : Er} (h : needF kinds l = .ok (t, l1)) (h2 : typedF t.text l1 = some (.ok (ty, l2))) (h3 : nameF l2 = .ok (t3, l3)) (h4 : namesF N [t3.text] l3 = some (.error e)) : declF N l = some (.error e) := by
  unfold declF; rw [h]
  show bnd (typedF t.text l1) _ = _
  rw [h2]
  show bnd (some (nameF l2)) _ = _
  rw [h3]
  show bnd (namesF N [t3.text] l3) _ = _
  rw [h4]; rfl
theorem declF_5 {N : Nat} {l l1 l2 l3 l4 : List Tok} {t t3 : Tok} {ty : Bs} {ns : List Bs} (h : needF kinds l = .ok (t, l1)) (h2 : typedF t.text l1 = some (.ok (ty, l2))) (h3 : nameF l2 = .ok (t3, l3)) (h4 : namesF N [t3.text] l3 = some (.ok (ns, l4))) : declF N l = some (.ok (⟨t.text, ty, ns, t.place⟩, l4)) := by
  unfold declF; rw [h]
  show bnd (typedF t.text l1) _ = _
  rw [h2]
  show bnd (some (nameF l2)) _ = _
  rw [h3]
  show bnd (namesF N [t3.text] l3) _ = _
  rw [h4]; rfl
theorem namesF_stop {f : Nat} {ns : List Bs} {l : List Tok} (h : atB [[59]] l = true) : namesF (f + 1) ns l = some (.ok (ns, l.tail)) := by
  show (if atB [[59]] l = true then _ else _) = _
  rw [h]; rfl
theorem namesF_err {f : Nat} {ns : List Bs} {l : List Tok} {e : Er} (h : atB [[59]] l = false) (h2 : nameF l = .error e) : namesF (f + 1) ns l = some (.error e) := by
  show (if atB [[59]] l = true then _ else _) = _
  rw [h]
  show bnd (some (nameF l)) _ = _
  rw [h2]; rfl
theorem namesF_more {f : Nat} {ns : List Bs} {l l1 : List Tok} {t : Tok} (h : atB [[59]] l = false) (h2 : nameF l = .ok (t, l1)) : namesF (f + 1) ns l = namesF f (ns ++ [t.text]) l1 := by
  show (if atB [[59]] l = true then _ else _) = _
  rw [h]
  show bnd (some (nameF l)) _ = _
  rw [h2]; rfl
end LexT
namespace Go.Proofs.YtngimijiafnheaaGreat
open Go.Instr Go.RowKit LexT
set_option linter.unusedVariables false
variable {n b : Nat} {t : Tok} {r l : List Tok}
def zeroDecl : Array Value := #[.string ⟨#[]⟩, .string ⟨#[]⟩, .slice none 0 0, .int .i64 0]
/-- A declaration as it is read. -/
structure DcS (n lo lo2 b p : Nat) (kd ty : Bs) (pl : Nat) (w V : World) (ns : List Bs) (l : List Tok) : Prop where
  rd : Rd n V b l
  fld : FldO lo lo2 b p lo 41 (.cells zeroDecl 41 (0, 0)) 9 1 (fun v => #[.string (mkS kd), .string (mkS ty), v, .int .i64 (pl : Int)]) V (ns.map strC)
  gr : w.grownBy V (some b)
theorem DcS.turn {n lo lo2 p pl : Nat} {kd ty : Bs} {w V V2 : World} {ns : List Bs} {l l2 : List Tok} (h : DcS n lo lo2 b p kd ty pl w V ns l) (hr : Rd n V2 b l2) (hg : V.grownBy V2 (some b)) : DcS n lo lo2 b p kd ty pl w V2 ns l2 := ⟨hr, h.fld.keep hg, grown_trans h.gr hg⟩
theorem DcS.under {n lo lo2 p pl : Nat} {kd ty : Bs} {w V V2 : World} {ns : List Bs} {l : List Tok} (h : DcS n lo lo2 b p kd ty pl w V ns l) (hb : Below V.heap.size V V2) : DcS n lo lo2 b p kd ty pl w V2 ns l := h.turn (h.rd.under hb) (grown_below hb _)
theorem DcS.typed {n lo lo2 p pl : Nat} {kd ty : Bs} {w V : World} {ns : List Bs} {l : List Tok} (h : DcS n lo lo2 b p kd [] pl w V ns l) (hn : n ≤ p) (hw : w.heap.size ≤ p) : DcS n lo lo2 b p kd ty pl w (V.setCell ⟨p, 1, none⟩ (.string (mkS ty))) ns l :=
  ⟨h.rd.below ((Below.refl _ _).setCell (p := ⟨p, 1, none⟩) hn _), h.fld.set 1 _ (fun v => rfl), grown_then h.gr ((Below.refl _ _).setCell (p := ⟨p, 1, none⟩) hw _)⟩
theorem DcS.first {n lo lo2 p pl : Nat} {kd ty : Bs} {w V : World} {ns : List Bs} {l : List Tok} (h : DcS n lo lo2 b p kd ty pl w V ns l) (hn : n ≤ p) (hw : w.heap.size ≤ p) (x : Bs) : DcS n lo lo2 b p kd ty pl w ((V.alloc (.cells #[.string (mkS x)] 9)).setCell ⟨p, 2, none⟩ (.slice (some ⟨V.heap.size, 0, none⟩) 1 1)) [x] l := by
  have hb : Below V.heap.size V (V.alloc (.cells #[.string (mkS x)] 9)) := (Below.refl _ _).alloc (Nat.le_refl _) _
  exact ⟨(h.rd.under hb).below ((Below.refl _ _).setCell (p := ⟨p, 2, none⟩) hn _), h.fld.fresh [.string (mkS x)] [] (strs_at V [x]) List.nodup_nil (by simp) rfl (by unfold maxLen; omega) (fun v v' => rfl), grown_then (grown_trans h.gr (grown_below hb _)) ((Below.refl _ _).setCell (p := ⟨p, 2, none⟩) hw _)⟩
theorem DcS.slice {n lo lo2 p pl : Nat} {kd ty : Bs} {w V : World} {ns : List Bs} {l : List Tok} (h : DcS n lo lo2 b p kd ty pl w V ns l) : ∃ ao cn cc S, V.heap[p]? = some (.cells #[.string (mkS kd), .string (mkS ty), .slice ao cn cc, .int .i64 (pl : Int)] 41 (0, 0)) ∧
    At V (.row 9 1 (ns.map strC)) S (.slice ao cn cc) ∧ S.Nodup ∧ (∀ s ∈ S, lo2 ≤ s) ∧ V.heap[lo]? = some (.cells #[.string ⟨#[]⟩, .string ⟨#[]⟩, .slice none 0 0, .int .i64 0] 41 (0, 0)) := by
  obtain ⟨v, S, hv, hat, hnd, hge⟩ := h.fld.row
  obtain ⟨ao, cn, cc, rfl⟩ := hat.slice
  exact ⟨ao, cn, cc, S, hv, hat, hnd, hge, h.fld.ptr⟩
theorem decl_end {n lo lo2 p pl m : Nat} {kd ty : Bs} {w V : World} {ns : List Bs} {l5 : List Tok} {v : Value} {S : List Nat} {R : Pa De} (h : DcS n lo lo2 b p kd ty pl w V ns l5) (hat : At V (.row 9 1 (ns.map strC)) S v) (hnd : S.Nodup) (hge : ∀ s ∈ S, lo2 ≤ s) (hlo : w.heap.size = lo) (hn : n ≤ lo) (hR : R = some (.ok (⟨kd, ty, ns, pl⟩, l5))) (hm : l5.length < m) :
    StrP n b declC R m w (.returned (.agg #[.string (mkS kd), .string (mkS ty), v, .int .i64 (pl : Int)])) (four V lo (.string (mkS kd)) (.string (mkS ty)) v (.int .i64 (pl : Int))) := by
  have hq2 := h.fld.q2
  have hlow := four_low lo V lo (.string (mkS kd)) (.string (mkS ty)) v (.int .i64 (pl : Int)) (Nat.le_refl _)
  refine .inl ⟨⟨kd, ty, ns, pl⟩, l5, S, [.string (mkS kd), .string (mkS ty), v, .int .i64 (pl : Int)], hR, rfl, h.rd.below (hlow.mono hn), hm, ?_, hnd, fun s hs => by have := hge s hs; omega, ?_⟩
  · have hat' : At (four V lo (.string (mkS kd)) (.string (mkS ty)) v (.int .i64 (pl : Int))) (.row 9 1 (ns.map strC)) S v := hat.same _ _ _ (fun g hg => four_same _ _ _ _ _ _ _ (by have := hge g hg; omega))
    have := AtL.plainCons (v := .string (mkS kd)) (AtL.plainCons (v := .string (mkS ty)) (AtL.cons hat' (AtL.plainCons (v := .int .i64 (pl : Int)) (AtL.nil _))))
    rw [List.append_nil] at this
    exact this
  · subst hlo
    exact grown_then h.gr hlow
/-- The names' row with one more. -/
theorem DcS.put {n lo lo2 p pl kk : Nat} {kd ty x1 : Bs} {w wr w1 W1 W2 : World} {ns : List Bs} {l l1 : List Tok} {v v' : Value} {xs : List Value} {S' : List Nat} (h : DcS n lo lo2 b p kd ty pl w wr ns l) (hn : n ≤ lo) (hw : lo ≤ w.heap.size) (hw2 : w.heap.size ≤ p)
    (hF : wr.heap[p]? = some (.cells #[.string (mkS kd), .string (mkS ty), v, .int .i64 (pl : Int)] 41 (0, 0)) ∧ (ns.map strC).length = kk * 1 ∧ wr.ownsRow 0 9 1 v kk xs ∧ (∀ ww, wr.grownBy ww (some b) → ww.ownsRow 0 9 1 v kk xs) ∧ (∀ g, v.ownBlock = some g → lo2 ≤ g) ∧ AtL wr (ns.map strC) S' xs ∧ (ownL v ++ S').Nodup ∧ ∀ s ∈ S', lo2 ≤ s)
    (hr1 : Rd n w1 b l1) (hgw : wr.grownBy w1 (some b)) (hWB : Below w1.heap.size w1 W1) (ho2 : W2.ownsRow 0 9 1 v' (kk + 1) (xs ++ [.string (mkS x1)])) (hg2 : W1.grownBy W2 v.ownBlock) (hnew2 : ∀ g, v'.ownBlock = some g → v.ownBlock = some g ∨ W1.heap.size ≤ g) :
    DcS n lo lo2 b p kd ty pl w (W2.setCell ⟨p, 2, none⟩ v') (ns ++ [x1]) l1 := by
  obtain ⟨hv, hk, ho, hoo, hge, ha, hnd, hS⟩ := hF
  have hp1 := h.fld.p1
  have hp2 := h.fld.p2
  have hput := h.fld.put (idx := 2) (m := 1) hv hk ho hge ha hnd hS (grown_then hgw (hWB.mono hgw.size)) (strs_at _ [x1]) rfl List.nodup_nil (by simp) ho2 hg2 hnew2 rfl
  refine ⟨rd_put _ hr1 hWB hg2 hge (by omega) (by omega), ?_, ?_⟩
  · rw [List.map_append]; exact hput.1
  · have hx := hput.2
    have hg := h.gr
    have hle := h.fld.le
    refine ⟨hx.os.trans hg.os, hx.tape.trans hg.tape, hx.output.trans hg.output, Nat.le_trans hg.size hx.size, fun i hi hne => ?_⟩
    exact (hx.block i (by omega) (fun hh => hne (by rw [hh])) (by omega)).trans (hg.block i hi hne)
theorem need_kinds {V : World} (h : Rd n V b l) : ∀ ww, ww = V.alloc (.cells (kinds.map fun t => Value.string (mkS t)).toArray 9) → Calls Tryz.prog 59 #[.pointer (some ⟨b, 0, none⟩), .slice (some ⟨V.heap.size, 0, none⟩) 6 6] ww (fun e w' => (∃ t l', needF kinds l = .ok (t, l') ∧ e = .returned (tokV t) ∧ Rd n w' b l' ∧ l'.length + 1 = l.length ∧ V.grownBy w' (some b)) ∨ (∃ c q : Nat, needF kinds l = .error (c, q) ∧ e = .panicked (faulty c q) ∧ V.grownBy w' (some b))) := by
  rintro ww rfl
  have hb : Below V.heap.size V (V.alloc (.cells (kinds.map fun t => Value.string (mkS t)).toArray 9)) := (Below.refl _ _).alloc (Nat.le_refl _) _
  refine (need_any kinds V.heap.size 6 (by decide) _ (h.under hb) (TxtAt.new V 9 kinds V.heap.size rfl) rfl (by omega)).mono ?_
  rintro e w' (⟨t, l', h1, h2, h3, h4, h5⟩ | ⟨c, q, h1, h2, h5⟩)
  · exact .inl ⟨t, l', h1, h2, h3, h4, grown_trans (grown_under hb b) h5⟩
  · exact .inr ⟨c, q, h1, h2, grown_trans (grown_under hb b) h5⟩
set_option maxHeartbeats 20000000 in
theorem decl_any (N : Nat) (w : World) (l : List Tok) (h : Rd n w b l) (hN : l.length < N) : Calls Tryz.prog 35 #[.pointer (some ⟨b, 0, none⟩)] w (StrP n b declC (declF N l) l.length w) := by
  have hb0 : Below w.heap.size w (w.alloc (.cells zeroDecl 41)) := (Below.refl _ _).alloc (Nat.le_refl _) _
  have HNK : Hid (∀ ww g, g = w.heap.size + 1 → ww = (w.alloc (.cells zeroDecl 41)).alloc (.cells (kinds.map fun t => Value.string (mkS t)).toArray 9) → Calls Tryz.prog 59 #[.pointer (some ⟨b, 0, none⟩), .slice (some ⟨g, 0, none⟩) 6 6] ww (fun e w' => (∃ t l', needF kinds l = .ok (t, l') ∧ e = .returned (tokV t) ∧ Rd n w' b l' ∧ l'.length + 1 = l.length ∧ (w.alloc (.cells zeroDecl 41)).grownBy w' (some b)) ∨ (∃ c q : Nat, needF kinds l = .error (c, q) ∧ e = .panicked (faulty c q) ∧ (w.alloc (.cells zeroDecl 41)).grownBy w' (some b)))) := by
    intro ww g hg hw
    have := need_kinds (h.under hb0) ww hw
    rw [World.size_alloc] at this
    rw [hg]; exact this
  have HB0 := Lib.hid hb0
  have HH := Lib.hid (And.intro h.lt (And.intro h.le (And.intro hN h.small)))
  clear h hN hb0
  go_enter Tryz.func35, Tryz.ntmps35
  go_wp2_with fail
  refine (HNK.out _ _ rfl rfl).mono ?_
  rintro e w1 (⟨t, l1, hn1, rfl, hr1, hl1, hg1⟩ | ⟨c, q, hn1, rfl, hg1⟩)
  · obtain ⟨W1, hW1⟩ : ∃ W1, W1 = w1.alloc (.cells #[.int .u8 (t.kind : Int), .string (mkS t.text), .int .i64 (t.place : Int)] 110) := ⟨_, rfl⟩
    have hbW : Below w1.heap.size w1 W1 := by rw [hW1]; exact (Below.refl _ _).alloc (Nat.le_refl _) _
    obtain ⟨⟨t0, t1, t2⟩, _⟩ := three_facts (show W1.heap[w1.heap.size]? = some (.cells #[.int .u8 (t.kind : Int), .string (mkS t.text), .int .i64 (t.place : Int)] 110 (0, 0)) by rw [hW1]; exact heap_alloc_new w1 _)
    obtain ⟨W2, hW2⟩ : ∃ W2, W2 = W1.alloc (.cells #[.string (mkS t.text), .string (mkS []), .slice none 0 0, .int .i64 (t.place : Int)] 41) := ⟨_, rfl⟩
    have HX : Hid (DcS n w.heap.size (W1.heap.size + 1) b W1.heap.size t.text [] t.place w W2 [] l1) := by
      obtain ⟨hbn, hnw, _⟩ := HH.out
      have hbX : Below W1.heap.size W1 W2 := by rw [hW2]; exact (Below.refl _ _).alloc (Nat.le_refl _) _
      have hs1 := hg1.size
      simp only [World.size_alloc] at hs1
      have hsW : W1.heap.size = w1.heap.size + 1 := by rw [hW1]; simp
      have hsX : W2.heap.size = W1.heap.size + 1 := by rw [hW2]; simp
      refine ⟨(hr1.under hbW).under hbX, ⟨⟨.slice none 0 0, [], by rw [hW2]; exact heap_alloc_new W1 _, At.empty _ _ _, List.nodup_nil, by simp⟩, ?_, by omega, by omega, by omega, by omega, by omega, by omega, by omega⟩, ?_⟩
      · exact (hbX.block _ (by omega)).trans ((hbW.block _ (by omega)).trans ((hg1.block _ (by simp) (by intro h3; injection h3 with h3; omega)).trans (heap_alloc_new w _)))
      · exact grown_then (grown_then (grown_trans (grown_under HB0.out b) hg1) (hbW.mono (by omega))) (hbX.mono (by omega))
    have HW := Lib.hid (And.intro hW1 hW2)
    have HN1 := Lib.hid (And.intro hn1 hl1)
    have HPW := Lib.hid (show w.heap.size < W1.heap.size by have := HX.out.fld.q2; have := HX.out.fld.pq; omega)
    clear hn1 hr1 hl1 hg1 hW1 hW2 hbW HNK
    unfold tokV
    go_upto_region 2 with fail
    rw [← HW.out.1]
    go_upto_region 3 with fail
    rw [show (⟨#[]⟩ : ByteArray) = mkS [] from rfl, ← HW.out.2]
    clear HW t0 t1 t2
    generalize W1.heap.size = p at *
    obtain ⟨lo, hlo⟩ : ∃ lo, w.heap.size = lo := ⟨_, rfl⟩
    have HLO := Lib.hid hlo
    have HPN := Lib.hid (show n ≤ p ∧ n ≤ lo by have := HH.out.2.1; have := HPW.out; omega)
    rw [hlo] at HX HPW ⊢
    clear hlo
    obtain ⟨ao, cn, cc, S, hv, hat, hnd, hge, hz⟩ := HX.out.slice
    obtain ⟨⟨g0, g1, g2, g3⟩, v0, v1, v2, v3⟩ := four_facts hv
    clear hv hat hnd hge hz
    by_cases hty : (t.text == [116, 121, 112, 101]) = true
    · have s1 : (mkS t.text).toList = [116, 121, 112, 101] := by rw [mkS_toList]; simpa using hty
      have HTF : Hid (typedF t.text l1 = typeF l1) := by show _ = _; unfold typedF; rw [hty]; rfl
      clear hty
      have HTN := Lib.hid (typeName_any W2 HX.out.rd)
      go_wp2_with fail
      refine HTN.out.mono ?_
      rintro e w4 (⟨ty, l2, hy, rfl, hr4, hl4, hg4⟩ | ⟨c, q, hy, rfl, hg4⟩)
      · have HTY : Hid (typedF t.text l1 = some (.ok (ty, l2))) := HTF.out.trans hy
        have HL2 := Lib.hid (show l2.length ≤ (l1).length by omega)
        have HX := Lib.hid (HX.out.turn hr4 hg4)
        obtain ⟨ao, cn, cc, S, hv, hat, hnd, hge, hz⟩ := HX.out.slice
        obtain ⟨⟨g0, g1, g2, g3⟩, v0, v1, v2, v3⟩ := four_facts hv
        have HX := Lib.hid (HX.out.typed (ty := ty) HPN.out.1 (by have := HPW.out; have := HLO.out; omega))
        clear hv hat hnd hge hz hy hr4 hl4 hg4 HTN
        go_upto_region 5 with fail
        clear g0 g1 g2 g3 v0 v1 v2 v3
        generalize (w4.setCell ⟨p, 1, none⟩ (.string (mkS ty))) = w4s at *
        have HNM := Lib.hid (name_any _ HX.out.rd)
        go_wp2_with fail
        refine HNM.out.mono ?_
        rintro e w5 (⟨t5, l5, hn5, rfl, hr5, hl5, hg5⟩ | ⟨c, q, hn5, rfl, hg5⟩)
        · have HN5 := Lib.hid (And.intro hn5 hl5)
          have HX := Lib.hid (HX.out.turn hr5 hg5)
          obtain ⟨ao, cn, cc, S, hv, hat, hnd, hge, hz⟩ := HX.out.slice
          obtain ⟨⟨g0, g1, g2, g3⟩, v0, v1, v2, v3⟩ := four_facts hv
          have hpl : p < w5.heap.size := World.block_lt_of_cell? _ _ g2
          have HX := Lib.hid (HX.out.first HPN.out.1 (by have := HPW.out; have := HLO.out; omega) t5.text)
          clear hv hat hnd hge hz hn5 hr5 hl5 hg5 HNM
          have f1 := tokF1
          unfold tokV
          go_upto_region 6 with fail
          clear g0 g1 g2 g3 v0 v1 v2 v3
          rw [World.setCell_alloc_past _ _ _ _ hpl] at HX
          clear hpl
          generalize ((w5.setCell ⟨p, 2, none⟩ (.slice (some ⟨w5.heap.size, 0, none⟩) 1 1)).alloc (.cells #[.string (mkS t5.text)] 9)) = w6 at *
          obtain ⟨i0, hi, hz0, hz1, hz2⟩ := info_parts Tryz.infoStr
          have HI := Lib.hid hi
          have HZ := Lib.hid (And.intro hz0 (And.intro hz1 hz2))
          clear hi hz0 hz1 hz2
          have HXX := Lib.hid HX.out
          go_loopg [40] (l5.length) (fun g v wr => ∃ (f : Nat) (ns : List Bs) (l' : List Tok), g = l'.length ∧ l'.length < f ∧ namesF N [t5.text] l5 = namesF f ns l' ∧ ns.length + l'.length ≤ l5.length + 1 ∧ DcS n lo (p + 1) b p t.text ty t.place w wr ns l')
          case atStart => exact ⟨N, [t5.text], l5, rfl, by have := HH.out; have := HN1.out.2; have := HN5.out.2; have := HL2.out; omega, rfl, by simp; omega, HXX.out⟩
          case round =>
            obtain ⟨f, ns, l', hg, hf, hnf, hlen, hst⟩ := hrel
            have HT := Lib.hid (takes_any [59] (by simp) wr hst.rd)
            have HX := Lib.hid hst
            have HQ := Lib.hid (And.intro hg (And.intro hf (And.intro hnf hlen)))
            clear hg hf hnf hlen hst
            go_wp2_with fail
            refine HT.out.mono ?_
            rintro e w7 (⟨ha, rfl, hr7, hg7⟩ | ⟨ha, rfl, hr7, hlt, hg7⟩)
            · have HX := Lib.hid (HX.out.turn hr7 hg7)
              have HA := Lib.hid ha
              clear ha hr7 hg7 HT
              obtain ⟨v, kk, xs, hv, hkk, ho, hoo, hge, S', ha, hnd, hS⟩ := HX.out.fld.open_
              obtain ⟨ao, cc, rfl⟩ := own_form ho
              have HNAME := Lib.hid (name_any w7.drew (HX.out.rd.under (Below.refl _ _).drew))
              have c1 : w7.cell? ⟨p, 2, none⟩ = some (.slice ao kk cc) := by rw [cell_of_row w7 p 2 _ _ _ hv]; rfl
              have z1 : w7.frozen? ⟨p, 2, none⟩ = false := by simp [World.frozen?, hv]
              have hplt : p < w7.heap.size := World.block_lt_of_cell? _ _ c1
              have HKK := Lib.hid (show ns.length = kk by simpa using hkk)
              have HF := Lib.hid (And.intro hv (And.intro hkk (And.intro ho (And.intro hoo (And.intro hge (And.intro ha (And.intro hnd hS)))))))
              have HBP := Lib.hid (show b < p by have := HX.out.fld.b0; have := HX.out.fld.p1; omega)
              clear hv hkk ho hoo hge ha hnd hS
              have HSM := Lib.hid (show l5.length ≤ 70000 by have := HH.out; have := HN1.out.2; have := HN5.out.2; have := HL2.out; omega)
              go_wp2_with fail
              go_region_law (first
                | (go_simp
                   go_at_call 61
                   refine HNAME.out.mono ?_
                   rintro e w8 (⟨t8, l8, hn8, rfl, hr8, hl8, hg8⟩ | ⟨cc', qq, hn8, rfl, hg8⟩)
                   case inr =>
                     obtain ⟨hg, hf, hnf, hlen⟩ := HQ.out
                     obtain ⟨f', rfl⟩ : ∃ k, f = k + 1 := ⟨f - 1, by omega⟩
                     refine ⟨?_, .inr ⟨cc', qq, declF_4 HN1.out.1 HTY.out HN5.out.1 (hnf.trans (namesF_err HA.out hn8)), rfl, grown_trans HX.out.gr (grown_trans (grown_under (Below.refl _ _).drew b) hg8)⟩⟩
                     first | rfl | (simp [go_sem]; done) | (unfold Act.put; simp)
                   have hgw : w7.grownBy w8 (some b) := grown_trans (grown_under (Below.refl _ _).drew b) hg8
                   have HOA : Hid (∀ o, (w8.alloc o).ownsRow 0 9 1 (.slice ao kk cc) kk xs) := fun o => HF.out.2.2.2.1 _ (grown_then hgw ((Below.refl _ _).alloc hgw.size o))
                   have HGA : Hid (∀ o, w7.grownBy (w8.alloc o) (some b)) := fun o => grown_then hgw ((Below.refl _ _).alloc hgw.size o)
                   have d1 : w8.cell? ⟨p, 2, none⟩ = some (.slice ao kk cc) := (World.cell?_of_block (a := ⟨p, 2, none⟩) (hgw.block p hplt (by intro hh; injection hh with hh; have := HBP.out; omega))).trans c1
                   have hp1 : p < w8.heap.size := by have := hgw.size; omega
                   have H1 := Lib.hid (And.intro hn8 (And.intro hr8 (And.intro hl8 hgw)))
                   clear hn8 hr8 hl8 hg8 hgw
                   unfold tokV)
                | (refine step_append_r rfl (.tmp 46) (.tmp 52) 39 rfl 9 i0 _ 1 16 Tryz.underlying39 HI.out HZ.out.1 HZ.out.2.1 HZ.out.2.2 rfl (by decide) (.slice ao kk cc) kk xs rfl (HOA.out _) ⟨w8.heap.size, 0, none⟩ 1 1 rfl [.string (mkS t8.text)] rfl (new_cells w8 [.string (mkS t8.text)] 9) (by simp [Value.oneCell']) (by have := HKK.out; have := HQ.out.2.2.2; have := HSM.out; unfold maxLen; omega) (by have := HKK.out; have := HQ.out.2.2.2; have := HSM.out; omega) ?_
                   intro v2 W2' ho2 hg2 hnew2
                   obtain ⟨g2, c2, hv2⟩ := own_pos ho2 (by omega)
                   subst hv2
                   have hp2 := fldO_at HX.out.fld HF.out.1 HF.out.2.2.2.2.1 (HGA.out _) hg2
                   have y1 : W2'.cell? ⟨p, 2, none⟩ = some (.slice ao kk cc) := by rw [cell_of_row W2' p 2 _ _ _ hp2]; rfl
                   have y2 : W2'.frozen? ⟨p, 2, none⟩ = false := by simp [World.frozen?, hp2]
                   have H2 := Lib.hid (And.intro ho2 (And.intro hg2 hnew2))
                   clear ho2 hg2 hnew2 hp2))
              all_goals
                go_wp2_with fail
                obtain ⟨hg, hf, hnf, hlen⟩ := HQ.out
                obtain ⟨f', rfl⟩ : ∃ k, f = k + 1 := ⟨f - 1, by omega⟩
                obtain ⟨hn8, hr8, hl8, hgw⟩ := H1.out
                have hlo := HLO.out
                have hpn := HPN.out
                have hpw := HPW.out
                go_roundg (l8.length)
                case rel => exact ⟨f', ns ++ [t8.text], l8, rfl, by omega, hnf.trans (namesF_more HA.out hn8), by simp; omega, HX.out.put (by omega) (by omega) (by omega) HF.out hr8 hgw ((Below.refl _ _).alloc (Nat.le_refl _) _) H2.out.1 H2.out.2.1 H2.out.2.2⟩
                case measure => omega
            · have HX := Lib.hid (HX.out.turn hr7 hg7)
              have HRR : Hid (declF N l = some (.ok (⟨t.text, ty, ns, t.place⟩, l'.tail))) := by
                obtain ⟨hg, hf, hnf, hlen⟩ := HQ.out
                obtain ⟨f', rfl⟩ : ∃ k, f = k + 1 := ⟨f - 1, by omega⟩
                exact declF_5 HN1.out.1 HTY.out HN5.out.1 (hnf.trans (namesF_stop ha))
              have HLEN := Lib.hid (show l'.tail.length < l.length by have := HQ.out.1; have := HN1.out.2; have := HN5.out.2; have := HL2.out; have := HQ.out.2.2.2; omega)
              obtain ⟨ao, cn, cc, S, hv, hat, hnd, hge, hz⟩ := HX.out.slice
              obtain ⟨⟨g0, g1, g2, g3⟩, _⟩ := four_facts hv
              obtain ⟨⟨q0, q1, q2, q3⟩, u0, u1, u2, u3⟩ := four_facts hz
              have HA := Lib.hid (And.intro hat (And.intro hnd hge))
              clear hv hat hnd hge hz ha hr7 hlt hg7 HT
              go_wp2_with fail
              refine bodyPost_ret (v := .agg #[.string (mkS t.text), .string (mkS ty), .slice ao cn cc, .int .i64 (t.place : Int)]) (by simp [results, Tryz.results35, go_sem, q0, q1, q2, q3]) rfl ?_
              exact decl_end HX.out HA.out.1 HA.out.2.1 HA.out.2.2 HLO.out HPN.out.2 HRR.out HLEN.out
        · exact ⟨rfl, .inr ⟨c, q, declF_3 HN1.out.1 HTY.out hn5, rfl, grown_trans HX.out.gr hg5⟩⟩

      · exact ⟨rfl, .inr ⟨c, q, declF_2 HN1.out.1 (HTF.out.trans hy), rfl, grown_trans HX.out.gr hg4⟩⟩
    · have hty' : (t.text == [116, 121, 112, 101]) = false := by simpa using hty
      have s1 : ((mkS t.text).toList == [116, 121, 112, 101]) = false := by rw [mkS_toList]; exact hty'
      have s1p : ¬ (mkS t.text).toList = [116, 121, 112, 101] := by rw [mkS_toList]; simpa using hty'
      by_cases hto : (t.text == [116, 111, 107, 101, 110]) = true
      · have s2 : (mkS t.text).toList = [116, 111, 107, 101, 110] := by rw [mkS_toList]; simpa using hto
        obtain ⟨ta, ra, hla⟩ := HX.out.rd.ends.cons
        subst hla
        have HAT : Hid (∀ ww, ww = W2.alloc (.cells #[.string (mkS [60])] 9) → Calls Tryz.prog 36 #[.pointer (some ⟨b, 0, none⟩), .slice (some ⟨W2.heap.size, 0, none⟩) 1 1] ww fun e w' => e = .returned (.bool (atT ta [[60]])) ∧ Below W2.heap.size W2 w') := by
          rintro ww rfl
          have hb : Below W2.heap.size W2 (W2.alloc (.cells #[.string (mkS [60])] 9)) := (Below.refl _ _).alloc (Nat.le_refl _) _
          refine (at_any [[60]] W2.heap.size 1 _ (HX.out.rd.under hb) (TxtAt.new W2 9 [[60]] W2.heap.size rfl) rfl (by omega)).mono ?_
          rintro e w' ⟨h1, h2⟩
          exact ⟨h1, hb.trans (h2.mono (by simp))⟩
        have HTF : Hid (typedF t.text (ta :: ra) = if atT ta [[60]] then typeF (ta :: ra) else some (.ok ([], ta :: ra))) := by
          show _ = _
          unfold typedF; rw [hty', hto]; simp [atB]
        clear hty hty' hto
        go_wp2_with fail
        refine (HAT.out _ rfl).mono ?_
        rintro e w3 ⟨rfl, hb3⟩
        have HX := Lib.hid (HX.out.under hb3)
        clear hb3 HAT g0 g1 g2 g3 v0 v1 v2 v3
        cases ha : atT ta [[60]]
        · have HTY : Hid (typedF t.text (ta :: ra) = some (.ok ([], ta :: ra))) := HTF.out.trans (by rw [ha]; rfl)
          have HL2 := Lib.hid (show (ta :: ra).length ≤ (ta :: ra).length from Nat.le_refl _)
          clear ha
          go_upto_region 5 with fail
          have HNM := Lib.hid (name_any _ HX.out.rd)
          go_wp2_with fail
          refine HNM.out.mono ?_
          rintro e w5 (⟨t5, l5, hn5, rfl, hr5, hl5, hg5⟩ | ⟨c, q, hn5, rfl, hg5⟩)
          · have HN5 := Lib.hid (And.intro hn5 hl5)
            have HX := Lib.hid (HX.out.turn hr5 hg5)
            obtain ⟨ao, cn, cc, S, hv, hat, hnd, hge, hz⟩ := HX.out.slice
            obtain ⟨⟨g0, g1, g2, g3⟩, v0, v1, v2, v3⟩ := four_facts hv
            have hpl : p < w5.heap.size := World.block_lt_of_cell? _ _ g2
            have HX := Lib.hid (HX.out.first HPN.out.1 (by have := HPW.out; have := HLO.out; omega) t5.text)
            clear hv hat hnd hge hz hn5 hr5 hl5 hg5 HNM
            have f1 := tokF1
            unfold tokV
            go_upto_region 6 with fail
            clear g0 g1 g2 g3 v0 v1 v2 v3
            rw [World.setCell_alloc_past _ _ _ _ hpl] at HX
            clear hpl
            generalize ((w5.setCell ⟨p, 2, none⟩ (.slice (some ⟨w5.heap.size, 0, none⟩) 1 1)).alloc (.cells #[.string (mkS t5.text)] 9)) = w6 at *
            obtain ⟨i0, hi, hz0, hz1, hz2⟩ := info_parts Tryz.infoStr
            have HI := Lib.hid hi
            have HZ := Lib.hid (And.intro hz0 (And.intro hz1 hz2))
            clear hi hz0 hz1 hz2
            have HXX := Lib.hid HX.out
            go_loopg [40] (l5.length) (fun g v wr => ∃ (f : Nat) (ns : List Bs) (l' : List Tok), g = l'.length ∧ l'.length < f ∧ namesF N [t5.text] l5 = namesF f ns l' ∧ ns.length + l'.length ≤ l5.length + 1 ∧ DcS n lo (p + 1) b p t.text [] t.place w wr ns l')
            case atStart => exact ⟨N, [t5.text], l5, rfl, by have := HH.out; have := HN1.out.2; have := HN5.out.2; have := HL2.out; omega, rfl, by simp; omega, HXX.out⟩
            case round =>
              obtain ⟨f, ns, l', hg, hf, hnf, hlen, hst⟩ := hrel
              have HT := Lib.hid (takes_any [59] (by simp) wr hst.rd)
              have HX := Lib.hid hst
              have HQ := Lib.hid (And.intro hg (And.intro hf (And.intro hnf hlen)))
              clear hg hf hnf hlen hst
              go_wp2_with fail
              refine HT.out.mono ?_
              rintro e w7 (⟨ha, rfl, hr7, hg7⟩ | ⟨ha, rfl, hr7, hlt, hg7⟩)
              · have HX := Lib.hid (HX.out.turn hr7 hg7)
                have HA := Lib.hid ha
                clear ha hr7 hg7 HT
                obtain ⟨v, kk, xs, hv, hkk, ho, hoo, hge, S', ha, hnd, hS⟩ := HX.out.fld.open_
                obtain ⟨ao, cc, rfl⟩ := own_form ho
                have HNAME := Lib.hid (name_any w7.drew (HX.out.rd.under (Below.refl _ _).drew))
                have c1 : w7.cell? ⟨p, 2, none⟩ = some (.slice ao kk cc) := by rw [cell_of_row w7 p 2 _ _ _ hv]; rfl
                have z1 : w7.frozen? ⟨p, 2, none⟩ = false := by simp [World.frozen?, hv]
                have hplt : p < w7.heap.size := World.block_lt_of_cell? _ _ c1
                have HKK := Lib.hid (show ns.length = kk by simpa using hkk)
                have HF := Lib.hid (And.intro hv (And.intro hkk (And.intro ho (And.intro hoo (And.intro hge (And.intro ha (And.intro hnd hS)))))))
                have HBP := Lib.hid (show b < p by have := HX.out.fld.b0; have := HX.out.fld.p1; omega)
                clear hv hkk ho hoo hge ha hnd hS
                have HSM := Lib.hid (show l5.length ≤ 70000 by have := HH.out; have := HN1.out.2; have := HN5.out.2; have := HL2.out; omega)
                go_wp2_with fail
                go_region_law (first
                  | (go_simp
                     go_at_call 61
                     refine HNAME.out.mono ?_
                     rintro e w8 (⟨t8, l8, hn8, rfl, hr8, hl8, hg8⟩ | ⟨cc', qq, hn8, rfl, hg8⟩)
                     case inr =>
                       obtain ⟨hg, hf, hnf, hlen⟩ := HQ.out
                       obtain ⟨f', rfl⟩ : ∃ k, f = k + 1 := ⟨f - 1, by omega⟩
                       refine ⟨?_, .inr ⟨cc', qq, declF_4 HN1.out.1 HTY.out HN5.out.1 (hnf.trans (namesF_err HA.out hn8)), rfl, grown_trans HX.out.gr (grown_trans (grown_under (Below.refl _ _).drew b) hg8)⟩⟩
                       first | rfl | (simp [go_sem]; done) | (unfold Act.put; simp)
                     have hgw : w7.grownBy w8 (some b) := grown_trans (grown_under (Below.refl _ _).drew b) hg8
                     have HOA : Hid (∀ o, (w8.alloc o).ownsRow 0 9 1 (.slice ao kk cc) kk xs) := fun o => HF.out.2.2.2.1 _ (grown_then hgw ((Below.refl _ _).alloc hgw.size o))
                     have HGA : Hid (∀ o, w7.grownBy (w8.alloc o) (some b)) := fun o => grown_then hgw ((Below.refl _ _).alloc hgw.size o)
                     have d1 : w8.cell? ⟨p, 2, none⟩ = some (.slice ao kk cc) := (World.cell?_of_block (a := ⟨p, 2, none⟩) (hgw.block p hplt (by intro hh; injection hh with hh; have := HBP.out; omega))).trans c1
                     have hp1 : p < w8.heap.size := by have := hgw.size; omega
                     have H1 := Lib.hid (And.intro hn8 (And.intro hr8 (And.intro hl8 hgw)))
                     clear hn8 hr8 hl8 hg8 hgw
                     unfold tokV)
                  | (refine step_append_r rfl (.tmp 46) (.tmp 52) 39 rfl 9 i0 _ 1 16 Tryz.underlying39 HI.out HZ.out.1 HZ.out.2.1 HZ.out.2.2 rfl (by decide) (.slice ao kk cc) kk xs rfl (HOA.out _) ⟨w8.heap.size, 0, none⟩ 1 1 rfl [.string (mkS t8.text)] rfl (new_cells w8 [.string (mkS t8.text)] 9) (by simp [Value.oneCell']) (by have := HKK.out; have := HQ.out.2.2.2; have := HSM.out; unfold maxLen; omega) (by have := HKK.out; have := HQ.out.2.2.2; have := HSM.out; omega) ?_
                     intro v2 W2' ho2 hg2 hnew2
                     obtain ⟨g2, c2, hv2⟩ := own_pos ho2 (by omega)
                     subst hv2
                     have hp2 := fldO_at HX.out.fld HF.out.1 HF.out.2.2.2.2.1 (HGA.out _) hg2
                     have y1 : W2'.cell? ⟨p, 2, none⟩ = some (.slice ao kk cc) := by rw [cell_of_row W2' p 2 _ _ _ hp2]; rfl
                     have y2 : W2'.frozen? ⟨p, 2, none⟩ = false := by simp [World.frozen?, hp2]
                     have H2 := Lib.hid (And.intro ho2 (And.intro hg2 hnew2))
                     clear ho2 hg2 hnew2 hp2))
                all_goals
                  go_wp2_with fail
                  obtain ⟨hg, hf, hnf, hlen⟩ := HQ.out
                  obtain ⟨f', rfl⟩ : ∃ k, f = k + 1 := ⟨f - 1, by omega⟩
                  obtain ⟨hn8, hr8, hl8, hgw⟩ := H1.out
                  have hlo := HLO.out
                  have hpn := HPN.out
                  have hpw := HPW.out
                  go_roundg (l8.length)
                  case rel => exact ⟨f', ns ++ [t8.text], l8, rfl, by omega, hnf.trans (namesF_more HA.out hn8), by simp; omega, HX.out.put (by omega) (by omega) (by omega) HF.out hr8 hgw ((Below.refl _ _).alloc (Nat.le_refl _) _) H2.out.1 H2.out.2.1 H2.out.2.2⟩
                  case measure => omega
              · have HX := Lib.hid (HX.out.turn hr7 hg7)
                have HRR : Hid (declF N l = some (.ok (⟨t.text, [], ns, t.place⟩, l'.tail))) := by
                  obtain ⟨hg, hf, hnf, hlen⟩ := HQ.out
                  obtain ⟨f', rfl⟩ : ∃ k, f = k + 1 := ⟨f - 1, by omega⟩
                  exact declF_5 HN1.out.1 HTY.out HN5.out.1 (hnf.trans (namesF_stop ha))
                have HLEN := Lib.hid (show l'.tail.length < l.length by have := HQ.out.1; have := HN1.out.2; have := HN5.out.2; have := HL2.out; have := HQ.out.2.2.2; omega)
                obtain ⟨ao, cn, cc, S, hv, hat, hnd, hge, hz⟩ := HX.out.slice
                obtain ⟨⟨g0, g1, g2, g3⟩, _⟩ := four_facts hv
                obtain ⟨⟨q0, q1, q2, q3⟩, u0, u1, u2, u3⟩ := four_facts hz
                have HA := Lib.hid (And.intro hat (And.intro hnd hge))
                clear hv hat hnd hge hz ha hr7 hlt hg7 HT
                go_wp2_with fail
                refine bodyPost_ret (v := .agg #[.string (mkS t.text), .string (mkS []), .slice ao cn cc, .int .i64 (t.place : Int)]) (by simp [results, Tryz.results35, go_sem, q0, q1, q2, q3]) rfl ?_
                exact decl_end HX.out HA.out.1 HA.out.2.1 HA.out.2.2 HLO.out HPN.out.2 HRR.out HLEN.out
          · exact ⟨rfl, .inr ⟨c, q, declF_3 HN1.out.1 HTY.out hn5, rfl, grown_trans HX.out.gr hg5⟩⟩
        · have HTF : Hid (typedF t.text (ta :: ra) = typeF (ta :: ra)) := HTF.out.trans (by rw [ha]; rfl)
          obtain ⟨ao, cn, cc, S, hv, hat, hnd, hge, hz⟩ := HX.out.slice
          obtain ⟨⟨g0, g1, g2, g3⟩, v0, v1, v2, v3⟩ := four_facts hv
          clear hv hat hnd hge hz ha
          have HTN := Lib.hid (typeName_any w3 HX.out.rd)
          go_wp2_with fail
          refine HTN.out.mono ?_
          rintro e w4 (⟨ty, l2, hy, rfl, hr4, hl4, hg4⟩ | ⟨c, q, hy, rfl, hg4⟩)
          · have HTY : Hid (typedF t.text (ta :: ra) = some (.ok (ty, l2))) := HTF.out.trans hy
            have HL2 := Lib.hid (show l2.length ≤ ((ta :: ra)).length by omega)
            have HX := Lib.hid (HX.out.turn hr4 hg4)
            obtain ⟨ao, cn, cc, S, hv, hat, hnd, hge, hz⟩ := HX.out.slice
            obtain ⟨⟨g0, g1, g2, g3⟩, v0, v1, v2, v3⟩ := four_facts hv
            have HX := Lib.hid (HX.out.typed (ty := ty) HPN.out.1 (by have := HPW.out; have := HLO.out; omega))
            clear hv hat hnd hge hz hy hr4 hl4 hg4 HTN
            go_upto_region 5 with fail
            clear g0 g1 g2 g3 v0 v1 v2 v3
            generalize (w4.setCell ⟨p, 1, none⟩ (.string (mkS ty))) = w4s at *
            have HNM := Lib.hid (name_any _ HX.out.rd)
            go_wp2_with fail
            refine HNM.out.mono ?_
            rintro e w5 (⟨t5, l5, hn5, rfl, hr5, hl5, hg5⟩ | ⟨c, q, hn5, rfl, hg5⟩)
            · have HN5 := Lib.hid (And.intro hn5 hl5)
              have HX := Lib.hid (HX.out.turn hr5 hg5)
              obtain ⟨ao, cn, cc, S, hv, hat, hnd, hge, hz⟩ := HX.out.slice
              obtain ⟨⟨g0, g1, g2, g3⟩, v0, v1, v2, v3⟩ := four_facts hv
              have hpl : p < w5.heap.size := World.block_lt_of_cell? _ _ g2
              have HX := Lib.hid (HX.out.first HPN.out.1 (by have := HPW.out; have := HLO.out; omega) t5.text)
              clear hv hat hnd hge hz hn5 hr5 hl5 hg5 HNM
              have f1 := tokF1
              unfold tokV
              go_upto_region 6 with fail
              clear g0 g1 g2 g3 v0 v1 v2 v3
              rw [World.setCell_alloc_past _ _ _ _ hpl] at HX
              clear hpl
              generalize ((w5.setCell ⟨p, 2, none⟩ (.slice (some ⟨w5.heap.size, 0, none⟩) 1 1)).alloc (.cells #[.string (mkS t5.text)] 9)) = w6 at *
              obtain ⟨i0, hi, hz0, hz1, hz2⟩ := info_parts Tryz.infoStr
              have HI := Lib.hid hi
              have HZ := Lib.hid (And.intro hz0 (And.intro hz1 hz2))
              clear hi hz0 hz1 hz2
              have HXX := Lib.hid HX.out
              go_loopg [40] (l5.length) (fun g v wr => ∃ (f : Nat) (ns : List Bs) (l' : List Tok), g = l'.length ∧ l'.length < f ∧ namesF N [t5.text] l5 = namesF f ns l' ∧ ns.length + l'.length ≤ l5.length + 1 ∧ DcS n lo (p + 1) b p t.text ty t.place w wr ns l')
              case atStart => exact ⟨N, [t5.text], l5, rfl, by have := HH.out; have := HN1.out.2; have := HN5.out.2; have := HL2.out; omega, rfl, by simp; omega, HXX.out⟩
              case round =>
                obtain ⟨f, ns, l', hg, hf, hnf, hlen, hst⟩ := hrel
                have HT := Lib.hid (takes_any [59] (by simp) wr hst.rd)
                have HX := Lib.hid hst
                have HQ := Lib.hid (And.intro hg (And.intro hf (And.intro hnf hlen)))
                clear hg hf hnf hlen hst
                go_wp2_with fail
                refine HT.out.mono ?_
                rintro e w7 (⟨ha, rfl, hr7, hg7⟩ | ⟨ha, rfl, hr7, hlt, hg7⟩)
                · have HX := Lib.hid (HX.out.turn hr7 hg7)
                  have HA := Lib.hid ha
                  clear ha hr7 hg7 HT
                  obtain ⟨v, kk, xs, hv, hkk, ho, hoo, hge, S', ha, hnd, hS⟩ := HX.out.fld.open_
                  obtain ⟨ao, cc, rfl⟩ := own_form ho
                  have HNAME := Lib.hid (name_any w7.drew (HX.out.rd.under (Below.refl _ _).drew))
                  have c1 : w7.cell? ⟨p, 2, none⟩ = some (.slice ao kk cc) := by rw [cell_of_row w7 p 2 _ _ _ hv]; rfl
                  have z1 : w7.frozen? ⟨p, 2, none⟩ = false := by simp [World.frozen?, hv]
                  have hplt : p < w7.heap.size := World.block_lt_of_cell? _ _ c1
                  have HKK := Lib.hid (show ns.length = kk by simpa using hkk)
                  have HF := Lib.hid (And.intro hv (And.intro hkk (And.intro ho (And.intro hoo (And.intro hge (And.intro ha (And.intro hnd hS)))))))
                  have HBP := Lib.hid (show b < p by have := HX.out.fld.b0; have := HX.out.fld.p1; omega)
                  clear hv hkk ho hoo hge ha hnd hS
                  have HSM := Lib.hid (show l5.length ≤ 70000 by have := HH.out; have := HN1.out.2; have := HN5.out.2; have := HL2.out; omega)
                  go_wp2_with fail
                  go_region_law (first
                    | (go_simp
                       go_at_call 61
                       refine HNAME.out.mono ?_
                       rintro e w8 (⟨t8, l8, hn8, rfl, hr8, hl8, hg8⟩ | ⟨cc', qq, hn8, rfl, hg8⟩)
                       case inr =>
                         obtain ⟨hg, hf, hnf, hlen⟩ := HQ.out
                         obtain ⟨f', rfl⟩ : ∃ k, f = k + 1 := ⟨f - 1, by omega⟩
                         refine ⟨?_, .inr ⟨cc', qq, declF_4 HN1.out.1 HTY.out HN5.out.1 (hnf.trans (namesF_err HA.out hn8)), rfl, grown_trans HX.out.gr (grown_trans (grown_under (Below.refl _ _).drew b) hg8)⟩⟩
                         first | rfl | (simp [go_sem]; done) | (unfold Act.put; simp)
                       have hgw : w7.grownBy w8 (some b) := grown_trans (grown_under (Below.refl _ _).drew b) hg8
                       have HOA : Hid (∀ o, (w8.alloc o).ownsRow 0 9 1 (.slice ao kk cc) kk xs) := fun o => HF.out.2.2.2.1 _ (grown_then hgw ((Below.refl _ _).alloc hgw.size o))
                       have HGA : Hid (∀ o, w7.grownBy (w8.alloc o) (some b)) := fun o => grown_then hgw ((Below.refl _ _).alloc hgw.size o)
                       have d1 : w8.cell? ⟨p, 2, none⟩ = some (.slice ao kk cc) := (World.cell?_of_block (a := ⟨p, 2, none⟩) (hgw.block p hplt (by intro hh; injection hh with hh; have := HBP.out; omega))).trans c1
                       have hp1 : p < w8.heap.size := by have := hgw.size; omega
                       have H1 := Lib.hid (And.intro hn8 (And.intro hr8 (And.intro hl8 hgw)))
                       clear hn8 hr8 hl8 hg8 hgw
                       unfold tokV)
                    | (refine step_append_r rfl (.tmp 46) (.tmp 52) 39 rfl 9 i0 _ 1 16 Tryz.underlying39 HI.out HZ.out.1 HZ.out.2.1 HZ.out.2.2 rfl (by decide) (.slice ao kk cc) kk xs rfl (HOA.out _) ⟨w8.heap.size, 0, none⟩ 1 1 rfl [.string (mkS t8.text)] rfl (new_cells w8 [.string (mkS t8.text)] 9) (by simp [Value.oneCell']) (by have := HKK.out; have := HQ.out.2.2.2; have := HSM.out; unfold maxLen; omega) (by have := HKK.out; have := HQ.out.2.2.2; have := HSM.out; omega) ?_
                       intro v2 W2' ho2 hg2 hnew2
                       obtain ⟨g2, c2, hv2⟩ := own_pos ho2 (by omega)
                       subst hv2
                       have hp2 := fldO_at HX.out.fld HF.out.1 HF.out.2.2.2.2.1 (HGA.out _) hg2
                       have y1 : W2'.cell? ⟨p, 2, none⟩ = some (.slice ao kk cc) := by rw [cell_of_row W2' p 2 _ _ _ hp2]; rfl
                       have y2 : W2'.frozen? ⟨p, 2, none⟩ = false := by simp [World.frozen?, hp2]
                       have H2 := Lib.hid (And.intro ho2 (And.intro hg2 hnew2))
                       clear ho2 hg2 hnew2 hp2))
                  all_goals
                    go_wp2_with fail
                    obtain ⟨hg, hf, hnf, hlen⟩ := HQ.out
                    obtain ⟨f', rfl⟩ : ∃ k, f = k + 1 := ⟨f - 1, by omega⟩
                    obtain ⟨hn8, hr8, hl8, hgw⟩ := H1.out
                    have hlo := HLO.out
                    have hpn := HPN.out
                    have hpw := HPW.out
                    go_roundg (l8.length)
                    case rel => exact ⟨f', ns ++ [t8.text], l8, rfl, by omega, hnf.trans (namesF_more HA.out hn8), by simp; omega, HX.out.put (by omega) (by omega) (by omega) HF.out hr8 hgw ((Below.refl _ _).alloc (Nat.le_refl _) _) H2.out.1 H2.out.2.1 H2.out.2.2⟩
                    case measure => omega
                · have HX := Lib.hid (HX.out.turn hr7 hg7)
                  have HRR : Hid (declF N l = some (.ok (⟨t.text, ty, ns, t.place⟩, l'.tail))) := by
                    obtain ⟨hg, hf, hnf, hlen⟩ := HQ.out
                    obtain ⟨f', rfl⟩ : ∃ k, f = k + 1 := ⟨f - 1, by omega⟩
                    exact declF_5 HN1.out.1 HTY.out HN5.out.1 (hnf.trans (namesF_stop ha))
                  have HLEN := Lib.hid (show l'.tail.length < l.length by have := HQ.out.1; have := HN1.out.2; have := HN5.out.2; have := HL2.out; have := HQ.out.2.2.2; omega)
                  obtain ⟨ao, cn, cc, S, hv, hat, hnd, hge, hz⟩ := HX.out.slice
                  obtain ⟨⟨g0, g1, g2, g3⟩, _⟩ := four_facts hv
                  obtain ⟨⟨q0, q1, q2, q3⟩, u0, u1, u2, u3⟩ := four_facts hz
                  have HA := Lib.hid (And.intro hat (And.intro hnd hge))
                  clear hv hat hnd hge hz ha hr7 hlt hg7 HT
                  go_wp2_with fail
                  refine bodyPost_ret (v := .agg #[.string (mkS t.text), .string (mkS ty), .slice ao cn cc, .int .i64 (t.place : Int)]) (by simp [results, Tryz.results35, go_sem, q0, q1, q2, q3]) rfl ?_
                  exact decl_end HX.out HA.out.1 HA.out.2.1 HA.out.2.2 HLO.out HPN.out.2 HRR.out HLEN.out
            · exact ⟨rfl, .inr ⟨c, q, declF_3 HN1.out.1 HTY.out hn5, rfl, grown_trans HX.out.gr hg5⟩⟩

          · exact ⟨rfl, .inr ⟨c, q, declF_2 HN1.out.1 (HTF.out.trans hy), rfl, grown_trans HX.out.gr hg4⟩⟩
      · have hto' : (t.text == [116, 111, 107, 101, 110]) = false := by simpa using hto
        have s2 : ((mkS t.text).toList == [116, 111, 107, 101, 110]) = false := by rw [mkS_toList]; exact hto'
        have s2p : ¬ (mkS t.text).toList = [116, 111, 107, 101, 110] := by rw [mkS_toList]; simpa using hto'
        have HTY : Hid (typedF t.text l1 = some (.ok ([], l1))) := by show _ = _; unfold typedF; rw [hty', hto']; rfl
        have HL2 := Lib.hid (show l1.length ≤ l1.length from Nat.le_refl _)
        clear hty hty' hto hto'
        go_upto_region 5 with fail
        clear g0 g1 g2 g3 v0 v1 v2 v3
        have HNM := Lib.hid (name_any _ HX.out.rd)
        go_wp2_with fail
        refine HNM.out.mono ?_
        rintro e w5 (⟨t5, l5, hn5, rfl, hr5, hl5, hg5⟩ | ⟨c, q, hn5, rfl, hg5⟩)
        · have HN5 := Lib.hid (And.intro hn5 hl5)
          have HX := Lib.hid (HX.out.turn hr5 hg5)
          obtain ⟨ao, cn, cc, S, hv, hat, hnd, hge, hz⟩ := HX.out.slice
          obtain ⟨⟨g0, g1, g2, g3⟩, v0, v1, v2, v3⟩ := four_facts hv
          have hpl : p < w5.heap.size := World.block_lt_of_cell? _ _ g2
          have HX := Lib.hid (HX.out.first HPN.out.1 (by have := HPW.out; have := HLO.out; omega) t5.text)
          clear hv hat hnd hge hz hn5 hr5 hl5 hg5 HNM
          have f1 := tokF1
          unfold tokV
          go_upto_region 6 with fail
          clear g0 g1 g2 g3 v0 v1 v2 v3
          rw [World.setCell_alloc_past _ _ _ _ hpl] at HX
          clear hpl
          generalize ((w5.setCell ⟨p, 2, none⟩ (.slice (some ⟨w5.heap.size, 0, none⟩) 1 1)).alloc (.cells #[.string (mkS t5.text)] 9)) = w6 at *
          obtain ⟨i0, hi, hz0, hz1, hz2⟩ := info_parts Tryz.infoStr
          have HI := Lib.hid hi
          have HZ := Lib.hid (And.intro hz0 (And.intro hz1 hz2))
          clear hi hz0 hz1 hz2
          have HXX := Lib.hid HX.out
          go_loopg [40] (l5.length) (fun g v wr => ∃ (f : Nat) (ns : List Bs) (l' : List Tok), g = l'.length ∧ l'.length < f ∧ namesF N [t5.text] l5 = namesF f ns l' ∧ ns.length + l'.length ≤ l5.length + 1 ∧ DcS n lo (p + 1) b p t.text [] t.place w wr ns l')
          case atStart => exact ⟨N, [t5.text], l5, rfl, by have := HH.out; have := HN1.out.2; have := HN5.out.2; have := HL2.out; omega, rfl, by simp; omega, HXX.out⟩
          case round =>
            obtain ⟨f, ns, l', hg, hf, hnf, hlen, hst⟩ := hrel
            have HT := Lib.hid (takes_any [59] (by simp) wr hst.rd)
            have HX := Lib.hid hst
            have HQ := Lib.hid (And.intro hg (And.intro hf (And.intro hnf hlen)))
            clear hg hf hnf hlen hst
            go_wp2_with fail
            refine HT.out.mono ?_
            rintro e w7 (⟨ha, rfl, hr7, hg7⟩ | ⟨ha, rfl, hr7, hlt, hg7⟩)
            · have HX := Lib.hid (HX.out.turn hr7 hg7)
              have HA := Lib.hid ha
              clear ha hr7 hg7 HT
              obtain ⟨v, kk, xs, hv, hkk, ho, hoo, hge, S', ha, hnd, hS⟩ := HX.out.fld.open_
              obtain ⟨ao, cc, rfl⟩ := own_form ho
              have HNAME := Lib.hid (name_any w7.drew (HX.out.rd.under (Below.refl _ _).drew))
              have c1 : w7.cell? ⟨p, 2, none⟩ = some (.slice ao kk cc) := by rw [cell_of_row w7 p 2 _ _ _ hv]; rfl
              have z1 : w7.frozen? ⟨p, 2, none⟩ = false := by simp [World.frozen?, hv]
              have hplt : p < w7.heap.size := World.block_lt_of_cell? _ _ c1
              have HKK := Lib.hid (show ns.length = kk by simpa using hkk)
              have HF := Lib.hid (And.intro hv (And.intro hkk (And.intro ho (And.intro hoo (And.intro hge (And.intro ha (And.intro hnd hS)))))))
              have HBP := Lib.hid (show b < p by have := HX.out.fld.b0; have := HX.out.fld.p1; omega)
              clear hv hkk ho hoo hge ha hnd hS
              have HSM := Lib.hid (show l5.length ≤ 70000 by have := HH.out; have := HN1.out.2; have := HN5.out.2; have := HL2.out; omega)
              go_wp2_with fail
              go_region_law (first
                | (go_simp
                   go_at_call 61
                   refine HNAME.out.mono ?_
                   rintro e w8 (⟨t8, l8, hn8, rfl, hr8, hl8, hg8⟩ | ⟨cc', qq, hn8, rfl, hg8⟩)
                   case inr =>
                     obtain ⟨hg, hf, hnf, hlen⟩ := HQ.out
                     obtain ⟨f', rfl⟩ : ∃ k, f = k + 1 := ⟨f - 1, by omega⟩
                     refine ⟨?_, .inr ⟨cc', qq, declF_4 HN1.out.1 HTY.out HN5.out.1 (hnf.trans (namesF_err HA.out hn8)), rfl, grown_trans HX.out.gr (grown_trans (grown_under (Below.refl _ _).drew b) hg8)⟩⟩
                     first | rfl | (simp [go_sem]; done) | (unfold Act.put; simp)
                   have hgw : w7.grownBy w8 (some b) := grown_trans (grown_under (Below.refl _ _).drew b) hg8
                   have HOA : Hid (∀ o, (w8.alloc o).ownsRow 0 9 1 (.slice ao kk cc) kk xs) := fun o => HF.out.2.2.2.1 _ (grown_then hgw ((Below.refl _ _).alloc hgw.size o))
                   have HGA : Hid (∀ o, w7.grownBy (w8.alloc o) (some b)) := fun o => grown_then hgw ((Below.refl _ _).alloc hgw.size o)
                   have d1 : w8.cell? ⟨p, 2, none⟩ = some (.slice ao kk cc) := (World.cell?_of_block (a := ⟨p, 2, none⟩) (hgw.block p hplt (by intro hh; injection hh with hh; have := HBP.out; omega))).trans c1
                   have hp1 : p < w8.heap.size := by have := hgw.size; omega
                   have H1 := Lib.hid (And.intro hn8 (And.intro hr8 (And.intro hl8 hgw)))
                   clear hn8 hr8 hl8 hg8 hgw
                   unfold tokV)
                | (refine step_append_r rfl (.tmp 46) (.tmp 52) 39 rfl 9 i0 _ 1 16 Tryz.underlying39 HI.out HZ.out.1 HZ.out.2.1 HZ.out.2.2 rfl (by decide) (.slice ao kk cc) kk xs rfl (HOA.out _) ⟨w8.heap.size, 0, none⟩ 1 1 rfl [.string (mkS t8.text)] rfl (new_cells w8 [.string (mkS t8.text)] 9) (by simp [Value.oneCell']) (by have := HKK.out; have := HQ.out.2.2.2; have := HSM.out; unfold maxLen; omega) (by have := HKK.out; have := HQ.out.2.2.2; have := HSM.out; omega) ?_
                   intro v2 W2' ho2 hg2 hnew2
                   obtain ⟨g2, c2, hv2⟩ := own_pos ho2 (by omega)
                   subst hv2
                   have hp2 := fldO_at HX.out.fld HF.out.1 HF.out.2.2.2.2.1 (HGA.out _) hg2
                   have y1 : W2'.cell? ⟨p, 2, none⟩ = some (.slice ao kk cc) := by rw [cell_of_row W2' p 2 _ _ _ hp2]; rfl
                   have y2 : W2'.frozen? ⟨p, 2, none⟩ = false := by simp [World.frozen?, hp2]
                   have H2 := Lib.hid (And.intro ho2 (And.intro hg2 hnew2))
                   clear ho2 hg2 hnew2 hp2))
              all_goals
                go_wp2_with fail
                obtain ⟨hg, hf, hnf, hlen⟩ := HQ.out
                obtain ⟨f', rfl⟩ : ∃ k, f = k + 1 := ⟨f - 1, by omega⟩
                obtain ⟨hn8, hr8, hl8, hgw⟩ := H1.out
                have hlo := HLO.out
                have hpn := HPN.out
                have hpw := HPW.out
                go_roundg (l8.length)
                case rel => exact ⟨f', ns ++ [t8.text], l8, rfl, by omega, hnf.trans (namesF_more HA.out hn8), by simp; omega, HX.out.put (by omega) (by omega) (by omega) HF.out hr8 hgw ((Below.refl _ _).alloc (Nat.le_refl _) _) H2.out.1 H2.out.2.1 H2.out.2.2⟩
                case measure => omega
            · have HX := Lib.hid (HX.out.turn hr7 hg7)
              have HRR : Hid (declF N l = some (.ok (⟨t.text, [], ns, t.place⟩, l'.tail))) := by
                obtain ⟨hg, hf, hnf, hlen⟩ := HQ.out
                obtain ⟨f', rfl⟩ : ∃ k, f = k + 1 := ⟨f - 1, by omega⟩
                exact declF_5 HN1.out.1 HTY.out HN5.out.1 (hnf.trans (namesF_stop ha))
              have HLEN := Lib.hid (show l'.tail.length < l.length by have := HQ.out.1; have := HN1.out.2; have := HN5.out.2; have := HL2.out; have := HQ.out.2.2.2; omega)
              obtain ⟨ao, cn, cc, S, hv, hat, hnd, hge, hz⟩ := HX.out.slice
              obtain ⟨⟨g0, g1, g2, g3⟩, _⟩ := four_facts hv
              obtain ⟨⟨q0, q1, q2, q3⟩, u0, u1, u2, u3⟩ := four_facts hz
              have HA := Lib.hid (And.intro hat (And.intro hnd hge))
              clear hv hat hnd hge hz ha hr7 hlt hg7 HT
              go_wp2_with fail
              refine bodyPost_ret (v := .agg #[.string (mkS t.text), .string (mkS []), .slice ao cn cc, .int .i64 (t.place : Int)]) (by simp [results, Tryz.results35, go_sem, q0, q1, q2, q3]) rfl ?_
              exact decl_end HX.out HA.out.1 HA.out.2.1 HA.out.2.2 HLO.out HPN.out.2 HRR.out HLEN.out
        · exact ⟨rfl, .inr ⟨c, q, declF_3 HN1.out.1 HTY.out hn5, rfl, grown_trans HX.out.gr hg5⟩⟩
  · exact ⟨rfl, .inr ⟨c, q, declF_1 hn1, rfl, grown_trans (grown_under HB0.out b) hg1⟩⟩
end Go.Proofs.YtngimijiafnheaaGreat
