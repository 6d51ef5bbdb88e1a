/- A text without places: the law's copy. -/
import Derived.Test.YtbgkigdlbiknnaaMtE
set_option maxRecDepth 100000
set_option linter.unusedSimpArgs false
namespace LexT
set_option linter.unusedVariables false
theorem set_get {α : Type} {l : List α} {i : Nat} {x y : α} (h : l[i]? = some x) : (l.set i y)[i]? = some y := by
  have : i < l.length := by
    by_cases hlt : i < l.length
    · exact hlt
    · rw [List.getElem?_eq_none (by omega)] at h; cases h
  simp [this]
theorem get_some {α : Type} {l : List α} {i : Nat} (h : i < l.length) : ∃ x, l[i]? = some x := ⟨_, List.getElem?_eq_getElem h⟩
end LexT
namespace Go.Proofs.Ytbgkigdlbiknnaa
open Go.Instr Go.RowKit LexT
set_option linter.unusedVariables false
set_option maxHeartbeats 16000000 in
theorem plain_of (x : Tx) (hsm : smallT x) (S : List Nat) (vx : List Value) (w : World) (hx : AtL w (textC x) S vx) : Calls Try.prog 10 #[.agg vx.toArray] w (CopP (textC (plT x)) w) := by
  obtain ⟨ds, rs⟩ := x
  obtain ⟨ao0, nn0, c0, Sa0, bo0, m0, d0, Sb0, rfl, ha0, hb0⟩ := textParts hx
  obtain ⟨⟨e0, e1⟩, hb2, hs2⟩ := alloc2 w (.cells #[.slice ao0 nn0 c0, .slice bo0 m0 d0] 26) (.cells #[.slice none 0 0, .slice none 0 0] 26)
  obtain ⟨V0, hV0⟩ : ∃ V, V = (w.alloc (.cells #[.slice ao0 nn0 c0, .slice bo0 m0 d0] 26)).alloc (.cells #[.slice none 0 0, .slice none 0 0] 26) := ⟨_, rfl⟩
  rw [← hV0] at e0 e1 hb2 hs2
  have HV0 := Lib.hid hV0
  have HC0 : Hid (Calls Try.prog 18 #[.agg #[.slice ao0 nn0 c0, .slice bo0 m0 d0]] V0 (CopP (textC ⟨ds, rs⟩) V0)) := CopySource_of ⟨ds, rs⟩ hsm S _ V0 (hx.same _ _ _ (fun g hg => hb2.block g (AtL.lt _ _ _ hx g hg)))
  have HB0 := Lib.hid (And.intro hb2 (And.intro e0 e1))
  have HS := Lib.hid hs2
  obtain ⟨⟨g0, g1⟩, _⟩ := two_facts e0
  clear e0 e1 hb2 hs2 hx ha0 hb0 hV0 hsm
  go_enter Try.func10, Try.ntmps10
  go_upto_region 1 with fail
  rw [← HV0.out]
  go_wp2_with fail
  refine HC0.out.mono ?_
  rintro e w1 ⟨vy, S1, rfl, hat, hnd, hge, hbc⟩
  obtain ⟨Sd, Sr, ao, n, c, bo, m, d, rfl, rfl, hd, hr⟩ := text_open hat
  clear g0 g1
  have E0 := (hbc.block w.heap.size (by have := HS.out; omega)).trans HB0.out.2.1
  have E1 := (hbc.block (w.heap.size + 1) (by have := HS.out; omega)).trans HB0.out.2.2
  obtain ⟨⟨g0, g1⟩, ⟨z0, z1⟩⟩ := two_facts E0
  rw [List.nodup_append] at hnd
  obtain ⟨W0, hW0⟩ : ∃ V, V = two w1 w.heap.size (.slice ao n c) (.slice bo m d) := ⟨_, rfl⟩
  have hltd := At.lt _ _ _ hd
  have hltr := At.lt _ _ _ hr
  have hgd : ∀ s ∈ Sd, w.heap.size + 2 ≤ s := fun s hs => by have := hge s (List.mem_append_left _ hs); have := HS.out; omega
  have hgr : ∀ s ∈ Sr, w.heap.size + 2 ≤ s := fun s hs => by have := hge s (List.mem_append_right _ hs); have := HS.out; omega
  have HN : Hid (n = ds.length ∧ m = rs.length ∧ n ≤ 9223372036854775807 ∧ m ≤ 9223372036854775807) := by
    have h1 := hd.count
    have h2 := hr.count
    rw [flat_length declC 4 (fun _ => rfl)] at h1
    rw [flat_length ruleC 4 (fun _ => rfl)] at h2
    have h3 := hd.small
    have h4 := hr.small
    unfold maxLen at h3 h4
    exact ⟨by have h1 : ds.length * 4 = n * 4 := h1; omega, by have h2 : rs.length * 4 = m * 4 := h2; omega, h3, h4⟩
  have H0 : Hid (At W0 (.row 35 4 (ds.flatMap declC)) Sd (.slice ao n c) ∧ At W0 (.row 38 4 (rs.flatMap ruleC)) Sr (.slice bo m d) ∧ W0.heap[w.heap.size]? = some (.cells #[.slice ao n c, .slice bo m d] 26 (0, 0)) ∧ W0.heap[w.heap.size + 1]? = some (.cells #[.slice none 0 0, .slice none 0 0] 26 (0, 0)) ∧ Below w.heap.size w W0 ∧ w.heap.size + 2 ≤ W0.heap.size) := by
    rw [hW0]
    refine ⟨hd.same _ _ _ (fun s hs => two_same _ _ _ _ _ (by have := hgd s hs; omega)), hr.same _ _ _ (fun s hs => two_same _ _ _ _ _ (by have := hgr s hs; omega)), ?_, (two_same _ _ _ _ _ (by omega)).trans E1, (HB0.out.1.trans (hbc.mono HB0.out.1.size)).trans (two_low _ _ _ _ _ (Nat.le_refl _)), ?_⟩
    · unfold two
      rw [heap_setCell_same _ _ 1 _ _ _ (heap_setCell_same _ _ 0 _ _ _ E0)]; rfl
    · have := hbc.size; have := HS.out; simp [two, World.setCell]; omega
  have HD : Hid (Sd.Nodup ∧ Sr.Nodup ∧ (∀ s ∈ Sd, s ∉ Sr) ∧ (∀ s ∈ Sd, w.heap.size + 2 ≤ s) ∧ (∀ s ∈ Sr, w.heap.size + 2 ≤ s)) := ⟨hnd.1, hnd.2.1, fun s h1 h2 => hnd.2.2 s h1 s h2 rfl, hgd, hgr⟩
  clear hat hnd hge hbc hd hr E0 E1 hltd hltr hgd hgr
  go_upto_region 2 with fail
  rw [show (w1.setCell ⟨w.heap.size, 0, none⟩ (.slice ao n c)).setCell ⟨w.heap.size, 1, none⟩ (.slice bo m d) = W0 from hW0.symm]
  clear g0 g1 z0 z1
  have HW0 := Lib.hid hW0
  clear hW0
  obtain ⟨⟨g0, g1⟩, _⟩ := two_facts H0.out.2.2.1
  go_wp2_with fail
  go_loopg [3] n (fun gg v wr => ∃ i : Nat, i ≤ n ∧ gg = n - i ∧ v = .int .i64 i ∧ At wr (.row 35 4 ((half plD ds i).flatMap declC)) Sd (.slice ao n c) ∧ Below w.heap.size W0 wr ∧ (∀ s, s < W0.heap.size → s ∉ Sd → wr.heap[s]? = W0.heap[s]?))
  case atStart => exact ⟨0, by omega, rfl, rfl, by rw [half_zero]; exact H0.out.1, Below.refl _ _, fun s _ _ => rfl⟩
  case round =>
    obtain ⟨i, hi, hgi, rfl, hat, hbl, hfr⟩ := hrel
    have HB := Lib.hid hbl
    have HG := Lib.hid hgi
    have HO := Lib.hid (And.intro hat hfr)
    obtain ⟨⟨k0, k1⟩, _⟩ := two_facts ((hfr w.heap.size (by have := H0.out.2.2.2.2.2; omega) (fun h => by have := HD.out.2.2.2.1 _ h; omega)).trans H0.out.2.2.1)
    clear hbl hgi hat hfr g0 g1
    by_cases hlt : i < n
    · obtain ⟨y, hy⟩ := get_some (l := ds) (i := i) (by have := HN.out.1; omega)
      obtain ⟨hh1, hh2⟩ := half_at plD ds i y hy
      obtain ⟨ga, hga⟩ : ∃ ga, ao = some ⟨ga, 0, none⟩ := by
        obtain ⟨ga, va, Sb, hao, _⟩ := HO.out.1.elem i hlt
        exact ⟨ga, hao⟩
      subst hga
      obtain ⟨hat2, y0, y1, y2, y3⟩ := decl_put HO.out.1 HD.out.1 hh1
      rw [hh2] at hat2
      have HQ := Lib.hid (And.intro hat2 (And.intro y2 y3))
      have i1 : (i : Int) < (n : Int) := by omega
      have i0 : (0 : Int) ≤ (i : Int) := by omega
      clear hat2 y2 y3 hh1 hh2 hy
      go_wp2_with fail
      go_roundg (n - (i + 1))
      case rel =>
        obtain ⟨hat2, y2, y3⟩ := HQ.out
        have hnb := HN.out.2.2.1
        refine ⟨i + 1, by omega, rfl, by refine congrArg _ ?_; unfold wrap64; omega, hat2, ?_, ?_⟩
        · exact HB.out.setCell (p := ⟨ga, i * 4 + 3, none⟩) (by have := HD.out.2.2.2.1 _ y3; show w.heap.size ≤ ga; omega) _
        · intro s hs hs2
          exact (Below.heap_setCell _ _ _ _ (fun e => hs2 (by rw [show s = ga from e]; exact y3))).trans (HO.out.2 s hs hs2)
      case measure => rw [HG.out]; omega
    · have i1 : ¬ (i : Int) < (n : Int) := by omega
      have hie : ds.length ≤ i := by have := HN.out.1; omega
      obtain ⟨W1, rfl⟩ : ∃ V, V = wr := ⟨_, rfl⟩
      have H1 : Hid (At W1 (.row 35 4 ((ds.map plD).flatMap declC)) Sd (.slice ao n c) ∧ At W1 (.row 38 4 (rs.flatMap ruleC)) Sr (.slice bo m d) ∧ W1.heap[w.heap.size]? = some (.cells #[.slice ao n c, .slice bo m d] 26 (0, 0)) ∧ W1.heap[w.heap.size + 1]? = some (.cells #[.slice none 0 0, .slice none 0 0] 26 (0, 0)) ∧ Below w.heap.size w W1 ∧ w.heap.size + 2 ≤ W1.heap.size) := by
        obtain ⟨hat, hfr⟩ := HO.out
        rw [half_all _ _ _ hie] at hat
        refine ⟨hat, H0.out.2.1.same _ _ _ (fun s hs => hfr s (At.lt _ _ _ H0.out.2.1 s hs) (fun h => HD.out.2.2.1 s h hs)), ?_, ?_, H0.out.2.2.2.2.1.trans (HB.out.mono (Nat.le_refl _)), by have := HB.out.size; have := H0.out.2.2.2.2.2; omega⟩
        · exact (hfr _ (by have := H0.out.2.2.2.2.2; omega) (fun h => by have := HD.out.2.2.2.1 _ h; omega)).trans H0.out.2.2.1
        · exact (hfr _ (by have := H0.out.2.2.2.2.2; omega) (fun h => by have := HD.out.2.2.2.1 _ h; omega)).trans H0.out.2.2.2.1
      clear hie
      go_wp2_with fail
      go_loopg [4] m (fun gg v wq => ∃ i : Nat, i ≤ m ∧ gg = m - i ∧ v = .int .i64 i ∧ At wq (.row 38 4 ((half plR rs i).flatMap ruleC)) Sr (.slice bo m d) ∧ Below w.heap.size W1 wq ∧ (∀ s, s < W1.heap.size → s ∉ Sr → wq.heap[s]? = W1.heap[s]?))
      case atStart => exact ⟨0, by omega, rfl, rfl, by rw [half_zero]; exact H1.out.2.1, Below.refl _ _, fun s _ _ => rfl⟩
      case round =>
        clear k0 k1 i1 hi hlt
        obtain ⟨i2, hi2, hgi2, rfl, hat, hbl, hfr⟩ := hrel
        obtain ⟨wq, rfl⟩ : ∃ V, V = wr := ⟨_, rfl⟩
        have HB2 := Lib.hid hbl
        have HG2 := Lib.hid hgi2
        have HO2 := Lib.hid (And.intro hat hfr)
        have HX2 : Hid (wq.heap[w.heap.size]? = some (.cells #[.slice ao n c, .slice bo m d] 26 (0, 0)) ∧ wq.heap[w.heap.size + 1]? = some (.cells #[.slice none 0 0, .slice none 0 0] 26 (0, 0)) ∧ w.heap.size + 2 ≤ wq.heap.size) := by
          refine ⟨?_, ?_, by have := hbl.size; have := H1.out.2.2.2.2.2; omega⟩
          · exact (hfr _ (by have := H1.out.2.2.2.2.2; omega) (fun h => by have := HD.out.2.2.2.2 _ h; omega)).trans H1.out.2.2.1
          · exact (hfr _ (by have := H1.out.2.2.2.2.2; omega) (fun h => by have := HD.out.2.2.2.2 _ h; omega)).trans H1.out.2.2.2.1
        obtain ⟨⟨k0, k1⟩, _⟩ := two_facts HX2.out.1
        clear hbl hgi2 hat hfr
        by_cases hlt2 : i2 < m
        · obtain ⟨r, hy⟩ := get_some (l := rs) (i := i2) (by have := HN.out.2.1; omega)
          obtain ⟨hh1, hh2⟩ := half_at plR rs i2 r hy
          obtain ⟨ga, hga⟩ : ∃ ga, bo = some ⟨ga, 0, none⟩ := by
            obtain ⟨ga, va, Sb, hao, _⟩ := HO2.out.1.elem i2 hlt2
            exact ⟨ga, hao⟩
          subst hga
          obtain ⟨hat2, y0, y1, y2, y3⟩ := rule_put HO2.out.1 HD.out.2.1 hh1
          obtain ⟨w3, hw3⟩ : ∃ V, V = wq.setCell ⟨ga, i2 * 4 + 3, none⟩ (.int .i64 0) := ⟨_, rfl⟩
          rw [← hw3] at hat2
          have hgab : w.heap.size + 2 ≤ ga := HD.out.2.2.2.2 _ y3
          have HX3 : Hid (w3.heap[w.heap.size]? = some (.cells #[.slice ao n c, .slice (some ⟨ga, 0, none⟩) m d] 26 (0, 0)) ∧ w3.heap.size = wq.heap.size ∧ (∀ s : Nat, s ≠ ga → w3.heap[s]? = wq.heap[s]?) ∧ ga < wq.heap.size ∧ ga ∈ Sr) := by
            have hne : ∀ s : Nat, s ≠ ga → w3.heap[s]? = wq.heap[s]? := fun s hs => by rw [hw3]; exact Below.heap_setCell _ _ _ _ hs
            exact ⟨(hne _ (by omega)).trans HX2.out.1, by rw [hw3]; simp [World.setCell], hne, y2, y3⟩
          have hgx := set_get (y := (⟨r.name, r.params, r.alts, 0⟩ : Ru)) hh1
          obtain ⟨Sa, ao1, m1, c1, kc, hata, hnda, hina, hga1, hga2, hput⟩ := rule_zoom hat2 HD.out.2.1 hgx
          simp only [List.set_set] at hput
          have HZ := Lib.hid (And.intro hput (And.intro hh2 (And.intro hina hga1)))
          have HA1 := Lib.hid (And.intro hata hnda)
          have HM1 : Hid (m1 = r.alts.length ∧ m1 ≤ 9223372036854775807) := by
            have h1 := hata.count
            rw [flat_length altC 6 (fun _ => rfl)] at h1
            have h3 := hata.small
            unfold maxLen at h3
            exact ⟨by have h1 : r.alts.length * 6 = m1 * 6 := h1; omega, h3⟩
          have HW3 := Lib.hid hw3
          have HKC := Lib.hid kc
          have HLT2 := Lib.hid hlt2
          have i1 : (i2 : Int) < (m : Int) := by omega
          have i0 : (0 : Int) ≤ (i2 : Int) := by omega
          clear hat2 y2 y3 hh1 hh2 hy hput hina hga1 hga2 hata hnda hgx hgab hw3
          go_upto_region 10 with fail
          rw [← HW3.out]
          clear k0 k1 y0 y1
          obtain ⟨⟨k0, k1⟩, _⟩ := two_facts HX3.out.1
          go_wp2_with fail
          go_loopg [5] m1 (fun gg v wa => ∃ i : Nat, i ≤ m1 ∧ gg = m1 - i ∧ v = .int .i64 i ∧ At wa (.row 41 6 ((half plA r.alts i).flatMap altC)) Sa (.slice ao1 m1 c1) ∧ Below w.heap.size w3 wa ∧ (∀ s, s < w3.heap.size → s ∉ Sa → wa.heap[s]? = w3.heap[s]?))
          case atStart => exact ⟨0, by omega, rfl, rfl, by rw [half_zero]; exact HA1.out.1, Below.refl _ _, fun s _ _ => rfl⟩
          case round =>
            clear k0 k1 i1 i0 hlt2 hi2 kc
            obtain ⟨i3, hi3, hgi3, rfl, hat, hbl, hfr⟩ := hrel
            obtain ⟨wa, rfl⟩ : ∃ V, V = wr := ⟨_, rfl⟩
            have HB3 := Lib.hid hbl
            have HG3 := Lib.hid hgi3
            have HO3 := Lib.hid (And.intro hat hfr)
            have HX4 : Hid (wa.heap[w.heap.size]? = some (.cells #[.slice ao n c, .slice (some ⟨ga, 0, none⟩) m d] 26 (0, 0)) ∧ wa.cell? ⟨ga, i2 * 4 + 2, none⟩ = some (.slice ao1 m1 c1) ∧ w3.heap.size ≤ wa.heap.size) := by
              refine ⟨?_, ?_, hbl.size⟩
              · exact (hfr _ (by have := HX3.out.2.1; have := HX2.out.2.2; omega) (fun h => by have := HD.out.2.2.2.2 _ (HZ.out.2.2.1 _ h); omega)).trans HX3.out.1
              · exact (World.cell?_of_block (a := ⟨ga, i2 * 4 + 2, none⟩) (hfr ga (by have := HX3.out.2.1; have := HX3.out.2.2.2.1; omega) HZ.out.2.2.2)).trans HKC.out
            obtain ⟨⟨k0, k1⟩, _⟩ := two_facts HX4.out.1
            have kc := HX4.out.2.1
            clear hbl hgi3 hat hfr
            by_cases hlt3 : i3 < m1
            · obtain ⟨a, hy⟩ := get_some (l := r.alts) (i := i3) (by have := HM1.out.1; omega)
              obtain ⟨hh1, hh2⟩ := half_at plA r.alts i3 a hy
              obtain ⟨gb, hgb⟩ : ∃ ga, ao1 = some ⟨ga, 0, none⟩ := by
                obtain ⟨ga, va, Sb, hao, _⟩ := HO3.out.1.elem i3 hlt3
                exact ⟨ga, hao⟩
              subst hgb
              obtain ⟨hat5, u0, u1, u2, u3⟩ := alt_put5 HO3.out.1 HA1.out.2 hh1
              obtain ⟨w5, hw5⟩ : ∃ V, V = wa.setCell ⟨gb, i3 * 6 + 5, none⟩ (.int .i64 0) := ⟨_, rfl⟩
              rw [← hw5] at hat5
              have hx5 := set_get (y := (⟨a.words, a.prec, a.has, a.action, a.where_, 0⟩ : Al)) hh1
              obtain ⟨hat6, x0, x1, x2, x3⟩ := alt_put4 hat5 HA1.out.2 hx5
              obtain ⟨w6, hw6⟩ : ∃ V, V = w5.setCell ⟨gb, i3 * 6 + 4, none⟩ (.int .i64 0) := ⟨_, rfl⟩
              rw [← hw6, List.set_set] at hat6
              have hx6 := set_get (y := (⟨a.words, a.prec, a.has, a.action, 0, 0⟩ : Al)) hh1
              obtain ⟨Sw, ao2, m2, c2, kw, hatw, hndw, hinw, hgw1, hgw2, hput2⟩ := alt_zoom hat6 HA1.out.2 hx6
              simp only [List.set_set] at hput2
              have HZ2 := Lib.hid (And.intro hput2 (And.intro hh2 (And.intro hinw (And.intro hgw1 (And.intro hgw2 u2)))))
              have HA2 := Lib.hid (And.intro hatw hndw)
              have HM2 : Hid (m2 = a.words.length ∧ m2 ≤ 9223372036854775807) := by
                have h1 := hatw.count
                rw [flat_length (wdC 44) 3 (fun x => wdC_length _ x)] at h1
                have h3 := hatw.small
                unfold maxLen at h3
                exact ⟨by have h1 : a.words.length * 3 = m2 * 3 := h1; omega, h3⟩
              have HX6 : Hid (w6.heap.size = wa.heap.size ∧ ∀ s : Nat, s ≠ gb → w6.heap[s]? = wa.heap[s]?) := by
                refine ⟨by rw [hw6, hw5]; simp [World.setCell], fun s hs => ?_⟩
                rw [hw6, Below.heap_setCell _ _ _ _ hs, hw5, Below.heap_setCell _ _ _ _ hs]
              have HW5 := Lib.hid hw5
              have HLT3 := Lib.hid hlt3
              have HW6 := Lib.hid hw6
              have HKW := Lib.hid kw
              have i1 : (i3 : Int) < (m1 : Int) := by omega
              have i0 : (0 : Int) ≤ (i3 : Int) := by omega
              clear hat5 hat6 u2 u3 x2 x3 hx5 hx6 hput2 hinw hgw1 hgw2 hh1 hh2 hy hatw hndw hw5 hw6
              go_upto_region 15 with fail
              rw [← HW5.out]
              clear u0 u1
              go_upto_region 16 with fail
              rw [← HW6.out]
              clear x0 x1 k0 k1 kc
              go_wp2_with fail
              go_loopg [7] m2 (fun gg v wb => ∃ i : Nat, i ≤ m2 ∧ gg = m2 - i ∧ v = .int .i64 i ∧ At wb (.row 44 3 ((half bareW a.words i).flatMap (wdC 44))) Sw (.slice ao2 m2 c2) ∧ Below w.heap.size w6 wb ∧ (∀ s, s < w6.heap.size → s ∉ Sw → wb.heap[s]? = w6.heap[s]?))
              case atStart => exact ⟨0, by omega, rfl, rfl, by rw [half_zero]; exact HA2.out.1, Below.refl _ _, fun s _ _ => rfl⟩
              case round =>
                clear kw i1 i0 hlt3 hi3
                obtain ⟨i4, hi4, hgi4, rfl, hat, hbl, hfr⟩ := hrel
                obtain ⟨wb, rfl⟩ : ∃ V, V = wr := ⟨_, rfl⟩
                have HB4 := Lib.hid hbl
                have HG4 := Lib.hid hgi4
                have HO4 := Lib.hid (And.intro hat hfr)
                have kw : wb.cell? ⟨gb, i3 * 6, none⟩ = some (.slice ao2 m2 c2) := (World.cell?_of_block (a := ⟨gb, i3 * 6, none⟩) (hfr gb (by have := HX6.out.1; have := HZ2.out.2.2.2.2.2; omega) HZ2.out.2.2.2.1)).trans HKW.out
                clear hbl hgi4 hat hfr
                by_cases hlt4 : i4 < m2
                · obtain ⟨x, hx⟩ := get_some (l := a.words) (i := i4) (by have := HM2.out.1; omega)
                  obtain ⟨hh1, hh2⟩ := half_at bareW a.words i4 x hx
                  obtain ⟨gw, hgw⟩ : ∃ ga, ao2 = some ⟨ga, 0, none⟩ := by
                    obtain ⟨ga, va, Sb, hao, _⟩ := HO4.out.1.elem i4 hlt4
                    exact ⟨ga, hao⟩
                  subst hgw
                  obtain ⟨xn, xs, xq⟩ := x
                  obtain ⟨Sm, ao3, m3, c3, ka0, ka1, ka2, hsub, hnd1, hin1, hg1, hg2, hg3, hput⟩ := word_put HO4.out.1 HA2.out.2 hh1
                  have HE : Hid (Calls Try.prog 19 #[.agg #[.string (mkS xn), .slice ao3 m3 c3, .int .i64 (xq : Int)]] wb.drew (BareP w.heap.size xn xs Sm ao3 m3 c3 wb.drew)) := bare_of w.heap.size xn xs xq Sm ao3 m3 c3 wb.drew (hsub.same _ _ _ (fun s _ => rfl)) hnd1 (fun s hs => by have := HD.out.2.2.2.2 _ (HZ.out.2.2.1 _ (HZ2.out.2.2.1 _ (hin1 s hs))); omega) (by have := HB4.out.size; have := HX6.out.1; have := HX4.out.2.2; have := HX3.out.2.1; have := HX2.out.2.2; show w.heap.size ≤ wb.heap.size; omega)
                  have HP := Lib.hid hput
                  have HS2 := Lib.hid (And.intro hin1 (And.intro hg1 (And.intro hg2 (And.intro hg3 hh2))))
                  have i1 : (i4 : Int) < (m2 : Int) := by omega
                  have i0 : (0 : Int) ≤ (i4 : Int) := by omega
                  have HKW2 := Lib.hid kw
                  clear hput hin1 hg1 hg2 hg3 hsub hnd1 hx hh1 hh2
                  go_wp2_with fail
                  go_region_law (
                    (go_simp
                     go_at_call 19
                     refine HE.out.mono ?_
                     rintro e w1 ⟨rfl, hat1, hb1, hf1⟩
                     have hf1' : ∀ s, s < wb.heap.size → s ∉ Sm → w1.heap[s]? = wb.heap[s]? := hf1
                     obtain ⟨⟨d0, d1, d2, y0, y1, y2⟩, hat2, hf2⟩ := HP.out w1 hat1 hf1'
                     have HQ := Lib.hid (And.intro hat2 (And.intro hf2 (And.intro hf1' hb1)))
                     have q1 : w1.cell? ⟨gb, i3 * 6, none⟩ = some (.slice (some ⟨gw, 0, none⟩) m2 c2) := (World.cell?_of_block (a := ⟨gb, i3 * 6, none⟩) (hf1' gb (by have := HB4.out.size; have := HX6.out.1; have := HZ2.out.2.2.2.2.2; omega) (fun hs => HZ2.out.2.2.2.1 (HS2.out.1 _ hs)))).trans HKW2.out
                     clear hat1 hb1 hf1 hf1' hat2 hf2))
                  all_goals
                    go_wp2_with fail
                    go_roundg (m2 - (i4 + 1))
                    case rel =>
                      obtain ⟨hin1, hg1, hg2, hg3, hh2⟩ := HS2.out
                      obtain ⟨hat2, hf2, hf1, hb1⟩ := HQ.out
                      have hsml := HM2.out.2
                      refine ⟨i4 + 1, by omega, rfl, by refine congrArg _ ?_; unfold wrap64; omega, ?_, ?_, ?_⟩
                      · rw [← hh2]; exact hat2
                      · have hga : w.heap.size ≤ gw := by have := HD.out.2.2.2.2 _ (HZ.out.2.2.1 _ (HZ2.out.2.2.1 _ hg2)); omega
                        exact (((HB4.out.trans ((Below.refl w.heap.size wb).drew.trans hb1)).setCell (p := ⟨gw, i4 * 3, none⟩) hga _).setCell (p := ⟨gw, i4 * 3 + 1, none⟩) hga _).setCell (p := ⟨gw, i4 * 3 + 2, none⟩) hga _
                      · intro s hs hs2
                        refine (hf2 s (fun e => hs2 (by rw [e]; exact hg2))).trans ((hf1 s (by have := HB4.out.size; omega) (fun h => hs2 (hin1 s h))).trans (HO4.out.2 s hs hs2))
                    case measure => rw [HG4.out]; omega
                · have i1 : ¬ (i4 : Int) < (m2 : Int) := by omega
                  have HR3 : Hid (At wb (.row 41 6 ((half plA r.alts (i3 + 1)).flatMap altC)) Sa (.slice (some ⟨gb, 0, none⟩) m1 c1) ∧ Below w.heap.size w3 wb ∧ (∀ s, s < w3.heap.size → s ∉ Sa → wb.heap[s]? = w3.heap[s]?)) := by
                    obtain ⟨hput2, hh2, hinw, hgw1, hgw2, u2⟩ := HZ2.out
                    obtain ⟨hat, hfr⟩ := HO4.out
                    rw [half_all _ _ _ (by have := HM2.out.1; omega)] at hat
                    have h1 := hput2 wb _ (fun s hs hs2 => hfr s (by have := At.lt _ _ _ HO3.out.1 s hs; have := HX6.out.1; omega) hs2) hat
                    rw [← bareWs_map] at h1
                    have h2 : (half plA r.alts i3).set i3 ⟨bareWs a.words, a.prec, a.has, a.action, 0, 0⟩ = half plA r.alts (i3 + 1) := hh2
                    have hgb : w.heap.size ≤ gb := by have := HD.out.2.2.2.2 _ (HZ.out.2.2.1 _ hgw2); omega
                    refine ⟨by rw [← h2]; exact h1, ?_, fun s hs hs2 => ?_⟩
                    · have h3 : Below w.heap.size wa w6 := by
                        rw [HW6.out, HW5.out]
                        exact ((Below.refl _ _).setCell (p := ⟨gb, i3 * 6 + 5, none⟩) hgb _).setCell (p := ⟨gb, i3 * 6 + 4, none⟩) hgb _
                      exact (HB3.out.trans h3).trans HB4.out
                    · refine (hfr s (by have := HX6.out.1; have := HX4.out.2.2; omega) (fun h => hs2 (hinw s h))).trans ((HX6.out.2 s (fun e => hs2 (by rw [e]; exact hgw2))).trans (HO3.out.2 s hs hs2))
                  go_wp2_with fail
                  go_roundg (m1 - (i3 + 1))
                  case rel =>
                    have hsml := HM1.out.2
                    have hi3' : i3 < m1 := HLT3.out
                    exact ⟨i3 + 1, by omega, rfl, by refine congrArg _ ?_; unfold wrap64; omega, HR3.out.1, HR3.out.2.1, HR3.out.2.2⟩
                  case measure => rw [HG3.out]; have := HLT3.out; omega
            · have i1 : ¬ (i3 : Int) < (m1 : Int) := by omega
              have HR2 : Hid (At wa (.row 38 4 ((half plR rs (i2 + 1)).flatMap ruleC)) Sr (.slice (some ⟨ga, 0, none⟩) m d) ∧ Below w.heap.size W1 wa ∧ (∀ s, s < W1.heap.size → s ∉ Sr → wa.heap[s]? = W1.heap[s]?)) := by
                obtain ⟨hput, hh2, hina, hga1⟩ := HZ.out
                obtain ⟨hat, hfr⟩ := HO3.out
                rw [half_all _ _ _ (by have := HM1.out.1; omega)] at hat
                have h1 := hput wa _ (fun s hs hs2 => hfr s (by have := At.lt _ _ _ HO2.out.1 s hs; have := HX3.out.2.1; omega) hs2) hat
                have h2 : (half plR rs i2).set i2 ⟨r.name, r.params, r.alts.map plA, 0⟩ = half plR rs (i2 + 1) := hh2
                have hga : w.heap.size ≤ ga := by have := HD.out.2.2.2.2 _ HX3.out.2.2.2.2; omega
                refine ⟨by rw [← h2]; exact h1, ?_, fun s hs hs2 => ?_⟩
                · have h3 : Below w.heap.size wq w3 := by
                    rw [HW3.out]
                    exact (Below.refl _ _).setCell (p := ⟨ga, i2 * 4 + 3, none⟩) hga _
                  exact (HB2.out.trans h3).trans HB3.out
                · refine (hfr s (by have := HX3.out.2.1; have := HB2.out.size; omega) (fun h => hs2 (hina s h))).trans ((HX3.out.2.2.1 s (fun e => hs2 (by rw [e]; exact HX3.out.2.2.2.2))).trans (HO2.out.2 s hs hs2))
              go_wp2_with fail
              go_roundg (m - (i2 + 1))
              case rel =>
                have hsml := HN.out.2.2.2
                have hi2' : i2 < m := HLT2.out
                exact ⟨i2 + 1, by omega, rfl, by refine congrArg _ ?_; unfold wrap64; omega, HR2.out.1, HR2.out.2.1, HR2.out.2.2⟩
              case measure => rw [HG2.out]; have := HLT2.out; omega
        · have i1 : ¬ (i2 : Int) < (m : Int) := by omega
          obtain ⟨⟨q0, q1⟩, ⟨u0, u1⟩⟩ := two_facts HX2.out.2.1
          go_wp2_with fail
          refine bodyPost_ret (v := .agg #[.slice ao n c, .slice bo m d]) (by simp [results, Try.results10, go_sem, q0, q1]) rfl ?_
          have hlow := two_low w.heap.size wq (w.heap.size + 1) (.slice ao n c) (.slice bo m d) (by omega)
          have hfin : ∀ s : Nat, s ≠ w.heap.size + 1 → (two wq (w.heap.size + 1) (.slice ao n c) (.slice bo m d)).heap[s]? = wq.heap[s]? := fun s hs => two_same _ _ _ _ _ hs
          obtain ⟨hat, hfr⟩ := HO2.out
          rw [half_all _ _ _ (by have := HN.out.2.1; omega)] at hat
          have hd1 := H1.out.1.same (w' := wq) _ _ _ (fun s hs => hfr s (At.lt _ _ _ H1.out.1 s hs) (HD.out.2.2.1 s hs))
          refine ⟨[.slice ao n c, .slice bo m d], Sd ++ Sr, rfl, text_close (x := plT ⟨ds, rs⟩) (hd1.same _ _ _ (fun s hs => hfin s (by have := HD.out.2.2.2.1 s hs; omega))) (hat.same _ _ _ (fun s hs => hfin s (by have := HD.out.2.2.2.2 s hs; omega))), ?_, ?_, (H1.out.2.2.2.2.1.trans HB2.out).trans hlow⟩
          · rw [List.nodup_append]
            exact ⟨HD.out.1, HD.out.2.1, fun s h1 t h2 e => HD.out.2.2.1 s h1 (by rw [e]; exact h2)⟩
          · intro s hs
            rcases List.mem_append.1 hs with h | h
            · have := HD.out.2.2.2.1 s h; omega
            · have := HD.out.2.2.2.2 s h; omega
end Go.Proofs.Ytbgkigdlbiknnaa
