/- A text: the walk. -/
import Derived.Test.YtngimijiafnheaaGreatRdS
set_option maxRecDepth 100000
set_option linter.unusedSimpArgs false
namespace Go.Proofs.YtngimijiafnheaaGreat
open Go.Instr Go.RowKit LexT
set_option linter.unusedVariables false
variable {n b : Nat} {t : Tok} {r l : List Tok}
set_option maxHeartbeats 20000000 in
theorem text_any (N : Nat) (w : World) (l : List Tok) (h : Rd n w b l) (hN : l.length < N) : Calls Tryz.prog 20 #[.pointer (some ⟨b, 0, none⟩)] w (StrP n b textC (textF N l) l.length w) := by
  obtain ⟨⟨e0, e1⟩, hb2, hs2⟩ := alloc2 w (.cells zeroText 25) (.cells zeroText 25)
  have HST : Hid (TxD n w.heap.size (w.heap.size + 1 + 1) b (w.heap.size + 1) w ((w.alloc (.cells zeroText 25)).alloc (.cells zeroText 25)) [] l) := by
    have h1 := h.lt
    have h2 := h.le
    exact ⟨h.under hb2, ⟨⟨.slice none 0 0, [], e1, At.empty _ _ _, List.nodup_nil, by simp⟩, e0, by omega, by omega, by omega, by omega, by omega, by omega, by omega⟩, grown_below hb2 _⟩
  have HH := Lib.hid (And.intro h.lt (And.intro h.le (And.intro hN h.small)))
  obtain ⟨i0, hi, hz0, hz1, hz2⟩ := info_parts Tryz.infoDecl
  have HIi0 := Lib.hid hi
  have HZi0 := Lib.hid (And.intro hz0 (And.intro hz1 hz2))
  clear hi hz0 hz1 hz2
  obtain ⟨i1, hi, hz0, hz1, hz2⟩ := info_parts Tryz.infoRule
  have HIi1 := Lib.hid hi
  have HZi1 := Lib.hid (And.intro hz0 (And.intro hz1 hz2))
  clear hi hz0 hz1 hz2 h hN e0 e1 hb2 hs2
  have HSM := Lib.hid (show l.length ≤ 70000 from HH.out.2.2.2)
  go_enter Tryz.func20, Tryz.ntmps20
  go_upto_region 2 with fail
  obtain ⟨W1, hW1⟩ : ∃ W1, W1 = (w.alloc (.cells zeroText 25)).alloc (.cells zeroText 25) := ⟨_, rfl⟩
  rw [← hW1] at HST
  unfold zeroText at hW1
  rw [← hW1]
  clear hW1
  obtain ⟨lo, hlo⟩ : ∃ lo, w.heap.size = lo := ⟨_, rfl⟩
  have HLO := Lib.hid hlo
  obtain ⟨p, hp⟩ : ∃ p, lo + 1 = p := ⟨_, rfl⟩
  have HP := Lib.hid hp
  rw [hlo] at HST ⊢
  rw [hp] at HST ⊢
  have HPN := Lib.hid (show n ≤ lo by have := HH.out.2.1; omega)
  clear hlo hp
  go_loopg [4] (l.length) (fun g v4 wr => ∃ (f : Nat) (xs_ : List De) (l' : List Tok), g = l'.length ∧ l'.length < f ∧ declsF N N [] l = declsF N f xs_ l' ∧ xs_.length + l'.length ≤ l.length ∧ TxD n lo (p + 1) b p w wr xs_ l')
  case atStart => exact ⟨N, [], l, rfl, HH.out.2.2.1, rfl, by simp, HST.out⟩
  case round =>
    obtain ⟨f, xs_, l', hg, hf, hnf, hlen, hst⟩ := hrel
    have HT := Lib.hid (takes_any [37, 37] (by simp) wr hst.rd)
    have HX := Lib.hid hst
    have HQ := Lib.hid (And.intro hg (And.intro hf (And.intro hnf hlen)))
    clear hg hf hnf hlen hst
    go_wp2_with fail
    refine HT.out.mono ?_
    rintro e w7 (⟨ha, rfl, hr7, hg7⟩ | ⟨ha, rfl, hr7, hlt, hg7⟩)
    · have HX := Lib.hid (HX.out.turn hr7 hg7)
      have HA := Lib.hid ha
      clear ha hr7 hg7 HT
      obtain ⟨v, kk, xs, hv, hkk, ho, hoo, hge, S', ha', hnd, hS⟩ := HX.out.fld.open_
      obtain ⟨ao, cc, rfl⟩ := own_form ho
      have c1 : w7.cell? ⟨p, 0, none⟩ = some (.slice ao kk cc) := by rw [cell_of_row w7 p 0 _ _ _ hv]; rfl
      have z1 : w7.frozen? ⟨p, 0, none⟩ = false := by simp [World.frozen?, hv]
      have hplt : p < w7.heap.size := World.block_lt_of_cell? _ _ c1
      have HKK := Lib.hid (show xs_.length = kk by have := hkk; rw [declsC_length] at this; omega)
      have HF := Lib.hid (And.intro hv (And.intro hkk (And.intro ho (And.intro hoo (And.intro hge (And.intro ha' (And.intro hnd hS)))))))
      have HBP := Lib.hid (show b < p by have := HX.out.fld.b0; have := HX.out.fld.p1; omega)
      clear hv hkk ho hoo hge ha' hnd hS

      have HCALL := Lib.hid (decl_any N w7.drew l' (HX.out.rd.under (Below.refl _ _).drew) (by have := HQ.out.2.2.2; have := HH.out.2.2.1; omega))
      go_wp2_with fail
      go_region_law (first
        | (go_simp
           go_at_call 35
           refine HCALL.out.mono ?_
           rintro e w8 (⟨x1, l8, S1, ys, hn8, rfl, hr8, hl8, hat8, hnd8, hge8, hg8⟩ | ⟨cc', qq, hn8, rfl, hg8⟩)
           case inr =>
             obtain ⟨hg, hf, hnf, hlen⟩ := HQ.out
             obtain ⟨f', rfl⟩ : ∃ k, f = k + 1 := ⟨f - 1, by omega⟩
             refine ⟨?_, .inr ⟨cc', qq, textF_1 (hnf.trans (declsF_err HA.out hn8)), rfl, grown_trans HX.out.gr (grown_trans (grown_under (Below.refl _ _).drew b) hg8)⟩⟩
             first | rfl | (simp [go_sem]; done) | (unfold Act.put; simp)
           obtain ⟨ao1, n1, c1', hys⟩ := declAt hat8
           subst hys
           have hgw : w7.grownBy w8 (some b) := grown_trans (grown_under (Below.refl _ _).drew b) hg8
           have HOA : Hid (∀ o, (w8.alloc o).ownsRow 0 41 4 (.slice ao kk cc) kk xs) := fun o => HF.out.2.2.2.1 _ (grown_then hgw ((Below.refl _ _).alloc hgw.size o))
           have HGA : Hid (∀ o, w7.grownBy (w8.alloc o) (some b)) := fun o => grown_then hgw ((Below.refl _ _).alloc hgw.size o)
           have d1 : w8.cell? ⟨p, 0, none⟩ = some (.slice ao kk cc) := (World.cell?_of_block (a := ⟨p, 0, none⟩) (hgw.block p hplt (by intro hh; injection hh with hh; have := HBP.out; omega))).trans c1
           have hp1 : p < w8.heap.size := by have := hgw.size; omega
           have hge9 : ∀ s ∈ S1, w7.heap.size ≤ s := hge8
           have H1 := Lib.hid (And.intro hn8 (And.intro hr8 (And.intro hl8 (And.intro hgw (And.intro hat8 (And.intro hnd8 hge9))))))
           clear hn8 hr8 hl8 hg8 hgw hat8 hnd8 hge8 hge9)
        | (refine step_append_r rfl (.tmp 10) (.tmp 13) 22 rfl 41 i0 _ 4 64 Tryz.underlying22 HIi0.out HZi0.out.1 HZi0.out.2.1 HZi0.out.2.2 rfl (by decide) (.slice ao kk cc) kk xs rfl (HOA.out _) ⟨w8.heap.size, 0, none⟩ 1 1 rfl [.string (mkS x1.kind), .string (mkS x1.type), .slice ao1 n1 c1', .int .i64 (x1.at_ : Int)] rfl (new_cells w8 [.string (mkS x1.kind), .string (mkS x1.type), .slice ao1 n1 c1', .int .i64 (x1.at_ : Int)] 41) (by simp [Value.oneCell']) (by have := HKK.out; have := HQ.out.2.2.2; have := HSM.out; unfold maxLen; omega) (by have := HKK.out; have := HQ.out.2.2.2; have := HSM.out; omega) ?_
           intro v2 W2' ho2 hg2 hnew2
           obtain ⟨g2, c2, hv2⟩ := own_pos ho2 (by omega)
           subst hv2
           have hp2 := fldO_at HX.out.fld HF.out.1 HF.out.2.2.2.2.1 (HGA.out _) hg2
           have y1 : W2'.cell? ⟨p, 0, none⟩ = some (.slice ao kk cc) := by rw [cell_of_row W2' p 0 _ _ _ hp2]; rfl
           have y2 : W2'.frozen? ⟨p, 0, none⟩ = false := by simp [World.frozen?, hp2]
           have H2 := Lib.hid (And.intro ho2 (And.intro hg2 hnew2))
           clear ho2 hg2 hnew2 hp2))

      all_goals
        go_wp2_with fail
        obtain ⟨hg, hf, hnf, hlen⟩ := HQ.out
        obtain ⟨f', rfl⟩ : ∃ k, f = k + 1 := ⟨f - 1, by omega⟩
        obtain ⟨hn8, hr8, hl8, hgw, hat8, hnd8, hge8⟩ := H1.out
        have hlo := HLO.out
        have hpn := HPN.out
        have hp := HP.out
        have hmore := HX.out.fld.more (idx := 0) hpn HF.out hr8 hgw hat8 rfl hnd8 hge8 ((Below.refl _ _).alloc (Nat.le_refl _) _) H2.out.1 H2.out.2.1 H2.out.2.2 rfl
        go_roundg (l8.length)
        case rel => exact ⟨f', xs_ ++ [x1], l8, rfl, by omega, hnf.trans (declsF_more HA.out hn8), by simp; omega, ⟨hmore.1, by rw [List.flatMap_append]; simpa using hmore.2.1, nx_grown HX.out.gr hmore.2.2 (by omega) (by omega)⟩⟩
        case measure => omega
    · have HX := Lib.hid (HX.out.turn hr7 hg7)
      have HDS : Hid (declsF N N [] l = some (.ok (xs_, l'.tail)) ∧ l'.tail.length < l.length) := by
        obtain ⟨hg, hf, hnf, hlen⟩ := HQ.out
        obtain ⟨f', rfl⟩ : ∃ k, f = k + 1 := ⟨f - 1, by omega⟩
        exact ⟨hnf.trans (declsF_stop ha), by omega⟩
      obtain ⟨aoD, cnD, ccD, Sd, hxr⟩ := HX.out.rules (by rfl)
      have HXR := Lib.hid hxr
      obtain ⟨l2, hl2⟩ : ∃ l2, l'.tail = l2 := ⟨_, rfl⟩
      rw [hl2] at HXR HDS
      obtain ⟨ds, hds⟩ : ∃ ds, xs_ = ds := ⟨_, rfl⟩
      rw [hds] at HXR HDS
      have HSZ7 := Lib.hid (show lo < p ∧ p < w7.heap.size by have := HXR.out.fld.p2; have := HP.out; omega)
      clear ha hr7 hlt hg7 HT HX HQ hxr hl2 hds
      go_wp2_with fail
      go_loopg [16] (l2.length) (fun g v16 wr => ∃ (f : Nat) (xs_ : List Ru) (l' : List Tok), g = l'.length ∧ l'.length < f ∧ rulesF N N [] l2 = rulesF N f xs_ l' ∧ xs_.length + l'.length ≤ l2.length ∧ TxR n lo w7.heap.size b p (.slice aoD cnD ccD) ds Sd w wr xs_ l')
      case atStart => exact ⟨N, [], l2, rfl, by have := HH.out.2.2.1; have := HDS.out.2; omega, rfl, by simp, HXR.out⟩
      case round =>
        obtain ⟨f, xs_, l', hg, hf, hnf, hlen, hst⟩ := hrel
        obtain ⟨ta, ra, hla⟩ := hst.rd.ends.cons
        subst hla
        have HX := Lib.hid hst
        have HQ := Lib.hid (And.intro hg (And.intro hf (And.intro hnf hlen)))
        clear hg hf hnf hlen hst
        have HAT : Hid (∀ ww, ww = wr.alloc (.cells #[.string (mkS [])] 9) → Calls Tryz.prog 36 #[.pointer (some ⟨b, 0, none⟩), .slice (some ⟨wr.heap.size, 0, none⟩) 1 1] ww fun e w' => e = .returned (.bool (atT ta [[]])) ∧ Below wr.heap.size wr w') := by
          rintro ww rfl
          have hb : Below wr.heap.size wr (wr.alloc (.cells #[.string (mkS [])] 9)) := (Below.refl _ _).alloc (Nat.le_refl _) _
          refine (at_any [[]] wr.heap.size 1 _ (HX.out.rd.under hb) (TxtAt.new wr 9 [[]] wr.heap.size rfl) rfl (by omega)).mono ?_
          rintro e w' ⟨h1, h2⟩
          exact ⟨h1, hb.trans (h2.mono (by simp))⟩
        go_wp2_with fail
        refine (HAT.out _ rfl).mono ?_
        rintro e w9 ⟨rfl, hb9⟩
        have HX := Lib.hid (HX.out.turn (HX.out.rd.under hb9) (grown_below hb9 _))
        clear hb9 HAT
        cases ha : atT ta [[]]
        · have HA : Hid (atB [[]] (ta :: ra) = false) := ha
          clear ha
          obtain ⟨v, kk, xs, hv, hkk, ho, hoo, hge, S', ha', hnd, hS⟩ := HX.out.fld.open_
          obtain ⟨ao, cc, rfl⟩ := own_form ho
          have c1 : w9.cell? ⟨p, 1, none⟩ = some (.slice ao kk cc) := by rw [cell_of_row w9 p 1 _ _ _ hv]; rfl
          have z1 : w9.frozen? ⟨p, 1, none⟩ = false := by simp [World.frozen?, hv]
          have hplt : p < w9.heap.size := World.block_lt_of_cell? _ _ c1
          have HKK := Lib.hid (show xs_.length = kk by have := hkk; rw [rulesC_length] at this; omega)
          have HF := Lib.hid (And.intro hv (And.intro hkk (And.intro ho (And.intro hoo (And.intro hge (And.intro ha' (And.intro hnd hS)))))))
          have HBP := Lib.hid (show b < p by have := HX.out.fld.b0; have := HX.out.fld.p1; omega)
          clear hv hkk ho hoo hge ha' hnd hS

          have HCALL := Lib.hid (rule_any N w9.drew (ta :: ra) (HX.out.rd.under (Below.refl _ _).drew) (by have := HQ.out.2.2.2; have := HDS.out.2; have := HH.out.2.2.1; omega))
          have HSM := Lib.hid (show l2.length ≤ 70000 by have := HDS.out.2; have := HSM.out; omega)
          go_wp2_with fail
          go_region_law (first
            | (go_simp
               go_at_call 37
               refine HCALL.out.mono ?_
               rintro e w8 (⟨x1, l8, S1, ys, hn8, rfl, hr8, hl8, hat8, hnd8, hge8, hg8⟩ | ⟨cc', qq, hn8, rfl, hg8⟩)
               case inr =>
                 obtain ⟨hg, hf, hnf, hlen⟩ := HQ.out
                 obtain ⟨f', rfl⟩ : ∃ k, f = k + 1 := ⟨f - 1, by omega⟩
                 refine ⟨?_, .inr ⟨cc', qq, textF_2 HDS.out.1 (hnf.trans (rulesF_err HA.out hn8)), rfl, grown_trans HX.out.gr (grown_trans (grown_under (Below.refl _ _).drew b) hg8)⟩⟩
                 first | rfl | (simp [go_sem]; done) | (unfold Act.put; simp)
               obtain ⟨ao1, n1, c1', ao2, n2, c2', hys⟩ := ruleAt hat8
               subst hys
               have hgw : w9.grownBy w8 (some b) := grown_trans (grown_under (Below.refl _ _).drew b) hg8
               have HOA : Hid (∀ o, (w8.alloc o).ownsRow 0 44 4 (.slice ao kk cc) kk xs) := fun o => HF.out.2.2.2.1 _ (grown_then hgw ((Below.refl _ _).alloc hgw.size o))
               have HGA : Hid (∀ o, w9.grownBy (w8.alloc o) (some b)) := fun o => grown_then hgw ((Below.refl _ _).alloc hgw.size o)
               have d1 : w8.cell? ⟨p, 1, none⟩ = some (.slice ao kk cc) := (World.cell?_of_block (a := ⟨p, 1, none⟩) (hgw.block p hplt (by intro hh; injection hh with hh; have := HBP.out; omega))).trans c1
               have hp1 : p < w8.heap.size := by have := hgw.size; omega
               have hge9 : ∀ s ∈ S1, w9.heap.size ≤ s := hge8
               have H1 := Lib.hid (And.intro hn8 (And.intro hr8 (And.intro hl8 (And.intro hgw (And.intro hat8 (And.intro hnd8 hge9))))))
               clear hn8 hr8 hl8 hg8 hgw hat8 hnd8 hge8 hge9)
            | (refine step_append_r rfl (.tmp 23) (.tmp 26) 23 rfl 44 i1 _ 4 72 Tryz.underlying23 HIi1.out HZi1.out.1 HZi1.out.2.1 HZi1.out.2.2 rfl (by decide) (.slice ao kk cc) kk xs rfl (HOA.out _) ⟨w8.heap.size, 0, none⟩ 1 1 rfl [.string (mkS x1.name), .slice ao1 n1 c1', .slice ao2 n2 c2', .int .i64 (x1.at_ : Int)] rfl (new_cells w8 [.string (mkS x1.name), .slice ao1 n1 c1', .slice ao2 n2 c2', .int .i64 (x1.at_ : Int)] 44) (by simp [Value.oneCell']) (by have := HKK.out; have := HQ.out.2.2.2; have := HSM.out; unfold maxLen; omega) (by have := HKK.out; have := HQ.out.2.2.2; have := HSM.out; omega) ?_
               intro v2 W2' ho2 hg2 hnew2
               obtain ⟨g2, c2, hv2⟩ := own_pos ho2 (by omega)
               subst hv2
               have hp2 := fldO_at HX.out.fld HF.out.1 HF.out.2.2.2.2.1 (HGA.out _) hg2
               have y1 : W2'.cell? ⟨p, 1, none⟩ = some (.slice ao kk cc) := by rw [cell_of_row W2' p 1 _ _ _ hp2]; rfl
               have y2 : W2'.frozen? ⟨p, 1, none⟩ = false := by simp [World.frozen?, hp2]
               have H2 := Lib.hid (And.intro ho2 (And.intro hg2 hnew2))
               clear ho2 hg2 hnew2 hp2))

          all_goals
            go_wp2_with fail
            obtain ⟨hg, hf, hnf, hlen⟩ := HQ.out
            obtain ⟨f', rfl⟩ : ∃ k, f = k + 1 := ⟨f - 1, by omega⟩
            obtain ⟨hn8, hr8, hl8, hgw, hat8, hnd8, hge8⟩ := H1.out
            have hlo := HLO.out
            have hpn := HPN.out
            have hp := HP.out
            have hsz7 := HSZ7.out
            have hmore := HX.out.fld.more (idx := 1) hpn HF.out hr8 hgw hat8 rfl hnd8 hge8 ((Below.refl _ _).alloc (Nat.le_refl _) _) H2.out.1 H2.out.2.1 H2.out.2.2 rfl
            go_roundg (l8.length)
            case rel => exact ⟨f', xs_ ++ [x1], l8, rfl, by omega, hnf.trans (rulesF_more HA.out hn8), by simp; omega, ⟨hmore.1, by rw [List.flatMap_append]; simpa using hmore.2.1, nx_grown HX.out.gr hmore.2.2 (by omega) (by omega), HX.out.at_.same _ _ _ (fun g hg => hmore.2.2.block g (HX.out.ge g hg).2 (by have := HX.out.ge g hg; have := HX.out.bp; omega) (by have := HX.out.ge g hg; omega)), HX.out.nd, HX.out.ge, HX.out.bp⟩⟩
            case measure => omega
        · have HRR : Hid (textF N l = some (.ok (⟨ds, xs_⟩, ta :: ra))) := by
            obtain ⟨hg, hf, hnf, hlen⟩ := HQ.out
            obtain ⟨f', rfl⟩ : ∃ k, f = k + 1 := ⟨f - 1, by omega⟩
            exact textF_3 HDS.out.1 (hnf.trans (rulesF_stop ha))
          have HLEN := Lib.hid (show (ta :: ra).length < l.length by have := HQ.out.2.2.2; have := HDS.out.2; omega)
          obtain ⟨v, S, hv, hat, hnd, hge⟩ := HX.out.fld.row
          obtain ⟨ao, cn, cc, rfl⟩ := hat.slice
          obtain ⟨⟨g0, g1⟩, _⟩ := two_facts hv
          obtain ⟨⟨q0, q1⟩, u0, u1⟩ := two_facts HX.out.fld.ptr
          have HA := Lib.hid (And.intro hat (And.intro hnd hge))
          clear hv hat hnd hge ha
          go_wp2_with fail
          refine bodyPost_ret (v := .agg #[.slice aoD cnD ccD, .slice ao cn cc]) (by simp [results, Tryz.results20, go_sem, q0, q1]) rfl ?_
          exact text_end HX.out HA.out.1 HA.out.2.1 HA.out.2.2 HLO.out HPN.out HSZ7.out.1 HRR.out HLEN.out
end Go.Proofs.YtngimijiafnheaaGreat
