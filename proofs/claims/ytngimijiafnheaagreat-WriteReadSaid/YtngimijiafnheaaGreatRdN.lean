/- some, where one may read nothing; alternatives. -/
import Derived.Test.YtngimijiafnheaaGreatRdM
import Derived.Deep.LoopGhost
set_option maxRecDepth 100000
set_option linter.unusedSimpArgs false
namespace Go.Proofs.YtngimijiafnheaaGreat
open Go.Instr Go.RowKit LexT
set_option linter.unusedVariables false
variable {n b : Nat} {t : Tok} {r l : List Tok}
set_option maxHeartbeats 2000000 in
theorem some2_any {β : Type} (F : FuncId) (caps : Array Value) (one : β → List Tok → Pa β) (sep : Bs) (I J : World → β → Nat → Prop) (lo p N : Nat) (hsep : sep ≠ []) (eg : ∀ args w, (callFunc F args).run Tryz.prog w = .ok (.enter F args) w)
    (hJ : ∀ w w' x m, J w x m → lo ≤ w.heap.size → w.grownBy w' (some b) → J w' x m) (hI : ∀ w w' x m m', J w x m → m' < m → lo ≤ w.heap.size → w.grownBy w' (some b) → I w' x m')
    (hone : ∀ w x l, Rd n w b l → l.length < N → I w x l.length → lo ≤ w.heap.size → Calls Tryz.prog F caps w (OneP n b lo p J (l.length + 1) (one x l) w))
    (f : Nat) (w : World) (x : β) (l : List Tok) (h : Rd n w b l) (hj : I w x l.length) (hlo : lo ≤ w.heap.size) (hN : l.length < N) (hf : l.length < f) :
    Calls Tryz.prog 66 #[.pointer (some ⟨b, 0, none⟩), .string (mkS sep), .func (.func F) #[] caps] w (OneP n b lo p J (l.length + 1) (someF one sep f x l) w) := by
  obtain ⟨f, rfl⟩ : ∃ k, f = k + 1 := ⟨f - 1, by have := h.ends.pos; omega⟩
  have H1 := Lib.hid (hone w x l h hN hj hlo)
  have HONE := Lib.hid hone
  have HJ := Lib.hid hJ
  have HI := Lib.hid hI
  have HS := Lib.hid hsep
  have HLO := Lib.hid hlo
  have HF := Lib.hid hf
  have HN := Lib.hid hN
  clear hone hJ hI hsep hlo hf h hj hN
  go_enter Tryz.func66, Tryz.ntmps66
  go_wp2_with fail
  try simp only [Array.append_empty, Array.empty_append]
  refine H1.out.mono ?_
  rintro e w1 (⟨x1, l1, ho, rfl, hr1, hl1, hj1, hb1⟩ | ⟨c, q, ho, rfl, hb1⟩)
  · have HR : Hid (Rst one sep (someF one sep (f + 1) x l) f x1 l1) := by
      show _ = _
      simp [someF, ho, bnd]
    obtain ⟨R, hR⟩ : ∃ R, someF one sep (f + 1) x l = R := ⟨_, rfl⟩
    rw [hR] at HR
    have HRR := Lib.hid hR
    have H0 := Lib.hid (And.intro hr1 (And.intro hl1 (And.intro hj1 hb1)))
    clear ho hR hr1 hl1 hj1 hb1
    go_wp2_with fail
    go_loopg [8] (l1.length) (fun g v8 wr => ∃ (f' : Nat) (x' : β) (l' : List Tok), g = l'.length ∧ Rst one sep R f' x' l' ∧ l'.length ≤ f' ∧ Rd n wr b l' ∧ l'.length < l.length + 1 ∧ J wr x' l'.length ∧ Nx lo b p w wr)
    case atStart => exact ⟨f, x1, l1, rfl, HR.out, by have := HF.out; have := H0.out.2.1; omega, H0.out⟩
    case round =>
      obtain ⟨f', x', l', hg, hrest, hf', hr', hl', hj', hb'⟩ := hrel
      have HT := Lib.hid (takes_any sep HS.out wr hr')
      have HQ := Lib.hid (And.intro hg (And.intro hrest (And.intro hf' (And.intro hl' (And.intro hj' hb')))))
      clear hg hrest hf' hr' hl' hj' hb'
      go_wp2_with fail
      refine HT.out.mono ?_
      rintro e w2 (⟨ha, rfl, hr2, hg2⟩ | ⟨ha, rfl, hr2, hlt, hg2⟩)
      · have HE : Hid (OneP n b lo p J (l.length + 1) R w (.returned (.tuple #[])) w2) := by
          obtain ⟨_, hrest, _, hl', hj', hb'⟩ := HQ.out
          have hs : lo ≤ wr.heap.size := by have := hb'.size; have := HLO.out; omega
          exact .inl ⟨x', l', hrest.stop ha, rfl, hr2, hl', HJ.out _ _ _ _ hj' hs hg2, hb'.trans (Nx.of_grown hg2 hs)⟩
        clear ha hr2 hg2
        go_wp2_with fail
        go_end0
        rw [HRR.out]
        exact HE.out
      · obtain ⟨hg, hrest, hf', hl', hj', hb'⟩ := HQ.out
        have hs : lo ≤ wr.heap.size := by have := hb'.size; have := HLO.out; omega
        have hs2 : lo ≤ w2.heap.size := by have := hg2.size; omega
        have HC := Lib.hid (HONE.out w2 x' l'.tail hr2 (by have := HN.out; omega) (HI.out _ _ _ _ _ hj' (by omega) hs hg2) hs2)
        have HB2 : Hid (Nx lo b p w w2) := hb'.trans (Nx.of_grown hg2 hs)
        have HA := Lib.hid (And.intro ha hlt)
        clear hg hrest hf' hl' hj' hb' ha hlt hg2 hr2 hs hs2
        go_wp2_with fail
        try simp only [Array.append_empty, Array.empty_append]
        refine HC.out.mono ?_
        rintro e w3 (⟨x3, l3, ho, rfl, hr3, hl3, hj3, hb3⟩ | ⟨c, q, ho, rfl, hb3⟩)
        · have H3 := Lib.hid (And.intro ho (And.intro hr3 (And.intro hl3 (And.intro hj3 hb3))))
          clear ho hr3 hl3 hj3 hb3
          go_wp2_with fail
          obtain ⟨ho, hr3, hl3, hj3, hb3⟩ := H3.out
          obtain ⟨hg, hrest, hf', hl', hj', hb'⟩ := HQ.out
          obtain ⟨ha, hlt⟩ := HA.out
          obtain ⟨f'', rfl⟩ : ∃ k, f' = k + 1 := ⟨f' - 1, by omega⟩
          go_roundg (l3.length)
          case rel => exact ⟨f'', x3, l3, rfl, hrest.more ha ho, by omega, hr3, by omega, hj3, HB2.out.trans hb3⟩
          case measure => omega
        · obtain ⟨hg, hrest, hf', hl', hj', hb'⟩ := HQ.out
          obtain ⟨ha, hlt⟩ := HA.out
          obtain ⟨f'', rfl⟩ : ∃ k, f' = k + 1 := ⟨f' - 1, by omega⟩
          exact ⟨rfl, .inr ⟨c, q, HRR.out.trans (hrest.err ha ho), rfl, HB2.out.trans hb3⟩⟩
  · exact ⟨rfl, .inr ⟨c, q, by simp [someF, ho, bnd], rfl, hb1⟩⟩
theorem altC_length (a : Al) : (altC a).length = 6 := rfl
theorem altsC_length : ∀ az : List Al, (az.flatMap altC).length = az.length * 6
  | [] => rfl
  | a :: az => by rw [List.flatMap_cons, List.length_append, altsC_length az, altC_length, List.length_cons]; omega
def AltsJ (bd lo lo2 b p q : Nat) (x0 x1 x3 : Value) (w : World) (az : List Al) (m : Nat) : Prop :=
  FldJ lo lo2 b p q 44 88 47 6 (fun v => #[x0, x1, v, x3]) w (az.flatMap altC) ∧ az.length + m ≤ bd
set_option maxHeartbeats 4000000 in
theorem alts_any {N lo lo2 p q : Nat} (x0 x1 x3 : Value) (w : World) (az : List Al) (l : List Tok) (h : Rd n w b l) (hN : l.length < N) (hn : n ≤ lo) (hj : AltsJ 70000 lo lo2 b p q x0 x1 x3 w az l.length) :
    Calls Tryz.prog 67 #[.pointer (some ⟨p, 0, none⟩), .pointer (some ⟨q, 0, none⟩)] w (OneP n b lo2 p (AltsJ 70001 lo lo2 b p q x0 x1 x3) (l.length + 1) (altsF N az l) w) := by
  obtain ⟨hj, hlen⟩ := hj
  obtain ⟨v, k, xs, hv, hk, ho, hoo, hge, S', ha, hnd, hS⟩ := hj.open_
  obtain ⟨ao, cc, rfl⟩ := own_form ho
  obtain ⟨i0, hi, hz0, hz1, hz2⟩ := info_parts Tryz.infoAlt
  have HI := Lib.hid hi
  have HZ := Lib.hid (And.intro hz0 (And.intro hz1 hz2))
  have HALT := Lib.hid (alt_any N w.drew l (h.under (Below.refl _ _).drew) hN)
  have HJ := Lib.hid hj
  have HPQ := Lib.hid (And.intro (show w.heap.size ≥ lo2 from hj.le) (And.intro hj.p1 (And.intro hj.p2 (And.intro hj.q1 (And.intro hj.q2 hj.b0)))))
  have hplt : p < w.heap.size := by have := hj.p2; have := hj.le; omega
  have hqlt : q < w.heap.size := by have := hj.q2; have := hj.le; omega
  have hk1 : az.length = k := by have := hk; rw [altsC_length] at this; omega
  have HF := Lib.hid (And.intro hv (And.intro hk (And.intro ho (And.intro hoo (And.intro hge (And.intro ha (And.intro hnd hS)))))))
  have c1 : w.cell? ⟨p, 2, none⟩ = some (.slice ao k cc) := by rw [cell_of_row w p 2 _ _ _ hv]; rfl
  have z1 : w.frozen? ⟨p, 2, none⟩ = false := by simp [World.frozen?, hv]
  have cq : w.cell? ⟨q, 0, none⟩ = some (.pointer (some ⟨b, 0, none⟩)) := by rw [cell_of_row w q 0 _ _ _ hj.ptr]; rfl
  have HK := Lib.hid hk1
  have HLEN := Lib.hid hlen
  have HNN := Lib.hid hn
  clear hi hz0 hz1 hz2 hj hv hk ho hoo hge ha hnd hS hk1 hlen h hN hn
  go_enter Tryz.func67, Tryz.ntmps67
  go_wp2_with fail
  go_region_law (first
    | (go_simp
       go_at_call 68
       refine HALT.out.mono ?_
       rintro e w1 (⟨x1', l1, S1, ys, hn1, rfl, hr1, hl1, hat1, hnd1, hge1, hg1⟩ | ⟨c', q', hn1, rfl, hg1⟩)
       case inr =>
         refine ⟨?_, .inr ⟨c', q', by unfold altsF; simp [bnd, hn1], rfl, Nx.of_grown (grown_trans (grown_under (Below.refl _ _).drew b) hg1) (by have := HPQ.out; omega)⟩⟩
         first | rfl | (simp [go_sem]; done) | (unfold Act.put; simp)
       obtain ⟨ao1, n1, c1', hys⟩ := altAt hat1
       subst hys
       have hgw : w.grownBy w1 (some b) := grown_trans (grown_under (Below.refl _ _).drew b) hg1
       have HOA : Hid (∀ ww, Below w1.heap.size w1 ww → ww.ownsRow 0 47 6 (.slice ao k cc) k xs) := fun ww hb => HF.out.2.2.2.1 _ (grown_then hgw (hb.mono hgw.size))
       have HGA : Hid (∀ ww, Below w1.heap.size w1 ww → w.grownBy ww (some b)) := fun ww hb => grown_then hgw (hb.mono hgw.size)
       have d1 : w1.cell? ⟨p, 2, none⟩ = some (.slice ao k cc) := (World.cell?_of_block (a := ⟨p, 2, none⟩) (hgw.block p hplt (by intro hh; injection hh with hh; have := HPQ.out; omega))).trans c1
       have d3 : w1.cell? ⟨q, 0, none⟩ = some (.pointer (some ⟨b, 0, none⟩)) := (World.cell?_of_block (a := ⟨q, 0, none⟩) (hgw.block q hqlt (by intro hh; injection hh with hh; have := HPQ.out; omega))).trans cq
       have hp1 : p < w1.heap.size := by have := hgw.size; omega
       have H1 := Lib.hid (And.intro hn1 (And.intro hr1 (And.intro hl1 (And.intro hgw (And.intro hat1 (And.intro hnd1 hge1))))))
       clear hn1 hr1 hl1 hg1 hgw hat1 hnd1 hge1)
    | (refine step_append_r rfl (.tmp 3) (.tmp 6) 42 rfl 47 i0 _ 6 80 Tryz.underlying42 HI.out HZ.out.1 HZ.out.2.1 HZ.out.2.2 rfl (by decide) (.slice ao k cc) k xs rfl (HOA.out _ ((Below.refl _ _).alloc (Nat.le_refl _) _)) ⟨w1.heap.size, 0, none⟩ 1 1 rfl [.slice ao1 n1 c1', .string (mkS x1'.prec), .bool x1'.has, .string (mkS x1'.action), .int .i64 (IntKind.i64.wrap (x1'.where_ : Int)), .int .i64 (x1'.at_ : Int)] rfl (new_cells w1 [.slice ao1 n1 c1', .string (mkS x1'.prec), .bool x1'.has, .string (mkS x1'.action), .int .i64 (IntKind.i64.wrap (x1'.where_ : Int)), .int .i64 (x1'.at_ : Int)] 47) (by simp [Value.oneCell']) (by have := HK.out; have := HLEN.out; unfold maxLen; omega) (by have := HK.out; have := HLEN.out; omega) ?_
       intro v2 W2 ho2 hg2 hnew2
       obtain ⟨g2, c2, hv2⟩ := own_pos ho2 (by omega)
       subst hv2
       have hp2 := fld_at HJ.out HF.out.1 HF.out.2.2.2.2.1 (HGA.out _ ((Below.refl _ _).alloc (Nat.le_refl _) _)) hg2
       have y1 : W2.cell? ⟨p, 2, none⟩ = some (.slice ao k cc) := by rw [cell_of_row W2 p 2 _ _ _ hp2]; rfl
       have y2 : W2.frozen? ⟨p, 2, none⟩ = false := by simp [World.frozen?, hp2]
       clear hp2
       have H2 := Lib.hid (And.intro ho2 (And.intro hg2 hnew2))
       clear ho2 hg2 hnew2))
  all_goals
    go_end0
    obtain ⟨hn1, hr1, hl1, hgw, hat1, hnd1, hge1⟩ := H1.out
    obtain ⟨ho2, hg2, hnew2⟩ := H2.out
    obtain ⟨hv, hk, ho, hoo, hge, ha, hnd, hS⟩ := HF.out
    obtain ⟨hpq1, hpq2, hpq3, hpq4, hpq5, hpq6⟩ := HPQ.out
    have hnn := HNN.out
    have hWB : Below w1.heap.size w1 (w1.alloc (.cells #[.slice ao1 n1 c1', .string (mkS x1'.prec), .bool x1'.has, .string (mkS x1'.action), .int .i64 (IntKind.i64.wrap (x1'.where_ : Int)), .int .i64 (x1'.at_ : Int)] 47)) := (Below.refl _ _).alloc (Nat.le_refl _) _
    have hd := AtL.same (w' := (w1.alloc (.cells #[.slice ao1 n1 c1', .string (mkS x1'.prec), .bool x1'.has, .string (mkS x1'.action), .int .i64 (IntKind.i64.wrap (x1'.where_ : Int)), .int .i64 (x1'.at_ : Int)] 47))) _ _ _ hat1 (fun g hg => hWB.block g (AtL.lt _ _ _ hat1 g hg))
    have hput := HJ.out.put (idx := 2) (m := 1) hv hk ho hge ha hnd hS (HGA.out _ hWB) hd rfl hnd1 hge1 ho2 hg2 hnew2 rfl
    refine .inl ⟨az ++ [x1'], l1, by unfold altsF; simp [bnd, hn1], rfl, rd_put _ hr1 hWB hg2 hge (by omega) (by omega), by omega, ⟨?_, ?_⟩, hput.2⟩
    · rw [List.flatMap_append]; simpa using hput.1
    · have := HLEN.out; simp; omega
end Go.Proofs.YtngimijiafnheaaGreat
