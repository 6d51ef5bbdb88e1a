/- The closure that reads a param. -/
import Derived.Test.YtngimijiafnheaaGreatRdG
set_option maxRecDepth 100000
set_option linter.unusedSimpArgs false
namespace Go.Proofs.YtngimijiafnheaaGreat
open Go.Instr Go.RowKit LexT
set_option linter.unusedVariables false
variable {n b : Nat} {t : Tok} {r l : List Tok}
theorem Tryz.infoStr : (Tryz.prog.info? 9).map (fun i => (i.zero, i.size, i.bytes)) = some (some (.string ⟨#[]⟩), 1, 16) := by kernel_rfl
def ParamJ (lo lo2 b p q : Nat) (x0 x2 x3 : Value) (w : World) (ps : List Bs) (m : Nat) : Prop :=
  FldJ lo lo2 b p q 44 88 9 1 (fun v => #[x0, v, x2, x3]) w (ps.map strC) ∧ ps.length + m ≤ 70000
set_option maxHeartbeats 4000000 in
theorem param_any {lo lo2 p q : Nat} (x0 x2 x3 : Value) (w : World) (ps : List Bs) (l : List Tok) (h : Rd n w b l) (hn : n ≤ lo) (hj : ParamJ lo lo2 b p q x0 x2 x3 w ps l.length) :
    Calls Tryz.prog 65 #[.pointer (some ⟨p, 0, none⟩), .pointer (some ⟨q, 0, none⟩)] w (OneP n b lo2 p (ParamJ lo lo2 b p q x0 x2 x3) l.length (paramF ps l) w) := by
  obtain ⟨hj, hlen⟩ := hj
  obtain ⟨v, k, xs, hv, hk, ho, hoo, hge, S', ha, hnd, hS⟩ := hj.open_
  obtain ⟨i0, hi, hz0, hz1, hz2⟩ := info_parts Tryz.infoStr
  have HI := Lib.hid hi
  have HZ := Lib.hid (And.intro hz0 (And.intro hz1 hz2))
  have HNAME := Lib.hid (name_any w.drew (h.under (Below.refl _ _).drew))
  have HPQ := Lib.hid (And.intro (show w.heap.size ≥ lo2 from hj.le) (And.intro hj.p1 (And.intro hj.p2 (And.intro hj.q1 (And.intro hj.q2 hj.b0)))))
  have HJ := Lib.hid hj
  have hplt : p < w.heap.size := by have := hj.p2; have := hj.le; omega
  have hqlt : q < w.heap.size := by have := hj.q2; have := hj.le; omega
  have hk1 : ps.length = k := by simpa using hk
  have HF := Lib.hid (And.intro hv (And.intro hk (And.intro ho (And.intro hoo (And.intro hge (And.intro ha (And.intro hnd hS)))))))
  have c1 : w.cell? ⟨p, 1, none⟩ = some v := by rw [cell_of_row w p 1 _ _ _ hv]; rfl
  have z1 : w.frozen? ⟨p, 1, none⟩ = false := by simp [World.frozen?, hv]
  have cq : w.cell? ⟨q, 0, none⟩ = some (.pointer (some ⟨b, 0, none⟩)) := by rw [cell_of_row w q 0 _ _ _ hj.ptr]; rfl
  have HK := Lib.hid hk1
  have HLEN := Lib.hid hlen
  clear hi hz0 hz1 hz2 hj hv hk ho hoo hge ha hnd hS hk1 hlen
  have HH := Lib.hid h
  clear h
  have f1 := tokF1
  go_enter Tryz.func65, Tryz.ntmps65
  go_wp2_with fail
  go_region_law (first
    | (go_simp
       go_at_call 61
       refine HNAME.out.mono ?_
       rintro e w1 (⟨t1, l1, hn1, rfl, hr1, hl1, hg1⟩ | ⟨cc, qq, hn1, rfl, hg1⟩)
       case inr =>
         refine ⟨?_, .inr ⟨cc, qq, by unfold paramF; simp [bnd, hn1], rfl, Nx.of_grown (grown_trans (grown_under (Below.refl _ _).drew b) hg1) (by have := HPQ.out; omega)⟩⟩
         first | rfl | (simp [go_sem]; done) | (unfold Act.put; simp)
       obtain ⟨d1, d2, d3⟩ : w1.cell? ⟨p, 1, none⟩ = some v ∧ w1.frozen? ⟨p, 1, none⟩ = false ∧ w1.cell? ⟨q, 0, none⟩ = some (.pointer (some ⟨b, 0, none⟩)) := by
         have hpb : w1.heap[p]? = w.heap[p]? := hg1.block p hplt (by intro hh; injection hh with hh; have := HPQ.out; omega)
         have hqb : w1.heap[q]? = w.heap[q]? := hg1.block q hqlt (by intro hh; injection hh with hh; have := HPQ.out; omega)
         exact ⟨(World.cell?_of_block (a := ⟨p, 1, none⟩) hpb).trans c1, (World.frozen?_of_block (a := ⟨p, 1, none⟩) hpb).trans z1, (World.cell?_of_block (a := ⟨q, 0, none⟩) hqb).trans cq⟩
       have hgw : w.grownBy w1 (some b) := grown_trans (grown_under (Below.refl _ _).drew b) hg1
       have HOA : Hid (∀ o, (w1.alloc o).ownsRow 0 9 1 v k xs) := fun o => HF.out.2.2.2.1 _ (grown_then hgw ((Below.refl _ _).alloc hgw.size o))
       have hp1 : p < w1.heap.size := by have := hgw.size; omega
       have HGA : Hid (∀ o, w.grownBy (w1.alloc o) (some b)) := fun o => grown_then hgw ((Below.refl _ _).alloc hgw.size o)
       have H1 := Lib.hid (And.intro hn1 (And.intro hr1 (And.intro hl1 hgw)))
       clear hn1 hr1 hl1 hg1 hgw
       unfold tokV)
    | (refine step_append_r rfl (.tmp 3) (.tmp 9) 39 rfl 9 i0 _ 1 16 Tryz.underlying39 HI.out HZ.out.1 HZ.out.2.1 HZ.out.2.2 rfl (by decide) v k xs rfl (HOA.out _) ⟨w1.heap.size, 0, none⟩ 1 1 rfl [.string (mkS t1.text)] rfl (new_cells w1 [.string (mkS t1.text)] 9) (by simp [Value.oneCell']) (by have := HK.out; have := HLEN.out; unfold maxLen; omega) (by have := HK.out; have := HLEN.out; omega) ?_
       intro v2 W2 ho2 hg2 hnew2
       obtain ⟨g2, c2, hv2⟩ := own_pos ho2 (by omega)
       subst hv2
       have hp2 := fld_at HJ.out HF.out.1 HF.out.2.2.2.2.1 (HGA.out _) hg2
       have y1 : W2.cell? ⟨p, 1, none⟩ = some v := by rw [cell_of_row W2 p 1 _ _ _ hp2]; rfl
       have y2 : W2.frozen? ⟨p, 1, none⟩ = false := by simp [World.frozen?, hp2]
       clear hp2
       have H2 := Lib.hid (And.intro ho2 (And.intro hg2 hnew2))
       clear ho2 hg2 hnew2))
  all_goals
    go_end0
    obtain ⟨hn1, hr1, hl1, hgw⟩ := H1.out
    obtain ⟨ho2, hg2, hnew2⟩ := H2.out
    obtain ⟨hv, hk, ho, hoo, hge, ha, hnd, hS⟩ := HF.out
    obtain ⟨hpq1, hpq2, hpq3, hpq4, hpq5, hpq6⟩ := HPQ.out
    have hput := HJ.out.put (idx := 1) (m := 1) hv hk ho hge ha hnd hS (HGA.out _) (strs_at _ [t1.text]) rfl List.nodup_nil (by simp) ho2 hg2 hnew2 rfl
    refine .inl ⟨ps ++ [t1.text], l1, by unfold paramF; simp [bnd, hn1], rfl, rd_put _ hr1 ((Below.refl _ _).alloc (Nat.le_refl _) _) hg2 hge (by omega) (by omega), by omega, ⟨?_, ?_⟩, hput.2⟩
    · rw [List.map_append]; exact hput.1
    · have := HLEN.out; simp; omega
end Go.Proofs.YtngimijiafnheaaGreat
