/- The closure that reads a word given to a word. -/
import Derived.Test.YtngimijiafnheaaGreatRdIa
set_option maxRecDepth 100000
set_option linter.unusedSimpArgs false
namespace Go.Proofs.YtngimijiafnheaaGreat
open Go.Instr Go.RowKit LexT
set_option linter.unusedVariables false
variable {n b : Nat} {t : Tok} {r l : List Tok}
theorem Tryz.infoWord : (Tryz.prog.info? 50).map (fun i => (i.zero, i.size, i.bytes)) = some (some (.agg #[.string ⟨#[]⟩, .slice none 0 0, .int .i64 0]), 3, 48) := by kernel_rfl
/-- What a call does that reads a struct. -/
def StrP {α : Type} (n b : Nat) (cells : α → List Cell) (R : Pa α) (m : Nat) (w : World) (e : Ending) (w' : World) : Prop :=
  (∃ x l' S xs, R = some (.ok (x, l')) ∧ e = .returned (.agg xs.toArray) ∧ Rd n w' b l' ∧ l'.length < m ∧ AtL w' (cells x) S xs ∧ S.Nodup ∧ (∀ s ∈ S, w.heap.size ≤ s) ∧ w.grownBy w' (some b)) ∨
  (∃ c q : Nat, R = some (.error (c, q)) ∧ e = .panicked (faulty c q) ∧ w.grownBy w' (some b))
/-- A word as it is read: its box, the reader's, the box of how many are around. -/
def WordJ (lo lo2 b p q q2 : Nat) (x0 x2 : Value) (k : Nat) (w : World) (ws : List Wd) (m : Nat) : Prop :=
  FldJ lo lo2 b p q 50 88 50 3 (fun v => #[x0, v, x2]) w (wdsC 50 ws) ∧ w.heap[q2]? = some (.cells #[.int .i64 (k : Int)] 3 (0, 0)) ∧ lo ≤ q2 ∧ q2 < lo2 ∧ q2 ≠ p ∧ ws.length + m ≤ 70000
theorem cells_row {w : World} {g : Nat} {l : List Value} {T : TypeId} (h : w.heap[g]? = some (.cells l.toArray T (0, 0))) : ∀ j u, l[j]? = some u → w.cell? ((⟨g, 0, none⟩ : Addr).add j) = some u := by
  intro j u hu
  have hadd : (⟨g, 0, none⟩ : Addr).add j = ⟨g, j, none⟩ := by unfold Addr.add; split <;> simp_all
  rw [hadd, cell_of_row w g j _ _ _ h]
  simpa using hu
/-- What is known behind the append of a word's place. -/
theorem after_app {lo lo2 b p q q2 kk c2 g2 k : Nat} {x0 x2 z0 z1 z2 v : Value} {w W1 W2 : World} {ws : List Wd} {xs : List Value} (hj : FldJ lo lo2 b p q 50 88 50 3 (fun v => #[x0, v, x2]) w (wdsC 50 ws))
    (hv : w.heap[p]? = some (.cells #[x0, v, x2] 50 (0, 0))) (hge : ∀ g, v.ownBlock = some g → lo2 ≤ g) (hg1 : w.grownBy W1 (some b)) (hxs : xs.length = kk * 3)
    (ho2 : W2.ownsRow 0 50 3 (.slice (some ⟨g2, 0, none⟩) (kk + 1) c2) (kk + 1) (xs ++ [z0, z1, z2])) (hg2 : W1.grownBy W2 v.ownBlock) (hnew : ∀ g, (Value.slice (some ⟨g2, 0, none⟩) (kk + 1) c2).ownBlock = some g → v.ownBlock = some g ∨ W1.heap.size ≤ g)
    (hq2 : w.heap[q2]? = some (.cells #[.int .i64 (k : Int)] 3 (0, 0))) (hq2a : lo ≤ q2) (hq2b : q2 < lo2) :
    (W2.cell? ⟨p, 1, none⟩ = some v ∧ W2.frozen? ⟨p, 1, none⟩ = false ∧ W2.cell? ⟨q, 0, none⟩ = some (.pointer (some ⟨b, 0, none⟩)) ∧ W2.cell? ⟨q2, 0, none⟩ = some (.int .i64 (k : Int))) ∧
    (W2.cell? ⟨g2, kk * 3, none⟩ = some z0 ∧ W2.cell? ⟨g2, kk * 3 + 1, none⟩ = some z1 ∧ W2.cell? ⟨g2, kk * 3 + 2, none⟩ = some z2) ∧ (W2.frozen? ⟨g2, kk * 3, none⟩ = false ∧ W2.frozen? ⟨g2, kk * 3 + 1, none⟩ = false ∧ W2.frozen? ⟨g2, kk * 3 + 2, none⟩ = false) ∧
    (¬ g2 = p ∧ ¬ p = g2 ∧ ¬ g2 = q ∧ ¬ g2 = q2) ∧ W2.heap[q2]? = w.heap[q2]? := by
  have hle := hj.le
  have hp2 := hj.p2
  have hq2' := hj.q2
  have hp1 := hj.p1
  have hq1 := hj.q1
  have hb0 := hj.b0
  have hs1 := hg1.size
  have hW := fld_at hj hv hge hg1 hg2
  obtain ⟨hm, hz⟩ := own_last_cells ho2 hxs
  have hg2lo : lo2 ≤ g2 := by
    rcases hnew g2 rfl with h9 | h9
    · exact hge _ h9
    · omega
  have hov : ∀ i, lo ≤ i → i < lo2 → W2.heap[i]? = w.heap[i]? := fun i hi hi2 => (hg2.block i (by omega) (by intro h3; have := hge _ h3.symm; omega)).trans (hg1.block i (by omega) (by intro h3; injection h3 with h3; omega))
  refine ⟨⟨?_, ?_, ?_, ?_⟩, hm, ⟨hz _, hz _, hz _⟩, ⟨by omega, by omega, by omega, by omega⟩, hov q2 hq2a hq2b⟩
  · rw [cell_of_row W2 p 1 _ _ _ hW]; rfl
  · simp [World.frozen?, hW]
  · rw [cell_of_row W2 q 0 _ _ _ ((hov q hq1 hq2').trans hj.ptr)]; rfl
  · rw [cell_of_row W2 q2 0 _ _ _ ((hov q2 hq2a hq2b).trans hq2)]; rfl
def oneWord (f k : Nat) (ws : List Wd) (l : List Tok) : Pa (List Wd) := bnd (wordF f (k + 1) l) fun x l' => some (.ok (ws ++ [x], l'))
theorem swap3 (W : World) (p o g i j m : Nat) (v a c d : Value) (h : ¬ p = g) : (((W.setCell ⟨p, o, none⟩ v).setCell ⟨g, i, none⟩ a).setCell ⟨g, j, none⟩ c).setCell ⟨g, m, none⟩ d = (((W.setCell ⟨g, i, none⟩ a).setCell ⟨g, j, none⟩ c).setCell ⟨g, m, none⟩ d).setCell ⟨p, o, none⟩ v := by
  rw [setCell_comm W ⟨p, o, none⟩ ⟨g, i, none⟩ v a h, setCell_comm _ ⟨p, o, none⟩ ⟨g, j, none⟩ v c h, setCell_comm _ ⟨p, o, none⟩ ⟨g, m, none⟩ v d h]
theorem word1_end {lo lo2 p q q2 f k kk c2 g2 : Nat} {x0 x2 z0 z1 z2 v a0 a1 a2 : Value} {w w1 W1 W2 Wf : World} {ws : List Wd} {x1 : Wd} {xs : List Value} {S' S1 : List Nat} {l l1 : List Tok}
    (hj : FldJ lo lo2 b p q 50 88 50 3 (fun v => #[x0, v, x2]) w (wdsC 50 ws)) (hn : n ≤ lo) (hlen : ws.length + l.length ≤ 70000)
    (hF : w.heap[p]? = some (.cells #[x0, v, x2] 50 (0, 0)) ∧ (wdsC 50 ws).length = kk * 3 ∧ w.ownsRow 0 50 3 v kk xs ∧ (∀ ww, w.grownBy ww (some b) → ww.ownsRow 0 50 3 v kk xs) ∧ (∀ g, v.ownBlock = some g → lo2 ≤ g) ∧ AtL w (wdsC 50 ws) S' xs ∧ (ownL v ++ S').Nodup ∧ ∀ s ∈ S', lo2 ≤ s)
    (h1 : wordF f (k + 1) l = some (.ok (x1, l1)) ∧ Rd n w1 b l1 ∧ l1.length < l.length ∧ w.grownBy w1 (some b) ∧ AtL w1 (wdC 50 x1) S1 [a0, a1, a2] ∧ S1.Nodup ∧ (∀ s ∈ S1, w.heap.size ≤ s))
    (h2 : W2.ownsRow 0 50 3 (.slice (some ⟨g2, 0, none⟩) (kk + 1) c2) (kk + 1) (xs ++ [z0, z1, z2]) ∧ W1.grownBy W2 v.ownBlock ∧ (∀ g, (Value.slice (some ⟨g2, 0, none⟩) (kk + 1) c2).ownBlock = some g → v.ownBlock = some g ∨ W1.heap.size ≤ g) ∧ Below w1.heap.size w1 W1 ∧ W2.heap[q2]? = w.heap[q2]?)
    (hq2 : w.heap[q2]? = some (.cells #[.int .i64 (k : Int)] 3 (0, 0)) ∧ lo ≤ q2 ∧ q2 < lo2 ∧ q2 ≠ p) (ngq2 : ¬ g2 = q2)
    (hW : Wf = (((W2.setCell ⟨g2, kk * 3, none⟩ a0).setCell ⟨g2, kk * 3 + 1, none⟩ a1).setCell ⟨g2, kk * 3 + 2, none⟩ a2).setCell ⟨p, 1, none⟩ (.slice (some ⟨g2, 0, none⟩) (kk + 1) c2)) :
    OneP n b lo2 p (WordJ lo lo2 b p q q2 x0 x2 k) l.length (oneWord f k ws l) w (.returned (.tuple #[])) Wf := by
  obtain ⟨hv, hk, ho, hoo, hge, ha, hnd, hS⟩ := hF
  obtain ⟨hn1, hr1, hl1, hgw, hat1, hnd1, hge1⟩ := h1
  obtain ⟨ho2, hg2, hnew2, hWB, hqq⟩ := h2
  obtain ⟨hq21, hq22, hq23, hq24⟩ := hq2
  have hp1 := hj.p1
  have hp2 := hj.p2
  have ho3 := own_last ho2 ho.1 a0 a1 a2
  have hg3 : W1.grownBy (((W2.setCell ⟨g2, kk * 3, none⟩ a0).setCell ⟨g2, kk * 3 + 1, none⟩ a1).setCell ⟨g2, kk * 3 + 2, none⟩ a2) v.ownBlock := by
    refine ⟨hg2.os, hg2.tape, hg2.output, by simpa [World.setCell] using hg2.size, fun i hi hne => ?_⟩
    have hig : i ≠ g2 := by
      intro hh
      subst hh
      rcases hnew2 i rfl with h9 | h9
      · exact hne h9.symm
      · omega
    rw [Below.heap_setCell _ _ _ _ hig, Below.heap_setCell _ _ _ _ hig, Below.heap_setCell _ _ _ _ hig]
    exact hg2.block i hi hne
  have hd := AtL.same (w' := W1) _ _ _ hat1 (fun g hg => hWB.block g (AtL.lt _ _ _ hat1 g hg))
  have hput := hj.put (idx := 1) (m := 1) hv hk ho hge ha hnd hS (grown_then hgw (hWB.mono hgw.size)) hd (by rw [wdC_length]) hnd1 hge1 ho3 hg3 hnew2 rfl
  subst hW
  refine .inl ⟨ws ++ [x1], l1, by unfold oneWord; simp [bnd, hn1], rfl, rd_put _ hr1 hWB hg3 hge (by omega) (by omega), hl1, ⟨?_, ?_, hq22, hq23, hq24, ?_⟩, hput.2⟩
  · rw [wdsC_append, wdsC_one]; exact hput.1
  · have hgq : q2 ≠ g2 := fun h => ngq2 h.symm
    rw [Below.heap_setCell _ _ _ _ hq24, Below.heap_setCell _ _ _ _ hgq, Below.heap_setCell _ _ _ _ hgq, Below.heap_setCell _ _ _ _ hgq, hqq]
    exact hq21
  · simp; omega
set_option maxHeartbeats 40000000 in
theorem word1_any {lo lo2 p q q2 f k : Nat} (x0 x2 : Value) (w : World) (ws : List Wd) (l : List Tok) (h : Rd n w b l) (hn : n ≤ lo) (hk : k ≤ 100) (hj : WordJ lo lo2 b p q q2 x0 x2 k w ws l.length)
    (ih : ∀ w l, Rd n w b l → l.length < f → Calls Tryz.prog 96 #[.pointer (some ⟨b, 0, none⟩), .int .i64 ((k + 1 : Nat) : Int)] w (StrP n b (wdC 50) (wordF f (k + 1) l) l.length w)) (hf : l.length < f) :
    Calls Tryz.prog 111 #[.pointer (some ⟨p, 0, none⟩), .pointer (some ⟨q, 0, none⟩), .pointer (some ⟨q2, 0, none⟩)] w (OneP n b lo2 p (WordJ lo lo2 b p q q2 x0 x2 k) l.length (oneWord f k ws l) w) := by
  obtain ⟨hj, hq2, hq2a, hq2b, hq2p, hlen⟩ := hj
  obtain ⟨v, kk, xs, hv, hkk, ho, hoo, hge, S', ha, hnd, hS⟩ := hj.open_
  obtain ⟨i0, hi, hz0, hz1, hz2⟩ := info_parts Tryz.infoWord
  have HI := Lib.hid hi
  have HZ := Lib.hid (And.intro hz0 (And.intro hz1 hz2))
  have HIH : Hid (∀ ww, Below w.heap.size w ww → Calls Tryz.prog 96 #[.pointer (some ⟨b, 0, none⟩), .int .i64 ((k : Int) + 1)] ww (StrP n b (wdC 50) (wordF f (k + 1) l) l.length ww)) := by
    intro ww hb
    have := ih ww l (h.under hb) hf
    simpa using this
  have HJ := Lib.hid hj
  have HPQ := Lib.hid (And.intro (show w.heap.size ≥ lo2 from hj.le) (And.intro hj.p1 (And.intro hj.p2 (And.intro hj.q1 (And.intro hj.q2 hj.b0)))))
  have hplt : p < w.heap.size := by have := hj.p2; have := hj.le; omega
  have hqlt : q < w.heap.size := by have := hj.q2; have := hj.le; omega
  have hq2lt : q2 < w.heap.size := by have := hj.le; omega
  have hk1 : ws.length = kk := by have := hkk; rw [wdsC_length] at this; omega
  have hxs : xs.length = kk * 3 := ho.1
  obtain ⟨ao, cc, rfl⟩ := own_form ho
  have HF := Lib.hid (And.intro hv (And.intro hkk (And.intro ho (And.intro hoo (And.intro hge (And.intro ha (And.intro hnd hS)))))))
  have c1 : w.cell? ⟨p, 1, none⟩ = some (.slice ao kk cc) := by rw [cell_of_row w p 1 _ _ _ hv]; rfl
  have cq : w.cell? ⟨q, 0, none⟩ = some (.pointer (some ⟨b, 0, none⟩)) := by rw [cell_of_row w q 0 _ _ _ hj.ptr]; rfl
  have cq2 : w.cell? ⟨q2, 0, none⟩ = some (.int .i64 (k : Int)) := by rw [cell_of_row w q2 0 _ _ _ hq2]; rfl
  have HK := Lib.hid hk1
  have HXS := Lib.hid hxs
  have HQ2 := Lib.hid (And.intro hq2 (And.intro hq2a (And.intro hq2b hq2p)))
  have HLEN := Lib.hid hlen
  have HN := Lib.hid hn
  have HH := Lib.hid h
  have hwrap : IntKind.i64.wrap ((k : Int) + 1) = (k : Int) + 1 := IntWalk.i64_in _ (by omega)
  have kr0 : (-9223372036854775808 : Int) ≤ (k : Int) + 1 := by omega
  have kr1 : (k : Int) + 1 ≤ 9223372036854775807 := by omega
  have hkki : (kk : Int) < (kk : Int) + 1 := by omega
  have hkk0 : (0 : Int) ≤ (kk : Int) := by omega
  clear hi hz0 hz1 hz2 hj hv hkk ho hoo hge ha hnd hS hk1 hlen hq2 hq2a hq2b hq2p ih hf h hn hxs hk
  go_enter Tryz.func111, Tryz.ntmps111
  go_wp2_with fail
  have nq : ¬ p = q := by have := HJ.out.pq; omega
  have nq2 : ¬ p = q2 := by have := HQ2.out.2.2.2; omega
  have bS0 : Below w.heap.size w w.drew := (Below.refl _ _).drew
  have bS1 : Below w.heap.size w (w.alloc (.cells #[.string ⟨#[]⟩, .slice none 0 0, .int .i64 0] 50)).drew := ((Below.refl _ _).alloc (Nat.le_refl _) _).drew
  have cS0 : w.drew.cell? ⟨q, 0, none⟩ = some (.pointer (some ⟨b, 0, none⟩)) ∧ w.drew.cell? ⟨q2, 0, none⟩ = some (.int .i64 (k : Int)) := ⟨cq, cq2⟩
  have cS1 : (w.alloc (.cells #[.string ⟨#[]⟩, .slice none 0 0, .int .i64 0] 50)).drew.cell? ⟨q, 0, none⟩ = some (.pointer (some ⟨b, 0, none⟩)) ∧ (w.alloc (.cells #[.string ⟨#[]⟩, .slice none 0 0, .int .i64 0] 50)).drew.cell? ⟨q2, 0, none⟩ = some (.int .i64 (k : Int)) :=
    ⟨(World.cell?_alloc_lt _ _ _ hqlt).trans cq, (World.cell?_alloc_lt _ _ _ hq2lt).trans cq2⟩
  go_region_law (first
    | (go_simp
       go_at_call 96
       refine (HIH.out _ (by first | (with_reducible exact bS0) | (with_reducible exact bS1))).mono ?_
       rintro e w1 (⟨x1, l1, S1, ys, hn1, rfl, hr1, hl1, hat1, hnd1, hge1, hg1⟩ | ⟨c', q', hn1, rfl, hg1⟩)
       case inr =>
         refine ⟨?_, .inr ⟨c', q', by unfold oneWord; simp [bnd, hn1], rfl, Nx.of_grown (grown_trans (grown_under (by first | (with_reducible exact bS0) | (with_reducible exact bS1)) b) hg1) (by have := HPQ.out; omega)⟩⟩
         first | rfl | (simp [go_sem]; done) | (unfold Act.put; simp)
       obtain ⟨nm, ao1, n1, c1', q1', as1, hx1, hys⟩ := hat1.word
       subst hys
       have hge1' : ∀ s ∈ S1, w.heap.size ≤ s := fun s hs => Nat.le_trans (by first | (with_reducible exact bS0.size) | (with_reducible exact bS1.size)) (hge1 s hs)
       have hgw : w.grownBy w1 (some b) := grown_trans (grown_under (by first | (with_reducible exact bS0) | (with_reducible exact bS1)) b) hg1
       have HOA : Hid (∀ ww, Below w1.heap.size w1 ww → ww.ownsRow 0 50 3 (.slice ao kk cc) kk xs) := fun ww hb => HF.out.2.2.2.1 _ (grown_then hgw (hb.mono hgw.size))
       have HGA : Hid (∀ ww, Below w1.heap.size w1 ww → w.grownBy ww (some b)) := fun ww hb => grown_then hgw (hb.mono hgw.size)
       try have hzb : w1.heap[w.heap.size]? = some (.cells #[.string ⟨#[]⟩, .slice none 0 0, .int .i64 0] 50 (0, 0)) := (hg1.block w.heap.size (by show w.heap.size < (w.alloc _).heap.size; simp) (by intro h3; injection h3 with h3; have := HPQ.out; omega)).trans (heap_alloc_new w _)
       have hbo : ∀ i, i < w.heap.size → i ≠ b → w1.heap[i]? = w.heap[i]? := fun i hi hh => hgw.block i hi (by intro h3; injection h3 with h3; exact hh h3)
       have d1 : w1.cell? ⟨p, 1, none⟩ = some (.slice ao kk cc) := (World.cell?_of_block (a := ⟨p, 1, none⟩) (hbo p hplt (by have := HPQ.out; omega))).trans c1
       have dq : w1.cell? ⟨q, 0, none⟩ = some (.pointer (some ⟨b, 0, none⟩)) := (World.cell?_of_block (a := ⟨q, 0, none⟩) (hbo q hqlt (by have := HPQ.out; omega))).trans cq
       have dq2 : w1.cell? ⟨q2, 0, none⟩ = some (.int .i64 (k : Int)) := (World.cell?_of_block (a := ⟨q2, 0, none⟩) (hbo q2 hq2lt (by have := HPQ.out; have := HQ2.out; omega))).trans cq2
       have hp1 : p < w1.heap.size := by have := hgw.size; omega
       have hq1 : q < w1.heap.size := by have := hgw.size; omega
       have hq21 : q2 < w1.heap.size := by have := hgw.size; omega
       have HG1 := Lib.hid hg1
       have dS0 := And.intro dq dq2
       have dS1 : (w1.alloc (.cells #[.string ⟨#[]⟩, .slice none 0 0, .int .i64 0] 50)).cell? ⟨q, 0, none⟩ = some (.pointer (some ⟨b, 0, none⟩)) ∧ (w1.alloc (.cells #[.string ⟨#[]⟩, .slice none 0 0, .int .i64 0] 50)).cell? ⟨q2, 0, none⟩ = some (.int .i64 (k : Int)) :=
         ⟨(World.cell?_alloc_lt _ _ _ hq1).trans dq, (World.cell?_alloc_lt _ _ _ hq21).trans dq2⟩
       have H1 := Lib.hid (And.intro hn1 (And.intro hr1 (And.intro hl1 (And.intro hgw (And.intro hat1 (And.intro hnd1 (And.intro hge1' hx1)))))))
       clear hn1 hr1 hl1 hg1 hgw hat1 hnd1 hge1 hge1' hx1 hbo
       dsimp only)
    | (refine step_append_r rfl (.tmp 4) (.tmp 10) 45 rfl 50 i0 _ 3 48 Tryz.underlying45 HI.out HZ.out.1 HZ.out.2.1 HZ.out.2.2 rfl (by decide) (.slice ao kk cc) kk xs rfl (HOA.out _ ((Below.refl _ _).alloc (Nat.le_refl _) _)) ⟨w1.heap.size, 0, none⟩ 1 1 rfl [.string ⟨#[]⟩, .slice none 0 0, .int .i64 0] rfl (new_cells w1 [.string ⟨#[]⟩, .slice none 0 0, .int .i64 0] 50) (by simp [Value.oneCell']) (by have := HK.out; have := HLEN.out; unfold maxLen; omega) (by have := HK.out; have := HLEN.out; omega) ?_
       intro v2 W2 ho2 hg2 hnew2
       obtain ⟨g2, c2, hv2⟩ := own_pos ho2 (by omega)
       subst hv2
       obtain ⟨⟨y1, y2, eq_, eq2⟩, ⟨m0, m1, m2⟩, ⟨mz0, mz1, mz2⟩, ⟨ngp, npg, ngq, ngq2⟩, hqq⟩ := after_app HJ.out HF.out.1 HF.out.2.2.2.2.1 (HGA.out _ ((Below.refl _ _).alloc (Nat.le_refl _) _)) HXS.out ho2 hg2 hnew2 HQ2.out.1 HQ2.out.2.1 HQ2.out.2.2.1
       have eS0 := And.intro eq_ eq2
       have H2 := Lib.hid (And.intro ho2 (And.intro hg2 (And.intro hnew2 (And.intro (show Below w1.heap.size w1 (w1.alloc (.cells #[.string ⟨#[]⟩, .slice none 0 0, .int .i64 0] 50)) from (Below.refl _ _).alloc (Nat.le_refl _) _) hqq))))
       clear ho2 hg2 hnew2 hqq)
    | (refine step_append_r rfl (.tmp 4) (.tmp 10) 45 rfl 50 i0 _ 3 48 Tryz.underlying45 HI.out HZ.out.1 HZ.out.2.1 HZ.out.2.2 rfl (by decide) (.slice ao kk cc) kk xs rfl (HOA.out _ (Below.refl _ _)) ⟨w.heap.size, 0, none⟩ 1 1 rfl [.string ⟨#[]⟩, .slice none 0 0, .int .i64 0] rfl (cells_row hzb) (by simp [Value.oneCell']) (by have := HK.out; have := HLEN.out; unfold maxLen; omega) (by have := HK.out; have := HLEN.out; omega) ?_
       intro v2 W2 ho2 hg2 hnew2
       obtain ⟨g2, c2, hv2⟩ := own_pos ho2 (by omega)
       subst hv2
       obtain ⟨⟨y1, y2, eq_, eq2⟩, ⟨m0, m1, m2⟩, ⟨mz0, mz1, mz2⟩, ⟨ngp, npg, ngq, ngq2⟩, hqq⟩ := after_app HJ.out HF.out.1 HF.out.2.2.2.2.1 (HGA.out _ (Below.refl _ _)) HXS.out ho2 hg2 hnew2 HQ2.out.1 HQ2.out.2.1 HQ2.out.2.2.1
       have eS0 := And.intro eq_ eq2
       have H2 := Lib.hid (And.intro ho2 (And.intro hg2 (And.intro hnew2 (And.intro (Below.refl w1.heap.size w1) hqq))))
       clear ho2 hg2 hnew2 hqq))
  all_goals
    go_end0
    obtain ⟨hn1, hr1, hl1, hgw, hat1, hnd1, hge1, hx1⟩ := H1.out
    refine word1_end HJ.out HN.out HLEN.out HF.out ⟨hn1, hr1, hl1, hgw, hat1, hnd1, hge1⟩ H2.out HQ2.out ngq2 ?_
    first | rfl | exact swap3 _ _ _ _ _ _ _ _ _ _ _ npg
end Go.Proofs.YtngimijiafnheaaGreat
