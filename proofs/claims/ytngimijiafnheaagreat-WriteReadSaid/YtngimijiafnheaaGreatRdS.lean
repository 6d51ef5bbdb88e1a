/- A text: its declarations, its rules. -/
import Derived.Test.YtngimijiafnheaaGreatRdR
set_option maxRecDepth 100000
set_option linter.unusedSimpArgs false
namespace LexT
open Go Go.RowKit
set_option linter.unusedVariables false
theorem declsF_stop {N f : Nat} {ds : List De} {l : List Tok} (h : atB [[37, 37]] l = true) : declsF N (f + 1) ds l = some (.ok (ds, l.tail)) := by
  show (if atB [[37, 37]] l = true then _ else _) = _
  rw [h]; rfl
theorem declsF_err {N f : Nat} {ds : List De} {l : List Tok} {e : Er} (h : atB [[37, 37]] l = false) (h2 : declF N l = some (.error e)) : declsF N (f + 1) ds l = some (.error e) := by
  show (if atB [[37, 37]] l = true then _ else _) = _
  rw [h]
  show bnd (declF N l) _ = _
  rw [h2]; rfl
theorem declsF_more {N f : Nat} {ds : List De} {l l1 : List Tok} {d : De} (h : atB [[37, 37]] l = false) (h2 : declF N l = some (.ok (d, l1))) : declsF N (f + 1) ds l = declsF N f (ds ++ [d]) l1 := by
  show (if atB [[37, 37]] l = true then _ else _) = _
  rw [h]
  show bnd (declF N l) _ = _
  rw [h2]; rfl
theorem rulesF_stop {N f : Nat} {ds : List Ru} {l : List Tok} (h : atB [[]] l = true) : rulesF N (f + 1) ds l = some (.ok (ds, l)) := by
  show (if atB [[]] l = true then _ else _) = _
  rw [h]; rfl
theorem rulesF_err {N f : Nat} {ds : List Ru} {l : List Tok} {e : Er} (h : atB [[]] l = false) (h2 : ruleF N l = some (.error e)) : rulesF N (f + 1) ds l = some (.error e) := by
  show (if atB [[]] l = true then _ else _) = _
  rw [h]
  show bnd (ruleF N l) _ = _
  rw [h2]; rfl
theorem rulesF_more {N f : Nat} {ds : List Ru} {l l1 : List Tok} {d : Ru} (h : atB [[]] l = false) (h2 : ruleF N l = some (.ok (d, l1))) : rulesF N (f + 1) ds l = rulesF N f (ds ++ [d]) l1 := by
  show (if atB [[]] l = true then _ else _) = _
  rw [h]
  show bnd (ruleF N l) _ = _
  rw [h2]; rfl
theorem textF_1 {N : Nat} {l : List Tok} {e : Er} (h : declsF N N [] l = some (.error e)) : textF N l = some (.error e) := by
  show bnd (declsF N N [] l) _ = _
  rw [h]; rfl
theorem textF_2 {N : Nat} {l l1 : List Tok} {ds : List De} {e : Er} (h : declsF N N [] l = some (.ok (ds, l1))) (h2 : rulesF N N [] l1 = some (.error e)) : textF N l = some (.error e) := by
  show bnd (declsF N N [] l) _ = _
  rw [h]
  show bnd (rulesF N N [] l1) _ = _
  rw [h2]; rfl
theorem textF_3 {N : Nat} {l l1 l2 : List Tok} {ds : List De} {rs : List Ru} (h : declsF N N [] l = some (.ok (ds, l1))) (h2 : rulesF N N [] l1 = some (.ok (rs, l2))) : textF N l = some (.ok (⟨ds, rs⟩, l2)) := by
  show bnd (declsF N N [] l) _ = _
  rw [h]
  show bnd (rulesF N N [] l1) _ = _
  rw [h2]; rfl
/-- A row with one more, in general. -/
theorem FldO.more {n lo lo2 b p q idx kk k : Nat} {T Te : TypeId} {oq : Obj} {cells : Value → Array Value} {wr w1 W1 W2 : World} {cs ds : List Cell} {l1 : List Tok} {v v' : Value} {xs news : List Value} {S' S1 : List Nat} (h : FldO lo lo2 b p q T oq Te k cells wr cs) (hn : n ≤ lo)
    (hF : wr.heap[p]? = some (.cells (cells v) T (0, 0)) ∧ cs.length = kk * k ∧ wr.ownsRow 0 Te k v kk xs ∧ (∀ ww, wr.grownBy ww (some b) → ww.ownsRow 0 Te k v kk xs) ∧ (∀ g, v.ownBlock = some g → lo2 ≤ g) ∧ AtL wr cs S' xs ∧ (ownL v ++ S').Nodup ∧ ∀ s ∈ S', lo2 ≤ s)
    (hr1 : Rd n w1 b l1) (hgw : wr.grownBy w1 (some b)) (hat1 : AtL w1 ds S1 news) (hk : ds.length = k) (hnd1 : S1.Nodup) (hge1 : ∀ s ∈ S1, wr.heap.size ≤ s) (hWB : Below w1.heap.size w1 W1)
    (ho2 : W2.ownsRow 0 Te k v' (kk + 1) (xs ++ news)) (hg2 : W1.grownBy W2 v.ownBlock) (hnew2 : ∀ g, v'.ownBlock = some g → v.ownBlock = some g ∨ W1.heap.size ≤ g) (hset : (cells v).setIfInBounds idx v' = cells v') :
    Rd n (W2.setCell ⟨p, idx, none⟩ v') b l1 ∧ FldO lo lo2 b p q T oq Te k cells (W2.setCell ⟨p, idx, none⟩ v') (cs ++ ds) ∧ Nx lo2 b p wr (W2.setCell ⟨p, idx, none⟩ v') := by
  obtain ⟨hv, hkk, ho, hoo, hge, ha, hnd, hS⟩ := hF
  have hp1 := h.p1
  have hp2 := h.p2
  have hd := AtL.same (w' := W1) _ _ _ hat1 (fun g hg => hWB.block g (AtL.lt _ _ _ hat1 g hg))
  have hput := h.put (idx := idx) (m := 1) hv hkk ho hge ha hnd hS (grown_then hgw (hWB.mono hgw.size)) hd (by rw [hk]; omega) hnd1 hge1 ho2 hg2 hnew2 hset
  exact ⟨rd_put _ hr1 hWB hg2 hge (by omega) (by omega), hput.1, hput.2⟩
theorem nx_grown {lo2 b p : Nat} {w wr w2 : World} (hg : w.grownBy wr (some b)) (hx : Nx lo2 b p wr w2) (h1 : w.heap.size ≤ lo2) (h2 : w.heap.size ≤ p) : w.grownBy w2 (some b) :=
  ⟨hx.os.trans hg.os, hx.tape.trans hg.tape, hx.output.trans hg.output, Nat.le_trans hg.size hx.size, fun i hi hne => (hx.block i (by omega) (fun hh => hne (by rw [hh])) (by omega)).trans (hg.block i hi hne)⟩
end LexT
namespace Go.Proofs.YtngimijiafnheaaGreat
open Go.Instr Go.RowKit LexT
set_option linter.unusedVariables false
variable {n b : Nat} {t : Tok} {r l : List Tok}
theorem declsC_length : ∀ ds : List De, (ds.flatMap declC).length = ds.length * 4
  | [] => rfl
  | d :: ds => by rw [List.flatMap_cons, List.length_append, declsC_length ds, show (declC d).length = 4 from rfl, List.length_cons]; omega
theorem rulesC_length : ∀ ds : List Ru, (ds.flatMap ruleC).length = ds.length * 4
  | [] => rfl
  | d :: ds => by rw [List.flatMap_cons, List.length_append, rulesC_length ds, show (ruleC d).length = 4 from rfl, List.length_cons]; omega
def zeroText : Array Value := #[.slice none 0 0, .slice none 0 0]
/-- The declarations so far. -/
structure TxD (n lo lo2 b p : Nat) (w V : World) (ds : List De) (l : List Tok) : Prop where
  rd : Rd n V b l
  fld : FldO lo lo2 b p lo 25 (.cells zeroText 25 (0, 0)) 41 4 (fun v => #[v, .slice none 0 0]) V (ds.flatMap declC)
  gr : w.grownBy V (some b)
theorem TxD.turn {n lo lo2 p : Nat} {w V V2 : World} {ds : List De} {l l2 : List Tok} (h : TxD n lo lo2 b p w V ds l) (hr : Rd n V2 b l2) (hg : V.grownBy V2 (some b)) : TxD n lo lo2 b p w V2 ds l2 := ⟨hr, h.fld.keep hg, grown_trans h.gr hg⟩
/-- The rules so far, behind all declarations. -/
structure TxR (n lo lo2 b p : Nat) (vd : Value) (ds : List De) (Sd : List Nat) (w V : World) (rs : List Ru) (l : List Tok) : Prop where
  rd : Rd n V b l
  fld : FldO lo lo2 b p lo 25 (.cells zeroText 25 (0, 0)) 44 4 (fun v => #[vd, v]) V (rs.flatMap ruleC)
  gr : w.grownBy V (some b)
  at_ : At V (.row 41 4 (ds.flatMap declC)) Sd vd
  nd : Sd.Nodup
  ge : ∀ s ∈ Sd, p < s ∧ s < lo2
  bp : b < p
theorem TxR.turn {n lo lo2 p : Nat} {vd : Value} {ds : List De} {Sd : List Nat} {w V V2 : World} {rs : List Ru} {l l2 : List Tok} (h : TxR n lo lo2 b p vd ds Sd w V rs l) (hr : Rd n V2 b l2) (hg : V.grownBy V2 (some b)) : TxR n lo lo2 b p vd ds Sd w V2 rs l2 := by
  obtain ⟨h1, h2, h3, h4, h5, h6, h7⟩ := h
  exact ⟨hr, h2.keep hg, grown_trans h3 hg, h4.same _ _ _ (fun g hgm => hg.block g (At.lt _ _ _ h4 g hgm) (by intro h3; injection h3 with h3; have := h6 g hgm; omega)), h5, h6, h7⟩
theorem TxD.rules {n lo lo2 p : Nat} {w V : World} {ds : List De} {l : List Tok} (h : TxD n lo lo2 b p w V ds l) (hpl : p + 1 = lo2) : ∃ ao cn cc Sd, TxR n lo V.heap.size b p (.slice ao cn cc) ds Sd w V [] l := by
  obtain ⟨v, S, hv, hat, hnd, hge⟩ := h.fld.row
  obtain ⟨ao, cn, cc, rfl⟩ := hat.slice
  have hlt := At.lt _ _ _ hat
  have b0 := h.fld.b0
  have p1 := h.fld.p1
  have q1 := h.fld.q1
  have pq := h.fld.pq
  have q2 := h.fld.q2
  have p2 := h.fld.p2
  have le := h.fld.le
  exact ⟨ao, cn, cc, S, h.rd, ⟨⟨.slice none 0 0, [], hv, At.empty _ _ _, List.nodup_nil, by simp⟩, h.fld.ptr, b0, p1, by omega, q1, by omega, pq, Nat.le_refl _⟩, h.gr, hat, hnd, fun s hs => ⟨by have := hge s hs; omega, hlt s hs⟩, by omega⟩
theorem text_end {n lo lo2 p m : Nat} {vd v : Value} {ds : List De} {Sd S : List Nat} {w V : World} {rs : List Ru} {l5 : List Tok} {R : Pa Tx} (h : TxR n lo lo2 b p vd ds Sd w V rs l5) (hat : At V (.row 44 4 (rs.flatMap ruleC)) S v) (hnd : S.Nodup) (hge : ∀ s ∈ S, lo2 ≤ s) (hlo : w.heap.size = lo) (hn : n ≤ lo) (hlp : lo < p) (hR : R = some (.ok (⟨ds, rs⟩, l5))) (hm : l5.length < m) :
    StrP n b textC R m w (.returned (.agg #[vd, v])) (two V lo vd v) := by
  have hq2 := h.fld.q2
  have hlow := two_low lo V lo vd v (Nat.le_refl _)
  refine .inl ⟨⟨ds, rs⟩, l5, Sd ++ S, [vd, v], hR, rfl, h.rd.below (hlow.mono hn), hm, ?_, ?_, ?_, ?_⟩
  · have a1 : At (two V lo vd v) (.row 41 4 (ds.flatMap declC)) Sd vd := h.at_.same _ _ _ (fun g hg => two_same _ _ _ _ _ (by have := h.ge g hg; omega))
    have a2 : At (two V lo vd v) (.row 44 4 (rs.flatMap ruleC)) S v := hat.same _ _ _ (fun g hg => two_same _ _ _ _ _ (by have := hge g hg; omega))
    have := AtL.cons a1 (AtL.cons a2 (AtL.nil _))
    rw [List.append_nil] at this
    exact this
  · rw [List.nodup_append]
    refine ⟨h.nd, hnd, fun x hx y hy hxy => ?_⟩
    subst hxy
    have := h.ge x hx
    have := hge x hy
    omega
  · intro s hs
    rcases List.mem_append.1 hs with h9 | h9
    · have := h.ge s h9; omega
    · have := hge s h9; have := h.fld.p2; omega
  · subst hlo
    exact grown_then h.gr hlow
end Go.Proofs.YtngimijiafnheaaGreat
