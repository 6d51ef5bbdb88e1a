/- A token put behind the others. -/
import Derived.Test.YtngimijiafnheaaGreatLexG
import Derived.Deep.RegionLaw
import Derived.Deep.RegionHeld3
import Derived.Deep.DeepCutAuto
import Derived.WalkSmall
set_option maxRecDepth 100000
namespace Go
open Go.RowKit
/-- append onto a row of the call's own, nil or not, as one step of a region that draws. -/
theorem step_append_row {P : Program} {ops : Array Oper} {o : Oper} {a : Act} {w : World} {K : Act → World → Prop} {Q : Exit → Act → World → Prop} {E : Prop}
    (hg : o.guard = none) (s x : Operand) (t : TypeId) (hop : o.op = Op.call { callee := Callee.builtin Builtin.append, args := #[s, x], argTypes := #[t, t] })
    (base : Nat) (e : TypeId) (i : TypeInfo) (z : Value) (size bytes : Nat) (ht : P.underlying t = some (.slice e)) (hi : P.info? e = some i) (hz : i.zero = some z)
    (hsize : i.size = size) (hby : i.bytes = bytes) (hzs : z.cells.size = size) (hsz : 0 < size)
    (v : Value) (n : Nat) (xs : List Value) (hs : a.eval s = v) (hown : w.ownsRow base e size v n xs)
    (ad : Addr) (m c : Nat) (hx : a.eval x = .slice (some ad) m c) (news : List Value) (hl : news.length = m * size) (hnews : ∀ j u, news[j]? = some u → w.cell? (ad.add j) = some u) (h1 : ∀ u ∈ news, u.oneCell' = true)
    (h63 : n + m ≤ maxLen) (hbytes : (n + m) * bytes ≤ 140737488355328) (hbase : base ≤ w.heap.size)
    (hK : ∀ v' w', w'.ownsRow base e size v' (n + m) (xs ++ news) → w.grownBy w' v.ownBlock → K (a.put o.dst v') w') :
    if Region.wanted o (yielded ops a.tmps) = true then Oper.wp P o a w K Q else E := by
  have hw : Region.wanted o (yielded ops a.tmps) = true := by simp [Region.wanted, hg]
  rw [if_pos hw]
  obtain ⟨v', w', hrun, h2, h3, _⟩ := run_append_own (P := P) w base t o.type e i z size bytes ht hi hz hsize hby hzs hsz v n xs hown ad m c news hl hnews h1 h63 hbytes hbase
  unfold Oper.wp
  simp [execOp, hop, resolve, invoke, builtin, hs, hx, hrun, Result.andThen]
  exact hK _ _ h2 h3
end Go
namespace LexT
open Go Go.RowKit
set_option linter.unusedVariables false
/-- A token's cells. -/
def tcs (t : Tok) : List Value := [.int .u8 (t.kind : Int), .string (mkS t.text), .int .i64 (t.place : Int)]
def tcells (ts : List Tok) : List Value := ts.flatMap tcs
theorem tcells_length (ts : List Tok) : (tcells ts).length = ts.length * 3 := by
  induction ts with
  | nil => rfl
  | cons t ts ih => simp only [tcells, List.flatMap_cons, List.length_append, List.length_cons] at ih ⊢; rw [ih]; simp [tcs]; omega
theorem tcells_append (a b : List Tok) : tcells (a ++ b) = tcells a ++ tcells b := by simp [tcells]
theorem tcells_one (t : Tok) : tcells [t] = tcs t := by simp [tcells]
theorem tcells_at (ts : List Tok) (i j : Nat) (t : Tok) (v : Value) (hi : ts[i]? = some t) (hj : (tcs t)[j]? = some v) : (tcells ts)[i * 3 + j]? = some v := by
  induction ts generalizing i with
  | nil => simp at hi
  | cons u us ih =>
    have hl : (tcs u).length = 3 := rfl
    have hjl : j < 3 := (List.getElem?_eq_some_iff.1 hj).1
    show (tcs u ++ tcells us)[i * 3 + j]? = _
    cases i with
    | zero =>
      simp only [List.getElem?_cons_zero, Option.some.injEq] at hi
      subst hi
      rw [List.getElem?_append_left (by omega)]
      simpa using hj
    | succ i =>
      rw [List.getElem?_append_right (by omega), hl]
      have : (i + 1) * 3 + j - 3 = i * 3 + j := by omega
      rw [this]
      exact ih i (by simpa using hi)
/-- The reader with the tokens that stand ahead. -/
structure St (E : TypeId) (w : World) (b : Nat) (S : ByteArray) (fr a : Nat) (ts : List Tok) (tv : Value) (o : Nat) (pm : Value) : Prop where
  box : Box w b S fr a tv o pm
  own : w.ownsRow (b + 2) E 3 tv ts.length (tcells ts)
section
variable {E : TypeId} {w w' : World} {b : Nat} {S : ByteArray} {fr a a' fr' o o' : Nat} {ts : List Tok} {tv pm : Value}
theorem St.keep (h : St E w b S fr a ts tv o pm) (hb : Box w' b S fr' a' tv o' pm) (hg : w.grownBy w' (some b)) : St E w' b S fr' a' ts tv o' pm := by
  refine ⟨hb, h.own.kept hg (Or.inr fun hh => ?_)⟩
  have := h.own.lt b hh
  omega
theorem St.under (h : St E w b S fr a ts tv o pm) (hb : Below w.heap.size w w') : St E w' b S fr a ts tv o pm :=
  h.keep (h.box.under hb h.box.lt) (grown_below hb _)
end
theorem tcs_oneCell (t : Tok) : ∀ v ∈ tcs t, v.oneCell' = true := by
  intro v hv
  simp only [tcs, List.mem_cons, List.not_mem_nil, or_false] at hv
  rcases hv with rfl | rfl | rfl <;> rfl
theorem new_cells (w : World) (l : List Value) (T : TypeId) : ∀ j u, l[j]? = some u → (w.alloc (.cells l.toArray T)).cell? ((⟨w.heap.size, 0, none⟩ : Addr).add j) = some u := by
  intro j u hu
  have hadd : (⟨w.heap.size, 0, none⟩ : Addr).add j = ⟨w.heap.size, j, none⟩ := by unfold Addr.add; split <;> simp_all
  rw [hadd, World.cell?_alloc_new]
  simpa using hu
theorem own_pos {w : World} {base : Nat} {e : TypeId} {size : Nat} {v : Value} {n : Nat} {xs : List Value} (h : w.ownsRow base e size v n xs) (hn : 0 < n) : ∃ g c, v = .slice (some ⟨g, 0, none⟩) n c := by
  rcases h.2 with ⟨_, h0⟩ | ⟨g, cap, cur, hv, _⟩
  · omega
  · exact ⟨g, cap, hv⟩
theorem own_form {w : World} {base : Nat} {e : TypeId} {size : Nat} {v : Value} {n : Nat} {xs : List Value} (h : w.ownsRow base e size v n xs) : ∃ ao c, v = .slice ao n c := by
  rcases h.2 with ⟨hv, h0⟩ | ⟨g, cap, cur, hv, _⟩
  · exact ⟨none, 0, by rw [hv, h0]⟩
  · exact ⟨_, _, hv⟩
end LexT
namespace Go.Proofs.YtngimijiafnheaaGreat
open Go.Instr Go.RowKit LexT
set_option linter.unusedVariables false
variable {b fr a o : Nat} {S : ByteArray} {tv pm : Value}
theorem Tryz.infoTok : (Tryz.prog.info? 110).map (fun i => (i.zero, i.size, i.bytes)) = some (some (.agg #[.int .u8 0, .string ⟨#[]⟩, .int .i64 0]), 3, 32) := by kernel_rfl
def PutPost (k : Nat) (t : Bs) (ts : List Tok) (w : World) (b : Nat) (S : ByteArray) (fr a o : Nat) (pm : Value) (e : Ending) (w' : World) : Prop :=
  e = .returned (.tuple #[]) ∧ (∃ tv', St 110 w' b S fr a (ts ++ [⟨k, t, fr⟩]) tv' o pm) ∧ Nigh b w w'
theorem put_end {k : Nat} {t : Bs} {ts : List Tok} {w W W2 : World} {v' : Value} (h : St 110 w b S fr a ts tv o pm) (hW : Below w.heap.size w W) (ho : W2.ownsRow (b + 2) 110 3 v' (ts.length + 1) (tcells ts ++ tcs ⟨k, t, fr⟩)) (hg : W.grownBy W2 tv.ownBlock) :
    PutPost k t ts w b S fr a o pm (.returned (.tuple #[])) (W2.setCell ⟨b, 3, none⟩ v') := by
  have hlt := h.box.lt
  have hs := hW.size
  have hne : tv.ownBlock ≠ some b := fun hh => by have := h.own.lt b hh; omega
  have hb : Box W2 b S fr a tv o pm := (h.box.under hW hlt).keep (hg.block b (by omega) (fun hh => hne hh.symm))
  refine ⟨rfl, ⟨v', hb.put v', ?_⟩, ?_⟩
  · have : W2.ownsRow (b + 2) 110 3 v' (ts ++ [(⟨k, t, fr⟩ : Tok)]).length (tcells (ts ++ [⟨k, t, fr⟩])) := by
      rw [tcells_append, tcells_one]
      simpa using ho
    refine this.kept (grown_set _ _ _ _) (Or.inr fun hh => ?_)
    have := this.lt b hh
    omega
  · refine ((nigh_of_below hW b).trans ⟨hg.os, hg.tape, hg.output, hg.size, fun k hk h3 h4 => hg.block k hk (fun hh => ?_)⟩).trans (nigh_of_grown (grown_set W2 b 3 v'))
    have := h.own.lt k hh.symm
    omega
theorem put_keeps {ts : List Tok} {w W W2 : World} (h : St 110 w b S fr a ts tv o pm) (hW : Below w.heap.size w W) (hg : W.grownBy W2 tv.ownBlock) : W2.cell? ⟨b, 3, none⟩ = some tv ∧ W2.frozen? ⟨b, 3, none⟩ = false := by
  have hlt := h.box.lt
  have hne : tv.ownBlock ≠ some b := fun hh => by have := h.own.lt b hh; omega
  have hs := hW.size
  have hb := (h.box.under hW hlt).keep (hg.block b (by omega) (fun hh => hne hh.symm))
  exact ⟨hb.c3, hb.f3⟩
set_option maxHeartbeats 2000000 in
theorem put_any (k : Nat) (t : Bs) (ts : List Tok) (w : World) (h : St 110 w b S fr a ts tv o pm) (hn : ts.length ≤ 1000000) :
    Calls Tryz.prog 57 #[.pointer (some ⟨b, 0, none⟩), .int .u8 k, .string (mkS t)] w (PutPost k t ts w b S fr a o pm) := by
  obtain ⟨i0, hi, hz0, hz1, hz2⟩ := info_parts Tryz.infoTok
  have HI := Lib.hid hi
  have HZ := Lib.hid (And.intro hz0 (And.intro hz1 hz2))
  clear hi hz0 hz1 hz2
  have HH := Lib.hid h
  obtain ⟨⟨c0, c1, c2, c3, c4, c5, f1, f2, f3, f4⟩, hown⟩ := h
  have HO := Lib.hid hown
  have hlt := HH.out.box.lt
  clear hown c4 c5 f4
  have hnb : ¬ b = w.heap.size := by omega
  go_enter Tryz.func57, Tryz.ntmps57
  go_wp2_with fail
  go_region_law (refine step_append_row rfl (.tmp 10) (.tmp 19) 63 rfl (b + 2) 110 i0 _ 3 32 Tryz.underlying63 HI.out HZ.out.1 HZ.out.2.1 HZ.out.2.2 rfl (by decide) tv ts.length (tcells ts) rfl (HO.out.alloc _) ⟨w.heap.size, 0, none⟩ 1 1 rfl (tcs ⟨k, t, fr⟩) rfl (new_cells w (tcs ⟨k, t, fr⟩) 110) (tcs_oneCell _) (by unfold maxLen; omega) (by omega) (by simp; omega) ?_
                 intro v' W2 ho2 hg2
                 obtain ⟨g', c', hv'⟩ := own_pos ho2 (by omega)
                 subst hv'
                 have q3 := put_keeps HH.out ((Below.refl _ _).alloc (Nat.le_refl _) _).drew hg2
                 obtain ⟨q3, q3f⟩ := q3
                 have HB5 := Lib.hid (And.intro ho2 hg2); clear ho2 hg2)
  all_goals
    go_wp2_with fail
    go_end0
    exact put_end HH.out ((Below.refl _ _).alloc (Nat.le_refl _) _).drew HB5.out.1 HB5.out.2
end Go.Proofs.YtngimijiafnheaaGreat
