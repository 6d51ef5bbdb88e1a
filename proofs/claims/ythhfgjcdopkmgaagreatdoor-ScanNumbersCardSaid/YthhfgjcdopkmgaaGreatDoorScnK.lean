/- A token put behind the others. -/
import Derived.Test.YthhfgjcdopkmgaaGreatDoorScnJ
import Derived.Deep.RegionLaw
import Derived.Deep.RegionHeld3
import Derived.Deep.DeepCutAuto
import Derived.WalkSmall
set_option maxRecDepth 100000
namespace Go
open Go.RowKit
/-- append onto a row of the call's own, nil or not, as one step of a region that draws. -/
theorem step_append_row {P : Program} {ops : Array Oper} {o : Oper} {a : Act} {w : World} {K : Act → World → Prop} {Q : Exit → Act → World → Prop} {E : Prop}
    (hg : o.guard = none) (s x : Operand) (t : TypeId) (hop : o.op = Op.call { callee := Callee.builtin Builtin.append, args := #[s, x], argTypes := #[t, t] })
    (base : Nat) (e : TypeId) (i : TypeInfo) (z : Value) (size bytes : Nat) (ht : P.underlying t = some (.slice e)) (hi : P.info? e = some i) (hz : i.zero = some z)
    (hsize : i.size = size) (hby : i.bytes = bytes) (hzs : z.cells.size = size) (hsz : 0 < size)
    (v : Value) (n : Nat) (xs : List Value) (hs : a.eval s = v) (hown : w.ownsRow base e size v n xs)
    (ad : Addr) (m c : Nat) (hx : a.eval x = .slice (some ad) m c) (news : List Value) (hl : news.length = m * size) (hnews : ∀ j u, news[j]? = some u → w.cell? (ad.add j) = some u) (h1 : ∀ u ∈ news, u.oneCell' = true)
    (h63 : n + m ≤ maxLen) (hbytes : (n + m) * bytes ≤ 140737488355328) (hbase : base ≤ w.heap.size)
    (hK : ∀ v' w', w'.ownsRow base e size v' (n + m) (xs ++ news) → w.grownBy w' v.ownBlock → K (a.put o.dst v') w') :
    if Region.wanted o (yielded ops a.tmps) = true then Oper.wp P o a w K Q else E := by
  have hw : Region.wanted o (yielded ops a.tmps) = true := by simp [Region.wanted, hg]
  rw [if_pos hw]
  obtain ⟨v', w', hrun, h2, h3, _⟩ := run_append_own (P := P) w base t o.type e i z size bytes ht hi hz hsize hby hzs hsz v n xs hown ad m c news hl hnews h1 h63 hbytes hbase
  unfold Oper.wp
  simp [execOp, hop, resolve, invoke, builtin, hs, hx, hrun, Result.andThen]
  exact hK _ _ h2 h3
end Go
namespace ScnT
open Go Go.RowKit
set_option linter.unusedVariables false
theorem tcs_oneCell (t : Tok) : ∀ v ∈ tcs t, v.oneCell' = true := by
  intro v hv
  simp only [tcs, List.mem_cons, List.not_mem_nil, or_false] at hv
  rcases hv with rfl | rfl | rfl <;> rfl
theorem new_cells (w : World) (l : List Value) (T : TypeId) : ∀ j u, l[j]? = some u → (w.alloc (.cells l.toArray T)).cell? ((⟨w.heap.size, 0, none⟩ : Addr).add j) = some u := by
  intro j u hu
  have hadd : (⟨w.heap.size, 0, none⟩ : Addr).add j = ⟨w.heap.size, j, none⟩ := by unfold Addr.add; split <;> simp_all
  rw [hadd, World.cell?_alloc_new]
  simpa using hu
end ScnT
namespace Go.Proofs.YthhfgjcdopkmgaaGreatDoor
open Go.Instr Go.RowKit ScnT
set_option linter.unusedVariables false
variable {b fr a : Nat} {S : ByteArray} {tv pm : Value}
def PutPost (k : Nat) (t : Bs) (ts : List Tok) (w : World) (b : Nat) (S : ByteArray) (fr a : Nat) (pm : Value) (e : Ending) (w' : World) : Prop :=
  e = .returned (.tuple #[]) ∧ (∃ tv', St 67 w' b S fr a (ts ++ [⟨k, t, fr⟩]) tv' pm) ∧ Below b w w'
theorem put_end {k : Nat} {t : Bs} {ts : List Tok} {w W W2 : World} {v' : Value} (h : St 67 w b S fr a ts tv pm) (hW : Below w.heap.size w W) (ho : W2.ownsRow (b + 1) 67 3 v' (ts.length + 1) (tcells ts ++ tcs ⟨k, t, fr⟩)) (hg : W.grownBy W2 tv.ownBlock) (hk : 1 ≤ k ∧ k ≤ 8) :
    PutPost k t ts w b S fr a pm (.returned (.tuple #[])) (W2.setCell ⟨b, 3, none⟩ v') := by
  have hlt := h.box.lt
  have hs := hW.size
  have hne : tv.ownBlock ≠ some b := fun hh => by have := h.own.lt b hh; omega
  have hb : Box W2 b S fr a tv pm := (h.box.under hW hlt).keep (hg.block b (by omega) (fun hh => hne hh.symm))
  refine ⟨rfl, ⟨v', hb.put v', ?_, fun x hx => ?_⟩, ?_⟩
  · have : W2.ownsRow (b + 1) 67 3 v' (ts ++ [(⟨k, t, fr⟩ : Tok)]).length (tcells (ts ++ [⟨k, t, fr⟩])) := by
      rw [tcells_append, tcells_one]
      simpa using ho
    refine this.kept (grown_set _ _ _ _) (Or.inr fun hh => ?_)
    have := this.lt b hh
    omega
  · rcases List.mem_append.1 hx with hx | hx
    · exact h.kinds x hx
    · obtain rfl := List.mem_singleton.1 hx; exact hk
  · refine ((hW.mono (show b ≤ w.heap.size from by omega)).trans ?_).setCell (p := ⟨b, 3, none⟩) (Nat.le_refl _) _
    exact (Below.refl _ _).grown hg (by omega) (fun g hh => by have := h.own.lt g hh; omega)
theorem own_pos {w : World} {base : Nat} {e : TypeId} {size : Nat} {v : Value} {n : Nat} {xs : List Value} (h : w.ownsRow base e size v n xs) (hn : 0 < n) : ∃ g c, v = .slice (some ⟨g, 0, none⟩) n c := by
  rcases h.2 with ⟨_, h0⟩ | ⟨g, cap, cur, hv, _⟩
  · omega
  · exact ⟨g, cap, hv⟩
theorem put_keeps {ts : List Tok} {w W W2 : World} (h : St 67 w b S fr a ts tv pm) (hW : Below w.heap.size w W) (hg : W.grownBy W2 tv.ownBlock) : W2.cell? ⟨b, 3, none⟩ = some tv ∧ W2.frozen? ⟨b, 3, none⟩ = false := by
  have hlt := h.box.lt
  have hne : tv.ownBlock ≠ some b := fun hh => by have := h.own.lt b hh; omega
  have hs := hW.size
  have hb := (h.box.under hW hlt).keep (hg.block b (by omega) (fun hh => hne hh.symm))
  exact ⟨hb.c3, hb.f3⟩
set_option maxHeartbeats 2000000 in
theorem put_any (k : Nat) (t : Bs) (ts : List Tok) (w : World) (h : St 67 w b S fr a ts tv pm) (hn : ts.length ≤ 1000000) (hk : 1 ≤ k ∧ k ≤ 8) :
    Calls Tryz.prog 52 #[.pointer (some ⟨b, 0, none⟩), .int .u8 k, .string (mkS t)] w (PutPost k t ts w b S fr a pm) := by
  obtain ⟨i0, hi, hz0, hz1, hz2⟩ := info_parts Tryz.infoTok
  have HI := Lib.hid hi
  have HZ := Lib.hid (And.intro hz0 (And.intro hz1 hz2))
  clear hi hz0 hz1 hz2
  have HH := Lib.hid h
  have HK := Lib.hid hk
  clear hk
  obtain ⟨⟨c0, c1, c2, c3, c4, f1, f2, f3⟩, hown, _⟩ := h
  have HO := Lib.hid hown
  have hlt := HH.out.box.lt
  clear hown
  have hnb : ¬ b = w.heap.size := by omega
  go_enter Tryz.func52, Tryz.ntmps52
  go_wp2_with fail
  go_region_law (refine step_append_row rfl (.tmp 10) (.tmp 19) 29 rfl (b + 1) 67 i0 _ 3 32 Tryz.underlying29 HI.out HZ.out.1 HZ.out.2.1 HZ.out.2.2 rfl (by decide) tv ts.length (tcells ts) rfl (HO.out.alloc _) ⟨w.heap.size, 0, none⟩ 1 1 rfl (tcs ⟨k, t, fr⟩) rfl (new_cells w (tcs ⟨k, t, fr⟩) 67) (tcs_oneCell _) (by unfold maxLen; omega) (by omega) (by simp; omega) ?_
                 intro v' W2 ho2 hg2
                 obtain ⟨g', c', hv'⟩ := own_pos ho2 (by omega)
                 subst hv'
                 have q3 := put_keeps HH.out ((Below.refl _ _).alloc (Nat.le_refl _) _).drew hg2
                 obtain ⟨q3, q3f⟩ := q3
                 have HB5 := Lib.hid (And.intro ho2 hg2); clear ho2 hg2)
  all_goals
    go_wp2_with fail
    go_end0
    exact put_end HH.out ((Below.refl _ _).alloc (Nat.le_refl _) _).drew HB5.out.1 HB5.out.2 HK.out
end Go.Proofs.YthhfgjcdopkmgaaGreatDoor
