/- Bare: the walk. -/
import Derived.Test.YtldedhfbpongmaaDoorNodBc
set_option maxRecDepth 100000
namespace NodT
open Go Go.RowKit
set_option linter.unusedVariables false
theorem BR.top {t : Nd} {w : World} {B TP : Nat} {wr : World} {gs n c : Nat} {T pend : List Sp} (h : BR t w B TP wr gs (n + 1) c T pend) : ∃ (r : List Sp) (e : Sp), pend = r ++ [e] ∧ n = r.length ∧ n + 1 ≤ c ∧ c ≤ maxLen ∧ gs < wr.heap.size ∧ wr.ownsRow w.heap.size TP 1 (.slice (some ⟨gs, 0, none⟩) n c) n (ptrs r) ∧
    wr.cell? ⟨gs, n, none⟩ = some (.pointer (some ⟨e.1.1, e.1.2, none⟩)) := by
  have ho := h.own
  have hn := h.len
  rcases List.eq_nil_or_concat pend with rfl | ⟨r, e, rfl⟩
  · simp at hn
  · have hr : n = r.length := by simp at hn; exact hn
    have hcap : n + 1 ≤ c ∧ c ≤ maxLen := by
      rcases ho.2 with ⟨h0, _⟩ | ⟨g', cap, cur, hv, _, _, hnc, hcm, _⟩
      · cases h0
      · injection hv with _ _ hcc
        subst hcc
        exact ⟨hnc, hcm⟩
    refine ⟨r, e, by simp, hr, hcap.1, hcap.2, (ho.lt _ rfl).2, ?_, ?_⟩
    · refine ownsRow_pop (xs := ptrs r) (last := ptrs [e]) (by rw [ptrs_length, hr]; omega) ?_
      rw [← ptrs_append, ← List.concat_eq_append]
      exact ho
    · have := ho.cells (g := gs) rfl n (.pointer (some ⟨e.1.1, e.1.2, none⟩)) (by
        rw [List.concat_eq_append, ptrs_append, List.getElem?_append_right (by rw [ptrs_length]; omega), ptrs_length]
        simp [hr, ptrs])
      have hadd : (⟨gs, 0, none⟩ : Addr).add n = ⟨gs, n, none⟩ := by unfold Addr.add; split <;> simp_all
      rw [hadd] at this
      exact this
theorem grown_none {w w' : World} {gs : Nat} (h : w.grownBy w' none) : w.grownBy w' (some gs) := ⟨h.os, h.tape, h.output, h.size, fun i hi _ => h.block i hi (by simp)⟩
/-- What one round has done to the world, the stack aside: the spot's place and kids, and the kids' copy. -/
structure Rd (wr w1 w2 : World) (gs eb eo : Nat) (A : Option Addr) (m c2 : Nat) : Prop where
  g1 : (wr.setCell ⟨eb, eo + 3, none⟩ (.int .i64 0)).grownBy w1 none
  g2 : (w1.setCell ⟨eb, eo + 4, none⟩ (.slice A m c2)).grownBy w2 (some gs)
theorem setCell_size (w : World) (a : Addr) (v : Value) : (w.setCell a v).heap.size = w.heap.size := by simp [World.setCell]
theorem Rd.size1 {wr w1 w2 : World} {gs eb eo : Nat} {A : Option Addr} {m c2 : Nat} (h : Rd wr w1 w2 gs eb eo A m c2) : wr.heap.size ≤ w1.heap.size := by have := h.g1.size; rw [setCell_size] at this; exact this
theorem Rd.size2 {wr w1 w2 : World} {gs eb eo : Nat} {A : Option Addr} {m c2 : Nat} (h : Rd wr w1 w2 gs eb eo A m c2) : w1.heap.size ≤ w2.heap.size := by have := h.g2.size; rw [setCell_size] at this; exact this
theorem Rd.heap {wr w1 w2 : World} {gs eb eo : Nat} {A : Option Addr} {m c2 : Nat} (h : Rd wr w1 w2 gs eb eo A m c2) (b : Nat) (hb : b < wr.heap.size) (hg : b ≠ gs) (he : b ≠ eb) : w2.heap[b]? = wr.heap[b]? := by
  have h1 := h.size1
  rw [h.g2.block b (by rw [setCell_size]; omega) (by intro hh; injection hh; omega), Below.heap_setCell _ _ _ _ he, h.g1.block b (by rw [setCell_size]; exact hb) (by simp), Below.heap_setCell _ _ _ _ he]
theorem Rd.new {wr w1 w2 : World} {gs eb eo : Nat} {A : Option Addr} {m c2 : Nat} (h : Rd wr w1 w2 gs eb eo A m c2) (b : Nat) (hb : b < w1.heap.size) (hg : b ≠ gs) (he : b ≠ eb) : w2.heap[b]? = w1.heap[b]? := by
  rw [h.g2.block b (by rw [setCell_size]; omega) (by intro hh; injection hh; omega), Below.heap_setCell _ _ _ _ he]
theorem Rd.cell {wr w1 w2 : World} {gs eb eo : Nat} {A : Option Addr} {m c2 : Nat} (h : Rd wr w1 w2 gs eb eo A m c2) (b o : Nat) (hb : b < wr.heap.size) (hg : b ≠ gs) (he : ¬ (b = eb ∧ (o = eo + 3 ∨ o = eo + 4))) : w2.cell? ⟨b, o, none⟩ = wr.cell? ⟨b, o, none⟩ := by
  have h1 := h.size1
  have e2 : w2.cell? ⟨b, o, none⟩ = (w1.setCell ⟨eb, eo + 4, none⟩ (.slice A m c2)).cell? ⟨b, o, none⟩ := World.cell?_of_block (h.g2.block b (by rw [setCell_size]; omega) (by intro hh; injection hh; omega))
  have e1 : w1.cell? ⟨b, o, none⟩ = (wr.setCell ⟨eb, eo + 3, none⟩ (.int .i64 0)).cell? ⟨b, o, none⟩ := World.cell?_of_block (h.g1.block b (by rw [setCell_size]; exact hb) (by simp))
  rw [e2, World.cell?_setCell_other _ _ _ _ (by intro hh; injection hh with h2 h3; exact he ⟨h2.symm, .inr h3.symm⟩), e1, World.cell?_setCell_other _ _ _ _ (by intro hh; injection hh with h2 h3; exact he ⟨h2.symm, .inl h3.symm⟩)]
theorem Rd.frozen {wr w1 w2 : World} {gs eb eo : Nat} {A : Option Addr} {m c2 : Nat} (h : Rd wr w1 w2 gs eb eo A m c2) (b o : Nat) (hb : b < wr.heap.size) (hg : b ≠ gs) : w2.frozen? ⟨b, o, none⟩ = wr.frozen? ⟨b, o, none⟩ := by
  have h1 := h.size1
  have e2 : w2.frozen? ⟨b, o, none⟩ = (w1.setCell ⟨eb, eo + 4, none⟩ (.slice A m c2)).frozen? ⟨b, o, none⟩ := World.frozen?_of_block (h.g2.block b (by rw [setCell_size]; omega) (by intro hh; injection hh; omega))
  have e1 : w1.frozen? ⟨b, o, none⟩ = (wr.setCell ⟨eb, eo + 3, none⟩ (.int .i64 0)).frozen? ⟨b, o, none⟩ := World.frozen?_of_block (h.g1.block b (by rw [setCell_size]; exact hb) (by simp))
  rw [e2, World.frozen?_setCell, e1, World.frozen?_setCell]
theorem Rd.at3 {wr w1 w2 : World} {gs eb eo : Nat} {A : Option Addr} {m c2 : Nat} (h : Rd wr w1 w2 gs eb eo A m c2) (hb : eb < wr.heap.size) (hg : eb ≠ gs) {v : Value} (hv : wr.cell? ⟨eb, eo + 3, none⟩ = some v) : w2.cell? ⟨eb, eo + 3, none⟩ = some (.int .i64 0) := by
  have h1 := h.size1
  have e2 : w2.cell? ⟨eb, eo + 3, none⟩ = (w1.setCell ⟨eb, eo + 4, none⟩ (.slice A m c2)).cell? ⟨eb, eo + 3, none⟩ := World.cell?_of_block (h.g2.block eb (by rw [setCell_size]; omega) (by intro hh; injection hh; omega))
  have e1 : w1.cell? ⟨eb, eo + 3, none⟩ = (wr.setCell ⟨eb, eo + 3, none⟩ (.int .i64 0)).cell? ⟨eb, eo + 3, none⟩ := World.cell?_of_block (h.g1.block eb (by rw [setCell_size]; exact hb) (by simp))
  rw [e2, World.cell?_setCell_other _ _ _ _ (by intro hh; injection hh with h2 h3; omega), e1]
  simp [go_sem, hv]
theorem Rd.at4 {wr w1 w2 : World} {gs eb eo : Nat} {A : Option Addr} {m c2 : Nat} (h : Rd wr w1 w2 gs eb eo A m c2) (hb : eb < wr.heap.size) (hg : eb ≠ gs) {v : Value} (hv : wr.cell? ⟨eb, eo + 4, none⟩ = some v) : w2.cell? ⟨eb, eo + 4, none⟩ = some (.slice A m c2) := by
  have h1 := h.size1
  have e2 : w2.cell? ⟨eb, eo + 4, none⟩ = (w1.setCell ⟨eb, eo + 4, none⟩ (.slice A m c2)).cell? ⟨eb, eo + 4, none⟩ := World.cell?_of_block (h.g2.block eb (by rw [setCell_size]; omega) (by intro hh; injection hh; omega))
  have e1 : w1.cell? ⟨eb, eo + 4, none⟩ = (wr.setCell ⟨eb, eo + 3, none⟩ (.int .i64 0)).cell? ⟨eb, eo + 4, none⟩ := World.cell?_of_block (h.g1.block eb (by rw [setCell_size]; exact hb) (by simp))
  rw [World.cell?_setCell_other _ _ _ _ (by intro hh; injection hh with h2 h3; omega), hv] at e1
  rw [e2]
  simp [go_sem, e1]
theorem BR.next {t : Nd} {w : World} {B TP : Nat} {wr : World} {gs n c : Nat} {T r : List Sp} {eb eo : Nat} {u : Nd} {w1 w2 : World} {A : Option Addr} {c2 gs' c' g : Nat} {e : TypeId}
    (h : BR t w B TP wr gs (n + 1) c T (r ++ [((eb, eo), u)])) (hB : B ≤ w.heap.size) (hgl : gs < wr.heap.size)
    (R : Rd wr w1 w2 gs eb eo A u.kids.length c2) (ho : w1.ownsRow wr.heap.size e 5 (.slice A u.kids.length c2) u.kids.length (cells u.kids))
    (hA : A = none → u.kids.length = 0 ∧ c2 = 0) (hAg : 0 < u.kids.length → A = some ⟨g, 0, none⟩) (hc : u.kids.length ≤ c2 ∧ c2 ≤ maxLen)
    (ho2 : w2.ownsRow w.heap.size TP 1 (.slice (some ⟨gs', 0, none⟩) (n + u.kids.length) c') (n + u.kids.length) (ptrs (r ++ spots g 0 u.kids)))
    (hp : gs' = gs ∨ w1.heap.size ≤ gs') : BR t w B TP w2 gs' (n + u.kids.length) c' (T ++ spots g 0 u.kids) (r ++ spots g 0 u.kids) := by
  have heT : ((eb, eo), u) ∈ T := h.bg.sub _ (by simp)
  obtain ⟨s1, s2, s3⟩ := h.bg.spot _ heT
  simp only at s1 s2 s3
  obtain ⟨hcs, hfz⟩ := h.bg.todo ((eb, eo), u) (by simp)
  have hge := h.gsb _ heT
  have hbe := h.b1 _ heT
  simp only at hge hbe
  have z1 := R.size1
  have z2 := R.size2
  have hlen := h.len
  have hbel := h.bel.size
  have hres : w.heap.size + 1 < wr.heap.size := World.block_lt_of_cell? _ _ h.res.c0
  obtain ⟨q1, q2⟩ := h.gs1
  have hg : 0 < u.kids.length → wr.heap.size ≤ g ∧ g < w1.heap.size := by
    intro h0
    have := ho.lt g (by rw [hAg h0]; rfl)
    omega
  have hbg := h.bg.step (w' := w2) (gs := gs) (g := g) (c := c2) (A := A) hB h.gsb (by omega)
    (fun p hp => World.cell?_of_block (R.heap p.block (by omega) (by omega) (by omega)))
    (fun b o h1 h2 h3 _ => R.cell b o h1 h2 h3) (fun b o h1 h2 _ => R.frozen b o h1 h2)
    (R.at3 s2 hge (hcs 3 _ rfl)) (R.at4 s2 hge (v := .slice u.addr u.kids.length u.cap) (hcs 4 _ rfl)) hc hA
    (fun h0 => by
      obtain ⟨g1, g2⟩ := hg h0
      refine ⟨hAg h0, g1, by omega, fun i v hi => ⟨fun j x hx => ?_, fun j => ?_⟩⟩
      · have hh := R.new g g2 (by omega) (by omega)
        have h5 := ho.cells (g := g) (by rw [hAg h0]; rfl) (i * 5 + j) x (cells_at u.kids i j v x hi hx)
        have hadd : (⟨g, 0, none⟩ : Addr).add (i * 5 + j) = ⟨g, i * 5 + j, none⟩ := by unfold Addr.add; split <;> simp_all
        rw [hadd] at h5
        exact (World.cell?_of_block hh).trans h5
      · have hh := R.new g g2 (by omega) (by omega)
        rw [hAg h0] at ho
        exact (World.frozen?_of_block hh).trans (ho.frozenAt _))
  refine ⟨hbg, List.mem_append.2 (.inl h.root), ho2, ?_, fun x hx => ?_, ?_, fun x hx => ?_, ?_, ?_, ?_⟩
  · rw [List.length_append, spots_length]
    simp only [List.length_append, List.length_cons, List.length_nil] at hlen
    omega
  · rcases List.mem_append.1 hx with hx | hx
    · have h6 := h.gsb x hx
      have h7 := (h.bg.spot x hx).2.1
      rcases hp with rfl | hp
      · exact h6
      · omega
    · obtain ⟨j, v, hj, rfl⟩ := (spots_mem g _ 0 x).1 hx
      have := hg (by have := (List.getElem?_eq_some_iff.1 hj).1; omega)
      show g ≠ gs'
      rcases hp with rfl | hp <;> omega
  · rcases hp with rfl | hp
    · exact ⟨q1, q2⟩
    · exact ⟨by omega, by omega⟩
  · rcases List.mem_append.1 hx with hx | hx
    · exact h.b1 x hx
    · obtain ⟨j, v, hj, rfl⟩ := (spots_mem g _ 0 x).1 hx
      have := hg (by have := (List.getElem?_eq_some_iff.1 hj).1; omega)
      show g ≠ w.heap.size + 1
      omega
  · have hh := R.heap (w.heap.size + 1) hres (by omega) (by omega)
    obtain ⟨d0, d1, d2, d3, d4, f0, f1, f2, f3, f4⟩ := h.res
    exact ⟨(World.cell?_of_block hh).trans d0, (World.cell?_of_block hh).trans d1, (World.cell?_of_block hh).trans d2, (World.cell?_of_block hh).trans d3, (World.cell?_of_block hh).trans d4,
      (World.frozen?_of_block hh).trans f0, (World.frozen?_of_block hh).trans f1, (World.frozen?_of_block hh).trans f2, (World.frozen?_of_block hh).trans f3, (World.frozen?_of_block hh).trans f4⟩
  · have b1 := (h.bel.setCell (p := ⟨eb, eo + 3, none⟩) s1 (.int .i64 0)).grown R.g1 (by rw [setCell_size]; omega) (fun k hk => by cases hk)
    exact (b1.setCell (p := ⟨eb, eo + 4, none⟩) s1 (.slice A u.kids.length c2)).grown R.g2 (by rw [setCell_size]; omega) (fun k hk => by injection hk; omega)
  · have := h.sum
    rw [List.map_append, manyL_append] at this ⊢
    rw [spots_snd]
    simp only [List.map_cons, List.map_nil, manyL] at this
    rw [many_eq] at this
    omega
theorem own_keep {w w' : World} {base : Nat} {e : TypeId} {size g n c : Nat} {xs : List Value} (h : w.ownsRow base e size (.slice (some ⟨g, 0, none⟩) n c) n xs) (hb : w'.heap[g]? = w.heap[g]?) : w'.ownsRow base e size (.slice (some ⟨g, 0, none⟩) n c) n xs := by
  refine ⟨h.1, ?_⟩
  rcases h.2 with h0 | ⟨g', cap, cur, hv, hb', hg, hrest⟩
  · exact .inl h0
  · refine .inr ⟨g', cap, cur, hv, hb', ?_, hrest⟩
    obtain rfl : g = g' := by
      injection hv with hA _ _
      injection hA with hA
      injection hA
    rw [hb]
    exact hg
/-- While a node's kids are put on the stack. -/
structure Pu (w wr w1 w2 : World) (TP gs eb eo : Nat) (A : Option Addr) (c2 n gs' c' g k : Nat) (r : List Sp) (u : Nd) : Prop where
  rd : Rd wr w1 w2 gs eb eo A u.kids.length c2
  own : w2.ownsRow w.heap.size TP 1 (.slice (some ⟨gs', 0, none⟩) (n + k) c') (n + k) (ptrs (r ++ spots g 0 (u.kids.take k)))
  at_ : gs' = gs ∨ w1.heap.size ≤ gs'
theorem Pu.start {w wr w1 : World} {TP gs eb eo : Nat} {A : Option Addr} {c2 n c g : Nat} {r : List Sp} {u : Nd} (ho : wr.ownsRow w.heap.size TP 1 (.slice (some ⟨gs, 0, none⟩) n c) n (ptrs r)) (hgl : gs < wr.heap.size) (hne : eb ≠ gs)
    (h1 : (wr.setCell ⟨eb, eo + 3, none⟩ (.int .i64 0)).grownBy w1 none) : Pu w wr w1 (w1.setCell ⟨eb, eo + 4, none⟩ (.slice A u.kids.length c2)) TP gs eb eo A c2 n gs c g 0 r u := by
  refine ⟨⟨h1, ⟨rfl, rfl, rfl, Nat.le_refl _, fun _ _ _ => rfl⟩⟩, ?_, .inl rfl⟩
  have h2 := own_keep (w' := w1.setCell ⟨eb, eo + 4, none⟩ (.slice A u.kids.length c2)) ho (by
    rw [Below.heap_setCell _ _ _ _ (fun h => hne h.symm), h1.block gs (by rw [setCell_size]; exact hgl) (by simp), Below.heap_setCell _ _ _ _ (fun h => hne h.symm)])
  simpa [spots] using h2
theorem Pu.step {w wr w1 w2 w3 : World} {TP gs eb eo : Nat} {A : Option Addr} {c2 n gs' c' g k gs3 c3 : Nat} {r : List Sp} {u y : Nd} {o : Obj} (h : Pu w wr w1 w2 TP gs eb eo A c2 n gs' c' g k r u) (hy : u.kids[k]? = some y)
    (ho : w3.ownsRow w.heap.size TP 1 (.slice (some ⟨gs3, 0, none⟩) (n + k + 1) c3) (n + k + 1) (ptrs (r ++ spots g 0 (u.kids.take k)) ++ [.pointer (some ⟨g, k * 5, none⟩)]))
    (hg : (w2.alloc o).grownBy w3 (some gs')) (hp : gs3 = gs' ∨ (w2.alloc o).heap.size ≤ gs3) : Pu w wr w1 w3 TP gs eb eo A c2 n gs3 c3 g (k + 1) r u := by
  have hk : k < u.kids.length := (List.getElem?_eq_some_iff.1 hy).1
  have z2 := h.rd.size2
  have zs : (w2.alloc o).heap.size = w2.heap.size + 1 := by simp
  have hat := h.at_
  refine ⟨⟨h.rd.g1, ?_⟩, ?_, ?_⟩
  · have g2 := h.rd.g2
    have hz := g2.size
    have hz3 := hg.size
    refine ⟨hg.os.trans g2.os, hg.tape.trans g2.tape, hg.output.trans g2.output, by omega, fun i hi hne => ?_⟩
    have hi1 : i < w1.heap.size := by rw [setCell_size] at hi; exact hi
    have hne' : i ≠ gs := fun h => hne (by rw [h])
    rw [hg.block i (by omega) (by intro hh; injection hh with hh; rcases hat with h5 | h5 <;> omega), heap_alloc_old _ _ (by omega)]
    exact g2.block i hi hne
  · have e1 : spots g 0 (u.kids.take (k + 1)) = spots g 0 (u.kids.take k) ++ [((g, k * 5), y)] := by
      rw [List.take_add_one, hy]
      simp only [Option.toList_some]
      rw [spots_snoc, List.length_take, Nat.min_eq_left (by omega), Nat.zero_add]
    rw [e1, ← List.append_assoc, ptrs_append]
    exact ho
  · rcases hp with rfl | hp
    · exact hat
    · exact .inr (by omega)
end NodT
namespace Go.Proofs.YtldedhfbpongmaaDoor
open Go.Instr Go.RowKit NodT
set_option linter.unusedVariables false
set_option maxHeartbeats 4000000 in
theorem Bare_any (t : Nd) (w : World) (B : Nat) (h : In w B t) (hB : B ≤ w.heap.size) (hm : many t ≤ 1000000) : Calls Tryd.prog 12 #[t.val] w (BarePost t w) := by
  obtain ⟨i0, hi, hz0, hz1, hz2⟩ := info_parts Tryd.infoPn
  have HI := Lib.hid hi
  have HZ := Lib.hid (And.intro hz0 (And.intro hz1 hz2))
  clear hi hz0 hz1 hz2
  obtain ⟨i1, hi, hz0, hz1, hz2⟩ := info_parts Tryd.infoNode
  have HI1 := Lib.hid hi
  have HZ1 := Lib.hid (And.intro hz0 (And.intro hz1 hz2))
  clear hi hz0 hz1 hz2
  have HS := Lib.hid (bare_start t w B h hB)
  clear h
  unfold Nd.val Nd.row
  go_enter Tryd.func12, Tryd.ntmps12
  go_wp2_with fail
  generalize hW : (((w.alloc (.cells #[.int .u8 t.kind, .string t.text, .int .i64 t.num, .int .i64 t.place, .slice t.addr t.kids.length t.cap] 25)).alloc (.cells #[.int .u8 0, .string ⟨#[]⟩, .int .i64 0, .int .i64 0, .slice none 0 0] 25)).alloc (.cells #[.pointer (some ⟨w.heap.size, 0, none⟩)] 45)) = W1 at *
  go_loopg [3] (many t) (fun gh v3 wr => ∃ (gs n c : Nat) (T pend : List Sp), gh = manyL (pend.map Prod.snd) ∧ v3 = .slice (some ⟨gs, 0, none⟩) n c ∧ BR t w B 45 wr gs n c T pend)
  case atStart => exact ⟨_, _, _, _, _, by simp [manyL], rfl, HS.out⟩
  case round =>
    clear HS hW
    obtain ⟨gs, n, c, T, pend, hgk, rfl, hT⟩ := hrel
    have HGK := Lib.hid hgk
    clear hgk
    cases n with
    | zero =>
      obtain rfl : pend = [] := List.eq_nil_of_length_eq_zero hT.len.symm
      obtain ⟨t1, hc1, _⟩ := hT.bg.whole t (w.heap.size, 0) hT.root
      have e0 : wr.cell? ⟨w.heap.size, 0, none⟩ = some (.int .u8 t1.kind) := hc1 0 _ rfl
      have e1 : wr.cell? ⟨w.heap.size, 1, none⟩ = some (.string t1.text) := by have := hc1 1 _ rfl; simpa using this
      have e2 : wr.cell? ⟨w.heap.size, 2, none⟩ = some (.int .i64 t1.num) := by have := hc1 2 _ rfl; simpa using this
      have e3 : wr.cell? ⟨w.heap.size, 3, none⟩ = some (.int .i64 t1.place) := by have := hc1 3 _ rfl; simpa using this
      have e4 : wr.cell? ⟨w.heap.size, 4, none⟩ = some (.slice t1.addr t1.kids.length t1.cap) := by have := hc1 4 _ rfl; simpa [Nd.row] using this
      obtain ⟨d0, d1, d2, d3, d4, f0, f1, f2, f3, f4⟩ := hT.res
      have HT := Lib.hid hT
      have HC1 := Lib.hid hc1
      clear hT hc1
      go_wp2_with fail
      refine bodyPost_ret (v := t1.val) (by rw [val_of_cs (p := (w.heap.size, 0)) (t := t1) (v0 := .int .u8 t1.kind) (v1 := .string t1.text) (v2 := .int .i64 t1.num) (v3 := .int .i64 t1.place) (v4 := .slice t1.addr t1.kids.length t1.cap) HC1.out e0 e1 e2 e3 e4]; simp [results, Tryd.results12, go_sem, d0, d1, d2, d3, d4]) rfl ?_
      show BarePost t w _ (put5 wr (w.heap.size + 1) (.int .u8 t1.kind) (.string t1.text) (.int .i64 t1.num) (.int .i64 t1.place) (.slice t1.addr t1.kids.length t1.cap))
      have hT := HT.out
      have hne : ∀ p : Addr, p.block ≠ w.heap.size + 1 → (put5 wr (w.heap.size + 1) (.int .u8 t1.kind) (.string t1.text) (.int .i64 t1.num) (.int .i64 t1.place) (.slice t1.addr t1.kids.length t1.cap)).cell? p = wr.cell? p := fun p hp => put5_cell wr _ _ _ _ _ _ p hp
      have hk := hT.bg.keep (w' := put5 wr (w.heap.size + 1) (.int .u8 t1.kind) (.string t1.text) (.int .i64 t1.num) (.int .i64 t1.place) (.slice t1.addr t1.kids.length t1.cap)) (by rw [put5_size]; omega) (fun p hp => hne p (by omega)) (fun x hx o => ⟨hne _ (hT.b1 x hx), by unfold put5; simp only [World.frozen?_setCell]⟩)
      obtain ⟨t2, g1, g2, g3, g4⟩ := hk.whole t (w.heap.size, 0) hT.root
      have hv : t2.val = t1.val := by
        rw [val_of_cs (p := (w.heap.size, 0)) (t := t1) HC1.out e0 e1 e2 e3 e4]
        refine val_of_cs (p := (w.heap.size, 0)) g1 ?_ ?_ ?_ ?_ ?_
        · exact (hne _ (by simp)).trans e0
        · exact (hne _ (by simp)).trans e1
        · exact (hne _ (by simp)).trans e2
        · exact (hne _ (by simp)).trans e3
        · exact (hne _ (by simp)).trans e4
      exact ⟨t2, by rw [hv], g2, g3, g4, put5_below hT.bel (by omega) _ _ _ _ _⟩
    | succ n =>
      obtain ⟨r, ⟨⟨eb, eo⟩, u⟩, rfl, hnr, k1, k2, hgl, hor, hpt⟩ := hT.top
      have heT : ((eb, eo), u) ∈ T := hT.bg.sub _ (by simp)
      obtain ⟨s1, s2, s3⟩ := hT.bg.spot _ heT
      obtain ⟨hcs, hfz⟩ := hT.bg.todo ((eb, eo), u) (by simp)
      have hge := hT.gsb _ heT
      have hin := hT.bg.tree _ heT
      simp only at hpt s1 s2 hge hin
      have c3 : wr.cell? ⟨eb, eo + 3, none⟩ = some (.int .i64 u.place) := hcs 3 _ rfl
      have c4 : wr.cell? ⟨eb, eo + 4, none⟩ = some (.slice u.addr u.kids.length u.cap) := hcs 4 _ rfl
      have z3 : wr.frozen? ⟨eb, eo + 3, none⟩ = false := hfz 3
      have z4 : wr.frozen? ⟨eb, eo + 4, none⟩ = false := hfz 4
      have hman : manyL ((r ++ [((eb, eo), u)]).map Prod.snd) = manyL (r.map Prod.snd) + many u := by rw [List.map_append, manyL_append]; simp [manyL]
      have hsum := hT.sum
      rw [hman] at hsum
      have hl1 := length_le_manyL (r.map Prod.snd)
      rw [List.length_map] at hl1
      have hkl := length_lt_many u
      have hnb : n ≤ 1000000 := by omega
      have hkb : u.kids.length ≤ 1000000 := by omega
      have hwz := hT.bel.size
      have HIN : Hid (In (wr.setCell ⟨eb, eo + 3, none⟩ (.int .i64 0)) B u) := hin.under ((Below.refl B wr).setCell (by show B ≤ eb; omega) _)
      have HHD : Hid (gk = manyL (r.map Prod.snd) + many u) := by show _ = _; rw [HGK.out, hman]
      have HT := Lib.hid hT
      have HOR := Lib.hid hor
      have HSUM := Lib.hid hsum
      have HNR := Lib.hid hnr
      clear hT hor hsum hl1 hkl hman hin hcs hfz heT HGK hnr
      unfold maxLen at k2
      go_wp2_with (at_builtin; refine wpList_append_own_any rfl (.const (.slice none 0 0)) (.tmp 28) 23 rfl wr.heap.size 25 i1 _ 5 64 Tryd.underlying23 HI1.out HZ1.out.1 HZ1.out.2.1 HZ1.out.2.2 rfl (by decide) (.slice none 0 0) 0 [] rfl ⟨rfl, .inl ⟨rfl, rfl⟩⟩ u.addr u.kids.length u.cap rfl HIN.out.fits.nil (cells u.kids) (cells_length _) (lies_news HIN.out.rows) (fun v hv => by obtain ⟨z, _, hz⟩ := cells_mem hv; exact cs_oneCell z v hz) ?c2 ?c3 ?c4 ?next)
      case c2 => unfold maxLen; omega
      case c3 => omega
      case next =>
        intro v' w1 hown hgr hiff
        obtain ⟨A, c2, rfl, hA, hAc, hAg⟩ : ∃ (A : Option Addr) (c2 : Nat), v' = .slice A u.kids.length c2 ∧ (A = none → u.kids.length = 0 ∧ c2 = 0) ∧ (u.kids.length ≤ c2 ∧ c2 ≤ maxLen) ∧ ∃ g, 0 < u.kids.length → A = some ⟨g, 0, none⟩ := by
          rcases hown.2 with ⟨h0, h1⟩ | ⟨g, cap, cur, h0, _, _, h1, h2, _⟩
          · exact ⟨none, 0, by rw [h0, h1], fun _ => ⟨h1, rfl⟩, ⟨by omega, by simp [maxLen]⟩, 0, fun h => by omega⟩
          · exact ⟨_, _, h0, (fun h => nomatch h), ⟨h1, h2⟩, g, fun _ => rfl⟩
        obtain ⟨g, hAg⟩ := hAg
        have hgr' : (wr.setCell ⟨eb, eo + 3, none⟩ (.int .i64 0)).grownBy w1 none := hgr
        have hb1 : Below (wr.setCell ⟨eb, eo + 3, none⟩ (.int .i64 0)).heap.size (wr.setCell ⟨eb, eo + 3, none⟩ (.int .i64 0)) w1 := (Below.refl _ _).grown hgr' (Nat.le_refl _) (fun k hk => by cases hk)
        have d4 : w1.cell? ⟨eb, eo + 4, none⟩ = some (.slice u.addr u.kids.length u.cap) := by
          rw [hb1.cell (by rw [setCell_size]; exact s2), World.cell?_setCell_other _ _ _ _ (by intro hh; injection hh; omega)]
          exact c4
        have y4 : w1.frozen? ⟨eb, eo + 4, none⟩ = false := by
          rw [hb1.frozen (by rw [setCell_size]; exact s2), World.frozen?_setCell]
          exact z4
        have d4' : ∀ v, (w1.setCell ⟨eb, eo + 4, none⟩ v).cell? ⟨eb, eo + 4, none⟩ = some v := fun v => World.cell?_setCell_same _ _ _ d4
        have hz1 : wr.heap.size ≤ w1.heap.size := by have := hgr'.size; rw [setCell_size] at this; exact this
        have HOWN := Lib.hid hown
        have HGR := Lib.hid hgr'
        have HA := Lib.hid hA
        have HAG := Lib.hid hAg
        have HC4 := Lib.hid c4
        clear hown hgr hgr' hiff hb1 hA hAg c3 c4 z3 z4 hpt
        have HC := Lib.hid hAc
        have hAc1 := hAc.1
        have hAc2 := hAc.2
        unfold maxLen at hAc2
        clear hAc
        have HP0 : Hid (Pu w wr w1 (w1.setCell ⟨eb, eo + 4, none⟩ (.slice A u.kids.length c2)) 45 gs eb eo A c2 n gs c g 0 r u) := Pu.start HOR.out hgl hge HGR.out
        go_wp2_with fail
        clear d4 d4' y4
        obtain ⟨wq, hwq⟩ : ∃ x, x = wr := ⟨_, rfl⟩
        subst hwq
        go_loopg [3, 37] u.kids.length (fun gh v3 v37 w2 => ∃ (k gs' c' : Nat), k ≤ u.kids.length ∧ gh = u.kids.length - k ∧ v3 = .slice (some ⟨gs', 0, none⟩) (n + k) c' ∧ v37 = .int .i64 k ∧ Pu w wq w1 w2 45 gs eb eo A c2 n gs' c' g k r u)
        case atStart => exact ⟨0, gs, c, by omega, by omega, rfl, rfl, HP0.out⟩
        case round =>
          obtain ⟨k, gs', c', hk, hgk, rfl, rfl, hP⟩ := hrel
          have HG2 := Lib.hid hgk
          clear hgk HP0
          by_cases hkk : k < u.kids.length
          · obtain ⟨y, hy⟩ : ∃ y, u.kids[k]? = some y := ⟨_, List.getElem?_eq_getElem hkk⟩
            have hAe := HAG.out (by omega)
            have d4 := hP.rd.at4 s2 hge HC4.out
            rw [hAe] at d4 ⊢
            have hlt2 : gs' < wr.heap.size := (hP.own.lt _ rfl).2
            have hwz2 : w.heap.size ≤ wr.heap.size := by have := hP.rd.size1; have := hP.rd.size2; omega
            have hng : ¬ gs' = wr.heap.size := by omega
            have HP := Lib.hid hP
            have HY := Lib.hid hy
            clear hP hy
            go_wp2_with (at_builtin; refine wpList_append_stack (P := Tryd.prog) (w := wr.alloc (.cells #[.pointer (some ⟨g, k * 5, none⟩)] 45)) rfl (.tmp 40) (.tmp 47) 46 ?_ w.heap.size 45 i0 (.pointer none) 1 8 ?_ ?_ ?_ ?_ ?_ ?_ ?_ gs' (n + k) c' (ptrs (r ++ spots g 0 (u.kids.take k))) ?_ ?_ (some ⟨wr.heap.size, 0, none⟩) 1 1 ?_ ?_ [.pointer (some ⟨g, k * 5, none⟩)] ?_ ?_ ?_ ?_ ?_ ?_ ?_)
            · rfl
            · exact Tryd.underlying46
            · exact HI.out
            · exact HZ.out.1
            · exact HZ.out.2.1
            · exact HZ.out.2.2
            · rfl
            · decide
            · rfl
            · exact own_keep HP.out.own (heap_alloc_old _ _ hlt2)
            · rfl
            · exact fun h => by cases h
            · rfl
            · intro ad had j x hx
              injection had with had
              subst had
              have hj : j = 0 := by have := (List.getElem?_eq_some_iff.1 hx).1; simp at this; exact this
              subst hj
              have hn := heap_alloc_new wr (.cells #[.pointer (some ⟨g, k * 5, none⟩)] 45)
              have hadd : (⟨wr.heap.size, 0, none⟩ : Addr).add 0 = ⟨wr.heap.size, 0, none⟩ := rfl
              rw [hadd]
              simp only [World.cell?, hn]
              simpa using hx
            · intro x hx
              obtain rfl := List.mem_singleton.1 hx
              rfl
            · unfold maxLen; omega
            · omega
            · simp; omega
            · intro g3 c3 w3 ho hg3 hp
              have hP' := Lib.hid (HP.out.step HY.out ho hg3 (by rcases hp with hp | hp; exact .inl hp; right; simpa using hp))
              clear ho hg3 hp d4
              go_wp2_with fail
              rw [← hAe]
              go_roundg (u.kids.length - (k + 1))
              case rel => exact ⟨k + 1, g3, c3, by omega, rfl, rfl, by go_num, hP'.out⟩
              case measure => rw [HG2.out]; omega
          · have hke : k = u.kids.length := by omega
            subst hke
            have HP := Lib.hid hP
            clear hP
            go_wp2_with fail
            have hput : u.kids.take u.kids.length = u.kids := List.take_length
            go_roundg (manyL (r.map Prod.snd) + manyL u.kids)
            case rel =>
              have hp := HP.out
              have ho2 := hp.own
              rw [hput] at ho2
              exact ⟨gs', n + u.kids.length, c', T ++ spots g 0 u.kids, r ++ spots g 0 u.kids, by rw [List.map_append, manyL_append, spots_snd], rfl, BR.next HT.out hB hgl hp.rd HOWN.out HA.out HAG.out HC.out ho2 hp.at_⟩
            case measure => rw [HHD.out, many_eq]; omega
end Go.Proofs.YtldedhfbpongmaaDoor
