/- A copy under way: what holds between two rounds. -/
import Derived.Test.YtfpjleabmemieaaGreatScoU
set_option maxRecDepth 100000
namespace ScoT
open Go Go.RowKit
set_option linter.unusedVariables false
structure Cp (TT TY : TypeId) (t : Ty) (w : World) (S : Nat → Prop) (stk : List Task) (T : List Sp) (gs c : Nat) (es : Array MapEntry) (cl : Nat) (W : World) : Prop where
  bg : Bg TY W w.heap.size S T (pendOf stk)
  root : ((w.heap.size, 0), t) ∈ T
  own : W.ownsRow w.heap.size TT 3 (.slice (some ⟨gs, 0, none⟩) stk.length c) stk.length (tasksC stk)
  gsT : ∀ x ∈ T, x.1.1 ≠ gs
  gs3 : w.heap.size + 3 ≤ gs
  apT : ∀ x ∈ T, x.1.1 ≠ w.heap.size + 1 ∧ x.1.1 ≠ w.heap.size + 2
  map : W.heap[w.heap.size + 2]? = some (.map es cl)
  keys : KeysAre es.toList (keysOf stk)
  res : W.heap[w.heap.size + 1]? = some (.cells #[.int .u8 0, .string ⟨#[]⟩, .slice none 0 0] TY)
  bel : Below w.heap.size w W
  rows : ∀ q el, Task.row q el ∈ stk → S q.1 ∧ ∃ u, In w S u ∧ u.els = el ∧ u.addr = some ⟨q.1, q.2.1, none⟩ ∧ q.2.2 = el.length ∧ 0 < el.length
  ord : Ordered stk
  wk : work stk ≤ 2 * weight t
  nd : (keysOf stk).Nodup
section
variable {TT TY : TypeId} {t : Ty} {w : World} {S : Nat → Prop} {stk r : List Task} {T : List Sp} {gs c : Nat} {es : Array MapEntry} {cl : Nat} {W W' : World}
/-- The top's three cells. -/
theorem Cp.top {x : Task} (h : Cp TT TY t w S (r ++ [x]) T gs c es cl W) : ∀ j v, (taskC x)[j]? = some v → W.cell? ⟨gs, r.length * 3 + j, none⟩ = some v := by
  intro j v hv
  have hj : j < 3 := by have := (List.getElem?_eq_some_iff.1 hv).1; rw [taskC_len] at this; exact this
  have h1 := h.own.cells (g := gs) rfl (r.length * 3 + j) v (by
    rw [tasksC_append, List.getElem?_append_right (by rw [tasksC_len]; omega), tasksC_len, Nat.add_sub_cancel_left]
    simpa [tasksC] using hv)
  have hadd : (⟨gs, 0, none⟩ : Addr).add (r.length * 3 + j) = ⟨gs, r.length * 3 + j, none⟩ := by unfold Addr.add; split <;> simp_all
  rwa [hadd] at h1
/-- A row's task taken off, its key struck. -/
theorem Cp.popRow {q : Nat × Nat × Nat} {el : List Ty} (h : Cp TT TY t w S (r ++ [.row q el]) T gs c es cl W) {o : Obj} {es' : Array MapEntry} {cl' : Nat} (hk : KeysAre es'.toList (keysOf r)) (hs : ∀ b, S b → b < w.heap.size) :
    Cp TT TY t w S r T gs c es' cl' ((W.alloc o).putObj (w.heap.size + 2) (.map es' cl')) := by
  obtain ⟨bg, root, own, gsT, gs3, apT, map, keys, res, bel, rows, ord, wk, nd⟩ := h
  have hm : w.heap.size + 2 < W.heap.size := (Array.getElem?_eq_some_iff.1 map).1
  have hh : ∀ k, k < W.heap.size → k ≠ w.heap.size + 2 → ((W.alloc o).putObj (w.heap.size + 2) (.map es' cl')).heap[k]? = W.heap[k]? := fun k h1 h2 => by
    rw [World.putObj_heap_other h2, Below.heap_alloc _ _ _ h1]
  have hgs : gs < W.heap.size := (own.lt gs rfl).2
  have hp : pendOf (r ++ [Task.row q el]) = pendOf r := by rw [pendOf_append]; simp [pendOf]
  rw [hp] at bg
  obtain ⟨b1, b2, b3, b4, b5, b6, b7, b8, par, b9⟩ := bg
  refine ⟨⟨b1, b2, b3, fun e he => ?_, fun e he => ?_, fun e he => ?_, fun e he => ?_, fun e he hn => ?_, par, fun e he hn => ?_⟩, root, ?_, gsT, gs3, apT, ?_, hk, ?_, ?_, fun q' el' hq => rows q' el' (by simp [hq]), ord.left.1, ?_, ?_⟩
  · rw [World.putObj_size]; simp; have := b4 e he; omega
  · exact (b5 e he).keep (hh _ (b4 e he).2.1 (apT e he).2)
  · exact (b6 e he).keep (fun _ hb => hb) (fun p hp => World.cell?_of_block (hh _ (by have := hs _ hp; omega) (by have := hs _ hp; omega)))
  · obtain ⟨q1, q2⟩ := b7 e he
    have hb := hh _ (b4 e (b3 e he)).2.1 (apT e (b3 e he)).2
    exact ⟨q1.keep fun j _ => World.cell?_of_block (a := ⟨e.1.1, e.1.2 + j, none⟩) hb, fun j => (World.frozen?_of_block (a := ⟨e.1.1, e.1.2 + j, none⟩) hb).trans (q2 j)⟩
  · have hb := hh _ (b4 e he).2.1 (apT e he).2
    exact (b8 e he hn).keep fun j _ => World.cell?_of_block (a := ⟨e.1.1, e.1.2 + j, none⟩) hb
  · have hb := hh _ (b4 e he).2.1 (apT e he).2
    refine ⟨fun h0 => (World.cell?_of_block (a := ⟨e.1.1, e.1.2 + 2, none⟩) hb).trans ((b9 e he hn).1 h0), fun h0 => ?_⟩
    obtain ⟨g1, c1, u1, o1, o2, o3, o4, o5, o6, o7⟩ := (b9 e he hn).2 h0
    exact ⟨g1, c1, u1, (World.cell?_of_block (a := ⟨e.1.1, e.1.2 + 2, none⟩) hb).trans o1, o2, o3, o4, o5, o6.keep (hh _ (b4 _ o7).2.1 (apT _ o7).2), o7⟩
  · rw [List.length_append, List.length_singleton, tasksC_append] at own
    refine row_keep (ownsRow_pop (tasksC_len r) own) fun b hb => ?_
    obtain rfl : gs = b := by simpa [Value.ownBlock] using hb
    exact hh _ hgs (by omega)
  · exact World.putObj_heap_same (by simp; omega)
  · rw [hh _ (by omega) (by omega)]; exact res
  · have b1 : Below w.heap.size w (W.alloc o) := bel.alloc bel.size o
    exact ⟨b1.os, b1.tape, b1.output, by rw [World.putObj_size]; exact b1.size, fun k hk => (World.putObj_heap_other (by omega)).trans (b1.block k hk)⟩
  · rw [work_append] at wk; omega
  · rw [keysOf_append] at nd; exact (List.nodup_append.1 nd).1
theorem new_pend {e : Sp} {g : Nat} {new : List Task} (hn : (new = [] ∧ e.2.els = []) ∨ (0 < e.2.els.length ∧ ∃ rb ro, e.2.addr = some ⟨rb, ro, none⟩ ∧ new = .row (rb, ro, e.2.els.length) e.2.els :: kidsT g 0 e.2.els)) : pendOf new = spots g 0 e.2.els ∧ Ordered new ∧ work new ≤ 1 + 2 * wsum e.2.els := by
  rcases hn with ⟨rfl, h⟩ | ⟨_, rb, ro, _, rfl⟩
  · rw [h]; exact ⟨rfl, trivial, by simp [work]⟩
  · refine ⟨kidsT_pend _ _ _, ⟨fun x hx => ?_, ordered_kids _ _ _⟩, by simp only [work, kidsT_work]; omega⟩
    rw [kidsT_pend] at hx
    obtain ⟨j, u, hj, rfl⟩ := (spots_mem g _ 0 x).1 hx
    exact wsum_mem (List.mem_of_getElem? hj)
/-- The key of a type whose turn it is is none of those below. -/
theorem Cp.fresh {e : Sp} (h : Cp TT TY t w S (r ++ [.spot e]) T gs c es cl W) (hlow : ∀ b, S b → b < w.heap.size) {rb ro : Nat} (ha : e.2.addr = some ⟨rb, ro, none⟩) : (rb, ro, e.2.els.length) ∉ keysOf r := by
  intro hk
  obtain ⟨el, hel⟩ := mem_keys.1 hk
  obtain ⟨_, u, hu, hue, hua, hul, _⟩ := h.rows _ _ (List.mem_append_left _ hel)
  have heT : e ∈ T := h.bg.sub e (by rw [pendOf_append]; simp [pendOf])
  have he : In w S e.2 := (h.bg.tree e heT).keep (fun _ hb => hb) (fun p hp => (h.bel.cell (hlow _ hp)).symm)
  have h1 : e.2.els = u.els := els_unique he hu (by rw [ha, hua]) (by rw [hue]; exact hul)
  have h2 := h.ord.left.2 _ _ hel e (by simp [pendOf])
  rw [weight_eq, h1, hue] at h2
  omega
theorem Cp.spotDone {e : Sp} (h : Cp TT TY t w S (r ++ [.spot e]) T gs c es cl W) (hS : ∀ b, S b → b < w.heap.size) {g c' gs' c2 cl' : Nat} {A' : Option Addr} {es' : Array MapEntry} {new : List Task}
    (hn : (new = [] ∧ e.2.els = []) ∨ (0 < e.2.els.length ∧ ∃ rb ro, e.2.addr = some ⟨rb, ro, none⟩ ∧ new = .row (rb, ro, e.2.els.length) e.2.els :: kidsT g 0 e.2.els))
    (hsz : W.heap.size ≤ W'.heap.size) (hcalm : W'.os = W.os ∧ W'.tape = W.tape ∧ W'.output = W.output) (hout : ∀ k, k < W.heap.size → k ≠ w.heap.size + 2 → k ≠ e.1.1 → k ≠ gs → W'.heap[k]? = W.heap[k]?)
    (hcell : ∀ x, x ≠ e.1.2 + 1 → x ≠ e.1.2 + 2 → W'.cell? ⟨e.1.1, x, none⟩ = W.cell? ⟨e.1.1, x, none⟩) (hfro : ∀ x, W'.frozen? ⟨e.1.1, x, none⟩ = W.frozen? ⟨e.1.1, x, none⟩) (hpl : Plain W e.1.1 → Plain W' e.1.1) (hsh : ∀ n, Shp TY W e.1.1 n → Shp TY W' e.1.1 n)
    (h3 : W'.cell? ⟨e.1.1, e.1.2 + 1, none⟩ = some (.string e.2.name)) (h4 : W'.cell? ⟨e.1.1, e.1.2 + 2, none⟩ = some (.slice A' e.2.els.length c')) (hc' : e.2.els.length ≤ c' ∧ c' ≤ maxLen) (hA : A' = none → e.2.els.length = 0 ∧ c' = 0) (hz : e.2.els.length = 0 → A' = none ∧ c' = 0)
    (hnew : 0 < e.2.els.length → A' = some ⟨g, 0, none⟩ ∧ W.heap.size ≤ g ∧ g < W'.heap.size ∧ Shp TY W' g (c' * 3) ∧ ∀ (i : Nat) (u : Ty), e.2.els[i]? = some u → CsAt W' (g, i * 3) u.cs ∧ ∀ j, W'.frozen? ⟨g, i * 3 + j, none⟩ = false)
    (hmap : W'.heap[w.heap.size + 2]? = some (.map es' cl')) (hkey : KeysAre es'.toList (keysOf (r ++ new)))
    (hown : W'.ownsRow w.heap.size TT 3 (.slice (some ⟨gs', 0, none⟩) (r ++ new).length c2) (r ++ new).length (tasksC (r ++ new))) (hgs : gs' = gs ∨ W.heap.size ≤ gs') (hgg : 0 < e.2.els.length → gs' ≠ g) :
    Cp TT TY t w S (r ++ new) (T ++ spots g 0 e.2.els) gs' c2 es' cl' W' := by
  obtain ⟨np, no, nw⟩ := new_pend hn
  have hfresh := fun rb ro ha => h.fresh hS (rb := rb) (ro := ro) ha
  obtain ⟨bg, root, own, gsT, gs3, apT, map, keys, res, bel, rows, ord, wk, nd⟩ := h
  have hpe : pendOf (r ++ [Task.spot e]) = pendOf r ++ [e] := by rw [pendOf_append]; simp [pendOf]
  rw [hpe] at bg
  have heT : e ∈ T := bg.sub e (by simp)
  have hsp := bg.spot e heT
  have hgsl : gs < W.heap.size := (own.lt gs rfl).2
  have hm : w.heap.size + 2 < W.heap.size := (Array.getElem?_eq_some_iff.1 map).1
  have hbe : e.1.1 ≠ w.heap.size + 2 := (apT e heT).2
  have hks : ∀ x ∈ spots g 0 e.2.els, W.heap.size ≤ x.1.1 ∧ x.1.1 = g ∧ 0 < e.2.els.length := by
    intro x hx
    obtain ⟨j, u, hj, rfl⟩ := (spots_mem g _ 0 x).1 hx
    have hl : 0 < e.2.els.length := by have := (List.getElem?_eq_some_iff.1 hj).1; omega
    exact ⟨(hnew hl).2.1, rfl, hl⟩
  refine ⟨?_, List.mem_append_left _ root, hown, fun x hx => ?_, ?_, fun x hx => ?_, hmap, hkey, ?_, ?_, fun q el hq => ?_, ?_, ?_, ?_⟩
  · rw [pendOf_append, np]
    refine bg.step gsT hsz (fun p hp => World.cell?_of_block (hout _ (by have := hS _ hp; omega) (by have := hS _ hp; omega) (by have := hS _ hp; omega) (by have := hS _ hp; omega)))
      (fun b h1 h2 h3' h5 => ?_) (fun b h1 h2 h3' n h5 => ?_) (fun b o h1 h2 h3' h5 => ?_) (fun b o h1 h2 h5 => ?_) h3 h4 hc' hA hz hnew
    · by_cases e1 : b = e.1.1
      · subst e1; exact hpl h5
      · by_cases e2 : b = w.heap.size + 2
        · subst e2; obtain ⟨cc, tt, h6⟩ := h5; rw [map] at h6; cases h6
        · exact h5.keep (hout b h2 e2 e1 h3')
    · by_cases e1 : b = e.1.1
      · subst e1; exact hsh n h5
      · by_cases e2 : b = w.heap.size + 2
        · subst e2; obtain ⟨cc, h6, _⟩ := h5; rw [map] at h6; cases h6
        · exact h5.keep (hout b h2 e2 e1 h3')
    · by_cases e1 : b = e.1.1
      · subst e1; exact hcell o (fun hh => h3' ⟨rfl, .inl hh⟩) (fun hh => h3' ⟨rfl, .inr hh⟩)
      · by_cases e2 : b = w.heap.size + 2
        · subst e2; simp [World.cell?, map, hmap]
        · exact World.cell?_of_block (hout b h1 e2 e1 h2)
    · by_cases e1 : b = e.1.1
      · subst e1; exact hfro o
      · by_cases e2 : b = w.heap.size + 2
        · subst e2; simp [World.frozen?, map, hmap]
        · exact World.frozen?_of_block (a := ⟨b, o, none⟩) (hout b h1 e2 e1 h2)
  · rcases List.mem_append.1 hx with hx | hx
    · rcases hgs with rfl | hgs
      · exact gsT x hx
      · have := (bg.spot x hx).2.1; omega
    · obtain ⟨q1, q2, q3⟩ := hks x hx
      rw [q2]; exact fun hh => hgg q3 hh.symm
  · rcases hgs with rfl | hgs
    · exact gs3
    · omega
  · rcases List.mem_append.1 hx with hx | hx
    · exact apT x hx
    · obtain ⟨q1, q2, q3⟩ := hks x hx
      omega
  · rw [hout _ (by omega) (by omega) (fun hh => (apT e heT).1 hh.symm) (by omega)]; exact res
  · exact ⟨hcalm.1.trans bel.os, hcalm.2.1.trans bel.tape, hcalm.2.2.trans bel.output, Nat.le_trans bel.size hsz, fun k hk => (hout k (by omega) (by omega) (by omega) (by omega)).trans (bel.block k hk)⟩
  · rcases List.mem_append.1 hq with hq | hq
    · exact rows q el (by simp [hq])
    · rcases hn with ⟨rfl, _⟩ | ⟨hl, rb, ro, ha, rfl⟩
      · cases hq
      · rcases List.mem_cons.1 hq with hq | hq
        · injection hq with h1 h2
          subst h1 h2
          have hIn : In w S e.2 := (bg.tree e heT).keep (fun _ hb => hb) (fun p hp => (bel.cell (hS _ hp)).symm)
          obtain ⟨b0, o0, hb0, hSb, _⟩ := hIn.rows hl
          rw [ha] at hb0
          injection hb0 with hb0
          injection hb0 with e1 e2 _
          subst e1
          exact ⟨hSb, e.2, hIn, rfl, ha, rfl, hl⟩
        · unfold kidsT at hq
          obtain ⟨x, _, hx⟩ := List.mem_map.1 hq
          cases hx
  · refine ord.left.1.append no fun q el hq x hx => ?_
    have h1 := ord.left.2 q el hq e (by simp [pendOf])
    rw [np] at hx
    obtain ⟨j, u, hj, rfl⟩ := (spots_mem g _ 0 x).1 hx
    have h2 := wsum_mem (List.mem_of_getElem? hj)
    have h5 := weight_eq e.2
    show weight u ≤ _
    omega
  · rw [work_append] at wk ⊢
    have h5 := weight_eq e.2
    simp only [work] at wk
    omega
  · rw [keysOf_append] at nd ⊢
    simp only [keysOf, List.append_nil] at nd
    rcases hn with ⟨rfl, _⟩ | ⟨hl, rb, ro, ha, rfl⟩
    · simpa [keysOf] using nd
    · simp only [keysOf, kidsT_keys]
      rw [List.nodup_append]
      exact ⟨nd, by simp, fun a ha' b hb => by rintro rfl; simp at hb; subst hb; exact hfresh rb ro ha ha'⟩
end
end ScoT
