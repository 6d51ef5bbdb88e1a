/- Copies of types as they come to be: types at spots, those still to be done on a stack. -/
import Derived.Test.YtfpjleabmemieaaGreatScoM
set_option maxRecDepth 100000
namespace ScoT
open Go Go.RowKit
set_option linter.unusedVariables false
/-- From a spot on these cells lie. -/
def CsAt (w : World) (p : Nat × Nat) (cs : List Value) : Prop := ∀ (j : Nat) (v : Value), cs[j]? = some v → w.cell? ⟨p.1, p.2 + j, none⟩ = some v
def bcs (t : Ty) (A : Option Addr) (c : Nat) : List Value := [.int .u8 t.kind, .string t.name, .slice A t.els.length c]
abbrev Sp := (Nat × Nat) × Ty
def Done (w : World) (T : List Sp) (e : Sp) : Prop := ∃ (A : Option Addr) (c : Nat), CsAt w e.1 (bcs e.2 A c) ∧ e.2.els.length ≤ c ∧ c ≤ maxLen ∧ (A = none → e.2.els.length = 0 ∧ c = 0) ∧
  (0 < e.2.els.length → ∃ g, A = some ⟨g, 0, none⟩ ∧ ∀ (i : Nat) (u : Ty), e.2.els[i]? = some u → ((g, i * 3), u) ∈ T)
/-- A block of so many cells of one type that nothing else shares. -/
def Shp (TY : TypeId) (w : World) (b n : Nat) : Prop := ∃ c, w.heap[b]? = some (.cells c TY (0, 0)) ∧ c.size = n
theorem Shp.keep {TY : TypeId} {w w' : World} {b n : Nat} (h : Shp TY w b n) (e : w'.heap[b]? = w.heap[b]?) : Shp TY w' b n := by
  obtain ⟨c, h1, h2⟩ := h
  exact ⟨c, e.trans h1, h2⟩
/-- The row of what is done lies in a block of its own, whose parent is told. -/
def OwnAt (TY : TypeId) (w : World) (T : List Sp) (par : Nat → Nat × Nat) (e : Sp) : Prop := ∃ g c u, w.cell? ⟨e.1.1, e.1.2 + 2, none⟩ = some (.slice (some ⟨g, 0, none⟩) e.2.els.length c) ∧ par g = e.1 ∧ e.1.1 < g ∧ e.2.els.length ≤ c ∧ c ≤ maxLen ∧ Shp TY w g (c * 3) ∧ ((g, 0), u) ∈ T
/-- The state of the copy: all spots T, those on the stack. -/
structure Bg (TY : TypeId) (w : World) (base : Nat) (S : Nat → Prop) (T pend : List Sp) : Prop where
  nodup : (T.map Prod.fst).Nodup
  pn : (pend.map Prod.fst).Nodup
  sub : ∀ e ∈ pend, e ∈ T
  spot : ∀ e ∈ T, base ≤ e.1.1 ∧ e.1.1 < w.heap.size ∧ e.1.2 % 3 = 0
  plain : ∀ e ∈ T, Plain w e.1.1
  tree : ∀ e ∈ T, In w S e.2
  todo : ∀ e ∈ pend, CsAt w e.1 e.2.cs ∧ ∀ j, w.frozen? ⟨e.1.1, e.1.2 + j, none⟩ = false
  done : ∀ e ∈ T, e ∉ pend → Done w T e
  own : ∃ par : Nat → Nat × Nat, ∀ e ∈ T, e ∉ pend → (e.2.els.length = 0 → w.cell? ⟨e.1.1, e.1.2 + 2, none⟩ = some (.slice none 0 0)) ∧ (0 < e.2.els.length → OwnAt TY w T par e)

theorem mem_fst {T : List Sp} (h : (T.map Prod.fst).Nodup) {p : Nat × Nat} {a b : Ty} (ha : (p, a) ∈ T) (hb : (p, b) ∈ T) : a = b := by
  induction T with
  | nil => simp at ha
  | cons x T ih =>
    simp only [List.map_cons, List.nodup_cons, List.mem_map, not_exists, not_and] at h
    rcases List.mem_cons.1 ha with rfl | ha' <;> rcases List.mem_cons.1 hb with hb' | hb'
    · injection hb' with _ h2; exact h2.symm
    · exact absurd rfl (h.1 (p, b) hb')
    · subst hb'; exact absurd rfl (h.1 (p, a) ha')
    · exact ih h.2 ha' hb'

/-- The spots of a row of kids. -/
def spots (g i : Nat) : List Ty → List Sp | [] => [] | u :: us => ((g, i * 3), u) :: spots g (i + 1) us
theorem spots_mem (g : Nat) (ks : List Ty) : ∀ (i : Nat) (e : Sp), e ∈ spots g i ks ↔ ∃ (j : Nat) (u : Ty), ks[j]? = some u ∧ e = ((g, (i + j) * 3), u) := by
  induction ks with
  | nil => simp [spots]
  | cons u us ih =>
    intro i e
    simp only [spots, List.mem_cons, ih]
    constructor
    · rintro (rfl | ⟨j, v, hj, rfl⟩)
      · exact ⟨0, u, rfl, rfl⟩
      · exact ⟨j + 1, v, by simpa using hj, by rw [show i + 1 + j = i + (j + 1) from by omega]⟩
    · rintro ⟨j, v, hj, rfl⟩
      cases j with
      | zero => simp at hj; exact .inl (by simp [hj])
      | succ j => exact .inr ⟨j, v, by simpa using hj, by rw [show i + 1 + j = i + (j + 1) from by omega]⟩
theorem spots_nodup (g : Nat) (ks : List Ty) : ∀ i : Nat, ((spots g i ks).map Prod.fst).Nodup := by
  induction ks with
  | nil => simp [spots]
  | cons u us ih =>
    intro i
    simp only [spots, List.map_cons, List.nodup_cons]
    refine ⟨fun h => ?_, ih _⟩
    obtain ⟨e, he, h1⟩ := List.mem_map.1 h
    obtain ⟨j, v, _, rfl⟩ := (spots_mem g us _ _).1 he
    simp at h1
    omega
theorem spots_length (g : Nat) (ks : List Ty) : ∀ i : Nat, (spots g i ks).length = ks.length := by
  induction ks with
  | nil => simp [spots]
  | cons u us ih => intro i; simp [spots, ih]
theorem spots_snd (g : Nat) (ks : List Ty) : ∀ i : Nat, (spots g i ks).map Prod.snd = ks := by
  induction ks with
  | nil => simp [spots]
  | cons u us ih => intro i; simp [spots, ih]
theorem spots_snoc (g : Nat) (ks : List Ty) (u : Ty) : ∀ i : Nat, spots g i (ks ++ [u]) = spots g i ks ++ [((g, (i + ks.length) * 3), u)] := by
  induction ks with
  | nil => intro i; simp [spots]
  | cons v vs ih => intro i; simp only [List.cons_append, spots, ih, List.length_cons]; rw [show i + 1 + vs.length = i + (vs.length + 1) from by omega]

theorem Done.more {w : World} {T T' : List Sp} {e : Sp} (h : Done w T e) (hs : ∀ x ∈ T, x ∈ T') : Done w T' e := by
  obtain ⟨A, c, h1, h2, h3, h4, h5⟩ := h
  exact ⟨A, c, h1, h2, h3, h4, fun h0 => by obtain ⟨g, h6, h7⟩ := h5 h0; exact ⟨g, h6, fun i u hi => hs _ (h7 i u hi)⟩⟩
theorem Done.keep {w w' : World} {T : List Sp} {e : Sp} (h : Done w T e) (hk : ∀ j, j < 3 → w'.cell? ⟨e.1.1, e.1.2 + j, none⟩ = w.cell? ⟨e.1.1, e.1.2 + j, none⟩) : Done w' T e := by
  obtain ⟨A, c, h1, h2, h3, h4, h5⟩ := h
  refine ⟨A, c, fun j v hv => ?_, h2, h3, h4, h5⟩
  have hj : j < 3 := (List.getElem?_eq_some_iff.1 hv).1
  rw [hk j hj]
  exact h1 j v hv
theorem CsAt.keep {w w' : World} {p : Nat × Nat} {cs : List Value} (h : CsAt w p cs) (hk : ∀ j, j < cs.length → w'.cell? ⟨p.1, p.2 + j, none⟩ = w.cell? ⟨p.1, p.2 + j, none⟩) : CsAt w' p cs := fun j v hv => by
  have hj : j < cs.length := (List.getElem?_eq_some_iff.1 hv).1
  rw [hk j hj]
  exact h j v hv

/-- One node done: its place nought, its kids copied to block g, these put on the stack. -/
theorem Bg.step {TY : TypeId} {w w' : World} {base gs g c : Nat} {S : Nat → Prop} {T r : List Sp} {e : Sp} {A : Option Addr} (h : Bg TY w base S T (r ++ [e]))
    (hgs : ∀ x ∈ T, x.1.1 ≠ gs) (hsz : w.heap.size ≤ w'.heap.size) (hlow : ∀ p : Addr, S p.block → w'.cell? p = w.cell? p) (hpl : ∀ b, base ≤ b → b < w.heap.size → b ≠ gs → Plain w b → Plain w' b)
    (hsh : ∀ b, base ≤ b → b < w.heap.size → b ≠ gs → ∀ n, Shp TY w b n → Shp TY w' b n)
    (hold : ∀ (b o : Nat), b < w.heap.size → b ≠ gs → ¬ (b = e.1.1 ∧ (o = e.1.2 + 1 ∨ o = e.1.2 + 2)) → base ≤ b → w'.cell? ⟨b, o, none⟩ = w.cell? ⟨b, o, none⟩)
    (hfr : ∀ (b o : Nat), b < w.heap.size → b ≠ gs → base ≤ b → w'.frozen? ⟨b, o, none⟩ = w.frozen? ⟨b, o, none⟩)
    (h3 : w'.cell? ⟨e.1.1, e.1.2 + 1, none⟩ = some (.string e.2.name)) (h4 : w'.cell? ⟨e.1.1, e.1.2 + 2, none⟩ = some (.slice A e.2.els.length c))
    (hc : e.2.els.length ≤ c ∧ c ≤ maxLen) (hA : A = none → e.2.els.length = 0 ∧ c = 0) (hz : e.2.els.length = 0 → A = none ∧ c = 0)
    (hnew : 0 < e.2.els.length → A = some ⟨g, 0, none⟩ ∧ w.heap.size ≤ g ∧ g < w'.heap.size ∧ Shp TY w' g (c * 3) ∧ ∀ (i : Nat) (u : Ty), e.2.els[i]? = some u → CsAt w' (g, i * 3) u.cs ∧ ∀ j, w'.frozen? ⟨g, i * 3 + j, none⟩ = false) :
    Bg TY w' base S (T ++ spots g 0 e.2.els) (r ++ spots g 0 e.2.els) := by
  obtain ⟨nodup, pn, sub, spot, plain, tree, todo, done, par, own⟩ := h
  have heT : e ∈ T := sub e (by simp)
  have hnk : ∀ x ∈ spots g 0 e.2.els, ∃ (j : Nat) (u : Ty), e.2.els[j]? = some u ∧ x = ((g, j * 3), u) ∧ w.heap.size ≤ g ∧ g < w'.heap.size ∧ Plain w' g ∧ CsAt w' (g, j * 3) u.cs ∧ ∀ k, w'.frozen? ⟨g, j * 3 + k, none⟩ = false := by
    intro x hx
    obtain ⟨j, u, hj, rfl⟩ := (spots_mem g _ 0 x).1 hx
    have hl : j < e.2.els.length := (List.getElem?_eq_some_iff.1 hj).1
    obtain ⟨_, h6, h7, h7p, h8⟩ := hnew (by omega)
    obtain ⟨h9, h10⟩ := h8 j u hj
    obtain ⟨qc, qh, _⟩ := h7p
    exact ⟨j, u, hj, by simp, h6, h7, ⟨qc, TY, qh⟩, h9, h10⟩
  rw [List.map_append, List.nodup_append] at pn
  obtain ⟨pr, _, pre⟩ := pn
  have hre : ∀ x ∈ r, x.1 ≠ e.1 := fun x hx => pre _ (List.mem_map_of_mem hx) _ (by simp)
  have hne : ∀ x ∈ T, x.1 ≠ e.1 → ∀ j, j < 3 → w'.cell? ⟨x.1.1, x.1.2 + j, none⟩ = w.cell? ⟨x.1.1, x.1.2 + j, none⟩ := by
    intro x hx hxe j hj
    obtain ⟨s1, s2, s3⟩ := spot x hx
    obtain ⟨s4, s5, s6⟩ := spot e heT
    refine hold _ _ s2 (hgs x hx) (fun hh => hxe ?_) s1
    obtain ⟨hb, ho⟩ := hh
    refine Prod.ext hb ?_
    omega
  refine ⟨?_, ?_, ?_, ?_, ?_, ?_, ?_, ?_, ?_⟩
  · rw [List.map_append, List.nodup_append]
    refine ⟨nodup, spots_nodup _ _ _, fun a ha b hb => ?_⟩
    obtain ⟨x, hx, rfl⟩ := List.mem_map.1 ha
    obtain ⟨y, hy, rfl⟩ := List.mem_map.1 hb
    obtain ⟨j, u, _, rfl, h6, _⟩ := hnk y hy
    have := (spot x hx).2.1
    intro he
    rw [he] at this
    simp at this
    omega
  · rw [List.map_append, List.nodup_append]
    refine ⟨pr, spots_nodup _ _ _, fun a ha b hb => ?_⟩
    obtain ⟨x, hx, rfl⟩ := List.mem_map.1 ha
    obtain ⟨y, hy, rfl⟩ := List.mem_map.1 hb
    obtain ⟨j, u, _, rfl, h6, _⟩ := hnk y hy
    have := (spot x (sub x (by simp [hx]))).2.1
    intro he
    rw [he] at this
    simp at this
    omega
  · intro x hx
    rcases List.mem_append.1 hx with hx | hx
    · exact List.mem_append.2 (.inl (sub x (by simp [hx])))
    · exact List.mem_append.2 (.inr hx)
  · intro x hx
    rcases List.mem_append.1 hx with hx | hx
    · obtain ⟨s1, s2, s3⟩ := spot x hx
      exact ⟨s1, by omega, s3⟩
    · obtain ⟨j, u, _, rfl, h6, h7, _⟩ := hnk x hx
      have := (spot e heT)
      exact ⟨by show base ≤ g; omega, h7, by show j * 3 % 3 = 0; omega⟩
  · intro x hx
    rcases List.mem_append.1 hx with hx | hx
    · exact hpl _ (spot x hx).1 (spot x hx).2.1 (hgs x hx) (plain x hx)
    · obtain ⟨j, u, _, rfl, _, _, h7p, _⟩ := hnk x hx
      exact h7p
  · intro x hx
    rcases List.mem_append.1 hx with hx | hx
    · exact (tree x hx).keep (fun _ hb => hb) hlow
    · obtain ⟨j, u, hj, rfl, _⟩ := hnk x hx
      exact ((tree e heT).kid hj).keep (fun _ hb => hb) hlow
  · intro x hx
    rcases List.mem_append.1 hx with hx | hx
    · have hxT := sub x (by simp [hx])
      obtain ⟨t1, t2⟩ := todo x (by simp [hx])
      refine ⟨t1.keep fun j hj => hne x hxT (hre x hx) j hj, fun j => ?_⟩
      rw [hfr _ _ (spot x hxT).2.1 (hgs x hxT) (spot x hxT).1]
      exact t2 j
    · obtain ⟨j, u, hj, rfl, _, _, _, h8, h9⟩ := hnk x hx
      exact ⟨h8, h9⟩
  · intro x hx hxn
    rcases List.mem_append.1 hx with hxT | hxS
    · by_cases hxe : x = e
      · subst hxe
        obtain ⟨t1, t2⟩ := todo x (by simp)
        obtain ⟨s4, s5, s6⟩ := spot x heT
        refine ⟨A, c, fun j v hv => ?_, hc.1, hc.2, hA, fun h0 => ⟨g, (hnew h0).1, fun i u hi => List.mem_append.2 (.inr ((spots_mem g _ 0 _).2 ⟨i, u, hi, by simp⟩))⟩⟩
        have hj : j < 3 := (List.getElem?_eq_some_iff.1 hv).1
        have hk : j < 1 → w'.cell? ⟨x.1.1, x.1.2 + j, none⟩ = w.cell? ⟨x.1.1, x.1.2 + j, none⟩ := fun hj3 => hold _ _ s5 (hgs x heT) (by omega) s4
        match j, hj, hv with
        | 0, _, hv => rw [hk (by omega)]; exact t1 0 v hv
        | 1, _, hv => rw [h3]; exact hv
        | 2, _, hv => rw [h4]; exact hv
      · have hxp : x ∉ r ++ [e] := by
          intro hh
          rcases List.mem_append.1 hh with hh | hh
          · exact hxn (List.mem_append.2 (.inl hh))
          · exact hxe (List.mem_singleton.1 hh)
        have hx1 : x.1 ≠ e.1 := fun he => hxe (by
          obtain ⟨p, a⟩ := x
          obtain ⟨q, b⟩ := e
          simp only at he
          subst he
          exact Prod.ext rfl (mem_fst nodup hxT heT))
        exact ((done x hxT hxp).keep fun j hj => hne x hxT hx1 j hj).more fun y hy => List.mem_append.2 (.inl hy)
    · exact absurd (List.mem_append.2 (.inr hxS)) hxn
  · refine ⟨fun k => if k = g ∧ w.heap.size ≤ g then e.1 else par k, fun x hx hxn => ?_⟩
    rcases List.mem_append.1 hx with hxT | hxS
    · by_cases hxe : x = e
      · subst hxe
        refine ⟨fun h0 => ?_, fun h0 => ?_⟩
        · obtain ⟨z1, z2⟩ := hz h0
          rw [h4, z1, z2, h0]
        obtain ⟨hA2, h6, h7, h7p, h8⟩ := hnew h0
        have hu0 : x.2.els[0]? = some (x.2.els[0]'h0) := List.getElem?_eq_getElem h0
        exact ⟨g, c, x.2.els[0]'h0, by rw [← hA2]; exact h4, if_pos ⟨rfl, h6⟩, by have := (spot x heT).2.1; omega, hc.1, hc.2, h7p, List.mem_append.2 (.inr ((spots_mem g _ 0 _).2 ⟨0, x.2.els[0]'h0, hu0, rfl⟩))⟩
      · have hxp : x ∉ r ++ [e] := by
          intro hh
          rcases List.mem_append.1 hh with hh | hh
          · exact hxn (List.mem_append.2 (.inl hh))
          · exact hxe (List.mem_singleton.1 hh)
        have hx1 : x.1 ≠ e.1 := fun he => hxe (by
          obtain ⟨p, a⟩ := x
          obtain ⟨q, b⟩ := e
          simp only at he
          subst he
          exact Prod.ext rfl (mem_fst nodup hxT heT))
        refine ⟨fun h0 => (hne x hxT hx1 2 (by omega)).trans ((own x hxT hxp).1 h0), fun h0 => ?_⟩
        obtain ⟨g1, c1, u1, o1, o2, o3, o4, o5, o6, o7⟩ := (own x hxT hxp).2 h0
        have hg1 := spot _ o7
        simp only at hg1
        refine ⟨g1, c1, u1, (hne x hxT hx1 2 (by omega)).trans o1, ?_, o3, o4, o5, hsh g1 hg1.1 hg1.2.1 (hgs _ o7) _ o6, List.mem_append.2 (.inl o7)⟩
        show (if g1 = g ∧ w.heap.size ≤ g then e.1 else par g1) = x.1
        rw [if_neg (by omega)]
        exact o2
    · exact absurd (List.mem_append.2 (.inr hxS)) hxn

theorem pick_list {α : Type} {P : Nat → α → Prop} : ∀ n : Nat, (∀ i, i < n → ∃ x, P i x) → ∃ xs : List α, xs.length = n ∧ ∀ (i : Nat) (x : α), xs[i]? = some x → P i x := by
  intro n
  induction n with
  | zero => intro _; exact ⟨[], rfl, by simp⟩
  | succ n ih =>
    intro h
    obtain ⟨xs, h1, h2⟩ := ih fun i hi => h i (by omega)
    obtain ⟨x, hx⟩ := h n (by omega)
    refine ⟨xs ++ [x], by simp [h1], fun i y hy => ?_⟩
    by_cases hi : i < n
    · rw [List.getElem?_append_left (by omega)] at hy
      exact h2 i y hy
    · have hl : i < (xs ++ [x]).length := (List.getElem?_eq_some_iff.1 hy).1
      simp [h1] at hl
      obtain rfl : i = n := by omega
      rw [List.getElem?_append_right (by omega)] at hy
      simp [h1] at hy
      subst hy
      exact hx
/-- When nothing is left to be done each spot holds a copy without places. -/
theorem Bg.whole {TY : TypeId} {w : World} {base : Nat} {S : Nat → Prop} {T : List Sp} (h : Bg TY w base S T []) : ∀ (t : Ty) (p : Nat × Nat), (p, t) ∈ T → ∃ t' : Ty, CsAt w p t'.cs ∧ In w (fun b => ∃ x ∈ T, x.1.1 = b) t' ∧ same t t' = true := by
  refine Ty.rose fun t ih p hp => ?_
  obtain ⟨A, c, h1, h2, h3, h4, h5⟩ := h.done _ hp (by simp)
  have hf := (h.tree _ hp).fits
  simp only at h1 h2 h4 h5 hf
  by_cases h0 : 0 < t.els.length
  · obtain ⟨g, rfl, hg⟩ := h5 h0
    obtain ⟨xs, hl, hx⟩ := pick_list (P := fun i x => CsAt w (g, i * 3) x.cs ∧ In w (fun b => ∃ x ∈ T, x.1.1 = b) x ∧ (∀ u, t.els[i]? = some u → same u x = true)) t.els.length (fun i hi => by
      have hu : t.els[i]? = some t.els[i] := List.getElem?_eq_getElem hi
      obtain ⟨t', q1, q2, q3⟩ := ih t.els[i] (List.getElem_mem hi) (g, i * 3) (hg i _ hu)
      exact ⟨t', q1, q2, fun u hu' => by rw [hu] at hu'; injection hu' with hu'; rw [← hu']; exact q3⟩)
    have hg0 := hg 0 t.els[0] (List.getElem?_eq_getElem h0)
    refine ⟨.mk t.kind t.name (some ⟨g, 0, none⟩) c xs, fun j v hv => h1 j v ?_, .mk _ ⟨hf.kind, hf.name, by show xs.length ≤ c; omega, h3, by intro hh; cases hh⟩ ?_ ?_, ?_⟩
    · unfold bcs; rw [← hl]; exact hv
    · intro _
      refine ⟨g, 0, rfl, ⟨_, hg0, rfl⟩, fun i u hi j v hv => ?_⟩
      have := (hx i u hi).1 j v hv
      simpa using this
    · intro i u hi
      exact (hx i u hi).2.1
    · rw [same_eq]
      have : sameL t.els xs = true := by
        rw [sameL_iff]
        exact ⟨hl.symm, fun i a b ha hb => (hx i b hb).2.2 a ha⟩
      simp [Ty.kind, Ty.name, Ty.els] at this ⊢
      exact this
  · have hk : t.els = [] := List.eq_nil_of_length_eq_zero (by omega)
    refine ⟨.mk t.kind t.name A c [], fun j v hv => h1 j v ?_, .mk _ ⟨hf.kind, hf.name, Nat.zero_le _, h3, fun hh => ⟨rfl, (h4 hh).2⟩⟩ (fun hh => absurd hh (Nat.lt_irrefl _)) (fun i u hi => by simp [Ty.els] at hi), ?_⟩
    · unfold bcs; rw [hk]; exact hv
    · rw [same_eq, hk]; simp [sameL, Ty.kind, Ty.name, Ty.els]
end ScoT
