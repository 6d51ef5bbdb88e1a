/- What holds when a copy is done: it is the same, and its rows lie apart. -/
import Derived.Test.YtfpjleabmemieaaGreatScoR
set_option maxRecDepth 100000
namespace ScoT
open Go Go.RowKit
set_option linter.unusedVariables false
/-- A block below a spot, by its parents. -/
inductive Rch (par : Nat → Nat × Nat) (p : Nat × Nat) : Nat → Prop
  | one {g : Nat} (h : par g = p) (hl : p.1 < g) : Rch par p g
  | more {g g' i : Nat} (h : par g = (g', i)) (hl : g' < g) (r : Rch par p g') : Rch par p g
theorem Rch.lt {par : Nat → Nat × Nat} {p : Nat × Nat} {g : Nat} (h : Rch par p g) : p.1 < g := by
  induction h with
  | one h hl => exact hl
  | more h hl r ih => omega
theorem Rch.uniq {par : Nat → Nat × Nat} {p q : Nat × Nat} {g : Nat} (h : Rch par p g) (k : Rch par q g) (he : p.1 = q.1) : p = q := by
  induction h with
  | one h hl =>
    cases k with
    | one h' hl' => exact h.symm.trans h'
    | more h' hl' r' =>
      rw [h'] at h
      have := r'.lt
      have h1 := congrArg Prod.fst h
      simp only at h1
      omega
  | more h hl r ih =>
    cases k with
    | one h' hl' =>
      rw [h] at h'
      have := r.lt
      have h1 := congrArg Prod.fst h'
      simp only at h1
      omega
    | more h' hl' r' =>
      rw [h] at h'
      injection h' with h1 h2
      subst h1
      exact ih r'
theorem Rch.up {par : Nat → Nat × Nat} {p : Nat × Nat} {g k b : Nat} (h : Rch par (g, k) b) (hp : par g = p) (hl : p.1 < g) : Rch par p b := by
  induction h with
  | one h hl' => exact .more h hl' (.one hp hl)
  | more h hl' r ih => exact .more h hl' ih
theorem nodup_kids (par : Nat → Nat × Nat) (g : Nat) : ∀ (xs : List Ty) (i : Nat), (∀ (j : Nat) (x : Ty), xs[j]? = some x → (rowBs (subs x)).Nodup ∧ ∀ b ∈ rowBs (subs x), Rch par (g, (i + j) * 3) b) →
    (rowBs (subsL xs)).Nodup ∧ ∀ b ∈ rowBs (subsL xs), ∃ j, i ≤ j ∧ Rch par (g, j * 3) b := by
  intro xs
  induction xs with
  | nil => intro i _; exact ⟨by simp [subsL, rowBs], by simp [subsL, rowBs]⟩
  | cons x xs ih =>
    intro i h
    obtain ⟨h1, h2⟩ := ih (i + 1) fun j y hj => by
      have := h (j + 1) y (by simpa using hj)
      rw [show i + 1 + j = i + (j + 1) by omega]
      exact this
    obtain ⟨h3, h4⟩ := h 0 x rfl
    simp only [subsL, rowBs_append]
    refine ⟨List.nodup_append.2 ⟨h3, h1, fun a ha b hb hab => ?_⟩, fun b hb => ?_⟩
    · subst hab
      obtain ⟨j, hj, hr⟩ := h2 a hb
      have := (h4 a ha).uniq hr rfl
      injection this with _ this
      omega
    · rcases List.mem_append.1 hb with hb | hb
      · exact ⟨i, Nat.le_refl _, by simpa using h4 b hb⟩
      · obtain ⟨j, hj, hr⟩ := h2 b hb
        exact ⟨j, by omega, hr⟩
theorem row_of_cells {w : World} {TY : TypeId} {base g n c : Nat} {xs : List Ty} (hb : base ≤ g) (hs : Shp TY w g (c * 3)) (hn : n ≤ c) (hc : c ≤ maxLen) (hl : xs.length = n) (hx : ∀ (i : Nat) (x : Ty), xs[i]? = some x → CsAt w (g, i * 3) x.cs) : w.ownsRow base TY 3 (.slice (some ⟨g, 0, none⟩) n c) n (tcells xs) := by
  obtain ⟨cur, h1, h2⟩ := hs
  refine ⟨by rw [tcells_length, hl], .inr ⟨g, c, cur, rfl, hb, h1, hn, hc, h2, ?_⟩⟩
  apply List.ext_getElem?
  intro k
  by_cases hk : k < n * 3
  · rw [List.getElem?_take_of_lt hk]
    obtain ⟨x, hx1⟩ : ∃ x, xs[k / 3]? = some x := ⟨_, List.getElem?_eq_getElem (by omega)⟩
    have hc3 : x.cs.length = 3 := rfl
    obtain ⟨v, hv⟩ : ∃ v, x.cs[k % 3]? = some v := ⟨_, List.getElem?_eq_getElem (by rw [hc3]; omega)⟩
    have e1 := tcells_at xs (k / 3) (k % 3) x v hx1 hv
    have e2 := hx (k / 3) x hx1 (k % 3) v hv
    simp only at e2
    have e : k / 3 * 3 + k % 3 = k := by omega
    rw [e] at e1 e2
    rw [e1, ← e2, cell_of_row w g k _ TY (0, 0) h1]
    simp
  · rw [List.getElem?_eq_none (by simp; omega), List.getElem?_eq_none (by rw [tcells_length]; omega)]
/-- When nothing is left to be done each spot holds a copy, whose rows lie apart. -/
theorem Bg.whole2 {TY : TypeId} {w : World} {base : Nat} {S : Nat → Prop} {T : List Sp} (h : Bg TY w base S T []) : ∃ par : Nat → Nat × Nat, ∀ (t : Ty) (p : Nat × Nat), (p, t) ∈ T → ∃ t' : Ty, CsAt w p t'.cs ∧ In w (fun b => ∃ x ∈ T, x.1.1 = b) t' ∧ same t t' = true ∧ Apt TY w base t' ∧ ∀ b ∈ rowBs (subs t'), Rch par p b ∧ ∃ x ∈ T, x.1.1 = b := by
  obtain ⟨par, own⟩ := h.own
  refine ⟨par, ?_⟩
  refine Ty.rose fun t ih p hp => ?_
  obtain ⟨A, c, h1, h2, h3, h4, h5⟩ := h.done _ hp (by simp)
  have hf := (h.tree _ hp).fits
  obtain ⟨hz, hw⟩ := own _ hp (by simp)
  simp only at h1 h2 h4 h5 hf hz hw
  have hA2 : w.cell? ⟨p.1, p.2 + 2, none⟩ = some (.slice A t.els.length c) := h1 2 _ rfl
  by_cases h0 : 0 < t.els.length
  · obtain ⟨g, rfl, hg⟩ := h5 h0
    obtain ⟨g1, c1, u1, o1, o2, o3, o4, o5, o6, o7⟩ := hw h0
    simp only at o1 o2 o3 o4
    rw [hA2] at o1
    simp only [Option.some.injEq, Value.slice.injEq, Addr.mk.injEq, and_true, true_and] at o1
    obtain ⟨rfl, rfl⟩ := o1
    obtain ⟨xs, hl, hx⟩ := pick_list (P := fun i x => CsAt w (g, i * 3) x.cs ∧ In w (fun b => ∃ x ∈ T, x.1.1 = b) x ∧ (∀ u, t.els[i]? = some u → same u x = true) ∧ Apt TY w base x ∧ ∀ b ∈ rowBs (subs x), Rch par (g, i * 3) b ∧ ∃ x ∈ T, x.1.1 = b) t.els.length (fun i hi => by
      have hu : t.els[i]? = some t.els[i] := List.getElem?_eq_getElem hi
      obtain ⟨t', q1, q2, q3, q4, q5⟩ := ih t.els[i] (List.getElem_mem hi) (g, i * 3) (hg i _ hu)
      exact ⟨t', q1, q2, fun u hu' => by rw [hu] at hu'; injection hu' with hu'; rw [← hu']; exact q3, q4, q5⟩)
    have hg0 := hg 0 t.els[0] (List.getElem?_eq_getElem h0)
    have hbg := (h.spot _ hg0).1
    obtain ⟨n1, n2⟩ := nodup_kids par g xs 0 fun j x hj => ⟨(hx j x hj).2.2.2.1.nd, fun b hb => by simpa using ((hx j x hj).2.2.2.2 b hb).1⟩
    have hsub : subs (.mk t.kind t.name (some ⟨g, 0, none⟩) c xs) = .mk t.kind t.name (some ⟨g, 0, none⟩) c xs :: subsL xs := rfl
    have hrow : rowBs (subs (.mk t.kind t.name (some ⟨g, 0, none⟩) c xs)) = g :: rowBs (subsL xs) := by rw [hsub]; rfl
    refine ⟨.mk t.kind t.name (some ⟨g, 0, none⟩) c xs, fun j v hv => h1 j v ?_, .mk _ ⟨hf.kind, hf.name, by show xs.length ≤ c; omega, h3, by intro hh; cases hh⟩ ?_ ?_, ?_, ⟨?_, ?_⟩, ?_⟩
    · unfold bcs; rw [← hl]; exact hv
    · intro _
      refine ⟨g, 0, rfl, ⟨_, hg0, rfl⟩, fun i u hi j v hv => ?_⟩
      have := (hx i u hi).1 j v hv
      simpa using this
    · intro i u hi
      exact (hx i u hi).2.1
    · rw [same_eq]
      have : sameL t.els xs = true := by
        rw [sameL_iff]
        exact ⟨hl.symm, fun i a b ha hb => (hx i b hb).2.2.1 a ha⟩
      simp [Ty.kind, Ty.name, Ty.els] at this ⊢
      exact this
    · intro u hu
      rw [hsub] at hu
      rcases List.mem_cons.1 hu with rfl | hu
      · show w.ownsRow base TY 3 (.slice (some ⟨g, 0, none⟩) xs.length c) xs.length (tcells xs)
        exact row_of_cells hbg o6 (by omega) h3 rfl fun i x hi => (hx i x hi).1
      · obtain ⟨i, x, hi, hux⟩ := mem_subsL.1 hu
        exact (hx i x hi).2.2.2.1.own u hux
    · rw [hrow, List.nodup_cons]
      refine ⟨fun hm => ?_, n1⟩
      obtain ⟨j, _, hr⟩ := n2 g hm
      have := hr.lt
      simp only at this
      omega
    · intro b hb
      rw [hrow] at hb
      rcases List.mem_cons.1 hb with rfl | hb
      · exact ⟨.one o2 o3, _, hg0, rfl⟩
      · obtain ⟨u, hu, hub⟩ := mem_rowBs.1 hb
        obtain ⟨i, x, hi, hux⟩ := mem_subsL.1 hu
        obtain ⟨k1, k2⟩ := (hx i x hi).2.2.2.2 b (mem_rowBs.2 ⟨u, hux, hub⟩)
        exact ⟨k1.up o2 o3, k2⟩
  · have hk : t.els = [] := List.eq_nil_of_length_eq_zero (by omega)
    have hz2 := hz (by omega)
    rw [hA2] at hz2
    simp only [Option.some.injEq, Value.slice.injEq] at hz2
    obtain ⟨rfl, _, rfl⟩ := hz2
    refine ⟨.mk t.kind t.name none 0 [], fun j v hv => h1 j v ?_, .mk _ ⟨hf.kind, hf.name, Nat.zero_le _, h3, fun hh => ⟨rfl, rfl⟩⟩ (fun hh => absurd hh (Nat.lt_irrefl _)) (fun i u hi => by simp [Ty.els] at hi), ?_, Apt.leaf, fun b hb => ?_⟩
    · unfold bcs; rw [hk]; exact hv
    · rw [same_eq, hk]; simp [sameL, Ty.kind, Ty.name, Ty.els]
    · rw [subs_eq] at hb
      simp [Ty.els, subsL, rowBs, Ty.row, Ty.addr, Ty.cap, Value.ownBlock] at hb
end ScoT
