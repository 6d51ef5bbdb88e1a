/- Copies without places, as they come to be: nodes at spots, those still to be done on a stack of pointers. -/
import Derived.Test.YtldedhfbpongmaaDoorNodAn
set_option maxRecDepth 100000
namespace NodT
open Go Go.RowKit
set_option linter.unusedVariables false
mutual
/-- No place but nought. -/
def zero : Nd → Bool | .mk _ _ _ p _ _ ks => p == 0 && zeroL ks
def zeroL : List Nd → Bool | [] => true | t :: ts => zero t && zeroL ts
end
theorem zeroL_iff (ts : List Nd) : zeroL ts = true ↔ ∀ t ∈ ts, zero t = true := by
  induction ts with
  | nil => simp [zeroL]
  | cons t ts ih => simp [zeroL, ih]
/-- From a spot on these cells lie. -/
def CsAt (w : World) (p : Nat × Nat) (cs : List Value) : Prop := ∀ (j : Nat) (v : Value), cs[j]? = some v → w.cell? ⟨p.1, p.2 + j, none⟩ = some v
def bcs (t : Nd) (A : Option Addr) (c : Nat) : List Value := [.int .u8 t.kind, .string t.text, .int .i64 t.num, .int .i64 0, .slice A t.kids.length c]
abbrev Sp := (Nat × Nat) × Nd
def Done (w : World) (T : List Sp) (e : Sp) : Prop := ∃ (A : Option Addr) (c : Nat), CsAt w e.1 (bcs e.2 A c) ∧ e.2.kids.length ≤ c ∧ c ≤ maxLen ∧ (A = none → e.2.kids.length = 0 ∧ c = 0) ∧
  (0 < e.2.kids.length → ∃ g, A = some ⟨g, 0, none⟩ ∧ ∀ (i : Nat) (u : Nd), e.2.kids[i]? = some u → ((g, i * 5), u) ∈ T)
/-- The state of the copy: all spots T, those on the stack. -/
structure Bg (w : World) (base B : Nat) (T pend : List Sp) : Prop where
  nodup : (T.map Prod.fst).Nodup
  pn : (pend.map Prod.fst).Nodup
  sub : ∀ e ∈ pend, e ∈ T
  spot : ∀ e ∈ T, base ≤ e.1.1 ∧ e.1.1 < w.heap.size ∧ e.1.2 % 5 = 0
  tree : ∀ e ∈ T, In w B e.2
  todo : ∀ e ∈ pend, CsAt w e.1 e.2.cs ∧ ∀ j, w.frozen? ⟨e.1.1, e.1.2 + j, none⟩ = false
  done : ∀ e ∈ T, e ∉ pend → Done w T e

theorem mem_fst {T : List Sp} (h : (T.map Prod.fst).Nodup) {p : Nat × Nat} {a b : Nd} (ha : (p, a) ∈ T) (hb : (p, b) ∈ T) : a = b := by
  induction T with
  | nil => simp at ha
  | cons x T ih =>
    simp only [List.map_cons, List.nodup_cons, List.mem_map, not_exists, not_and] at h
    rcases List.mem_cons.1 ha with rfl | ha' <;> rcases List.mem_cons.1 hb with hb' | hb'
    · injection hb' with _ h2; exact h2.symm
    · exact absurd rfl (h.1 (p, b) hb')
    · subst hb'; exact absurd rfl (h.1 (p, a) ha')
    · exact ih h.2 ha' hb'

/-- The spots of a row of kids. -/
def spots (g i : Nat) : List Nd → List Sp | [] => [] | u :: us => ((g, i * 5), u) :: spots g (i + 1) us
theorem spots_mem (g : Nat) (ks : List Nd) : ∀ (i : Nat) (e : Sp), e ∈ spots g i ks ↔ ∃ (j : Nat) (u : Nd), ks[j]? = some u ∧ e = ((g, (i + j) * 5), u) := by
  induction ks with
  | nil => simp [spots]
  | cons u us ih =>
    intro i e
    simp only [spots, List.mem_cons, ih]
    constructor
    · rintro (rfl | ⟨j, v, hj, rfl⟩)
      · exact ⟨0, u, rfl, rfl⟩
      · exact ⟨j + 1, v, by simpa using hj, by rw [show i + 1 + j = i + (j + 1) from by omega]⟩
    · rintro ⟨j, v, hj, rfl⟩
      cases j with
      | zero => simp at hj; exact .inl (by simp [hj])
      | succ j => exact .inr ⟨j, v, by simpa using hj, by rw [show i + 1 + j = i + (j + 1) from by omega]⟩
theorem spots_nodup (g : Nat) (ks : List Nd) : ∀ i : Nat, ((spots g i ks).map Prod.fst).Nodup := by
  induction ks with
  | nil => simp [spots]
  | cons u us ih =>
    intro i
    simp only [spots, List.map_cons, List.nodup_cons]
    refine ⟨fun h => ?_, ih _⟩
    obtain ⟨e, he, h1⟩ := List.mem_map.1 h
    obtain ⟨j, v, _, rfl⟩ := (spots_mem g us _ _).1 he
    simp at h1
    omega
theorem spots_length (g : Nat) (ks : List Nd) : ∀ i : Nat, (spots g i ks).length = ks.length := by
  induction ks with
  | nil => simp [spots]
  | cons u us ih => intro i; simp [spots, ih]
theorem spots_snd (g : Nat) (ks : List Nd) : ∀ i : Nat, (spots g i ks).map Prod.snd = ks := by
  induction ks with
  | nil => simp [spots]
  | cons u us ih => intro i; simp [spots, ih]
theorem spots_snoc (g : Nat) (ks : List Nd) (u : Nd) : ∀ i : Nat, spots g i (ks ++ [u]) = spots g i ks ++ [((g, (i + ks.length) * 5), u)] := by
  induction ks with
  | nil => intro i; simp [spots]
  | cons v vs ih => intro i; simp only [List.cons_append, spots, ih, List.length_cons]; rw [show i + 1 + vs.length = i + (vs.length + 1) from by omega]

theorem Done.more {w : World} {T T' : List Sp} {e : Sp} (h : Done w T e) (hs : ∀ x ∈ T, x ∈ T') : Done w T' e := by
  obtain ⟨A, c, h1, h2, h3, h4, h5⟩ := h
  exact ⟨A, c, h1, h2, h3, h4, fun h0 => by obtain ⟨g, h6, h7⟩ := h5 h0; exact ⟨g, h6, fun i u hi => hs _ (h7 i u hi)⟩⟩
theorem Done.keep {w w' : World} {T : List Sp} {e : Sp} (h : Done w T e) (hk : ∀ j, j < 5 → w'.cell? ⟨e.1.1, e.1.2 + j, none⟩ = w.cell? ⟨e.1.1, e.1.2 + j, none⟩) : Done w' T e := by
  obtain ⟨A, c, h1, h2, h3, h4, h5⟩ := h
  refine ⟨A, c, fun j v hv => ?_, h2, h3, h4, h5⟩
  have hj : j < 5 := (List.getElem?_eq_some_iff.1 hv).1
  rw [hk j hj]
  exact h1 j v hv
theorem CsAt.keep {w w' : World} {p : Nat × Nat} {cs : List Value} (h : CsAt w p cs) (hk : ∀ j, j < cs.length → w'.cell? ⟨p.1, p.2 + j, none⟩ = w.cell? ⟨p.1, p.2 + j, none⟩) : CsAt w' p cs := fun j v hv => by
  have hj : j < cs.length := (List.getElem?_eq_some_iff.1 hv).1
  rw [hk j hj]
  exact h j v hv

/-- One node done: its place nought, its kids copied to block g, these put on the stack. -/
theorem Bg.step {w w' : World} {base B gs g c : Nat} {T r : List Sp} {e : Sp} {A : Option Addr} (h : Bg w base B T (r ++ [e])) (hB : B ≤ base)
    (hgs : ∀ x ∈ T, x.1.1 ≠ gs) (hsz : w.heap.size ≤ w'.heap.size) (hlow : ∀ p : Addr, p.block < B → w'.cell? p = w.cell? p)
    (hold : ∀ (b o : Nat), b < w.heap.size → b ≠ gs → ¬ (b = e.1.1 ∧ (o = e.1.2 + 3 ∨ o = e.1.2 + 4)) → base ≤ b → w'.cell? ⟨b, o, none⟩ = w.cell? ⟨b, o, none⟩)
    (hfr : ∀ (b o : Nat), b < w.heap.size → b ≠ gs → base ≤ b → w'.frozen? ⟨b, o, none⟩ = w.frozen? ⟨b, o, none⟩)
    (h3 : w'.cell? ⟨e.1.1, e.1.2 + 3, none⟩ = some (.int .i64 0)) (h4 : w'.cell? ⟨e.1.1, e.1.2 + 4, none⟩ = some (.slice A e.2.kids.length c))
    (hc : e.2.kids.length ≤ c ∧ c ≤ maxLen) (hA : A = none → e.2.kids.length = 0 ∧ c = 0)
    (hnew : 0 < e.2.kids.length → A = some ⟨g, 0, none⟩ ∧ w.heap.size ≤ g ∧ g < w'.heap.size ∧ ∀ (i : Nat) (u : Nd), e.2.kids[i]? = some u → CsAt w' (g, i * 5) u.cs ∧ ∀ j, w'.frozen? ⟨g, i * 5 + j, none⟩ = false) :
    Bg w' base B (T ++ spots g 0 e.2.kids) (r ++ spots g 0 e.2.kids) := by
  obtain ⟨nodup, pn, sub, spot, tree, todo, done⟩ := h
  have heT : e ∈ T := sub e (by simp)
  have hnk : ∀ x ∈ spots g 0 e.2.kids, ∃ (j : Nat) (u : Nd), e.2.kids[j]? = some u ∧ x = ((g, j * 5), u) ∧ w.heap.size ≤ g ∧ g < w'.heap.size ∧ CsAt w' (g, j * 5) u.cs ∧ ∀ k, w'.frozen? ⟨g, j * 5 + k, none⟩ = false := by
    intro x hx
    obtain ⟨j, u, hj, rfl⟩ := (spots_mem g _ 0 x).1 hx
    have hl : j < e.2.kids.length := (List.getElem?_eq_some_iff.1 hj).1
    obtain ⟨_, h6, h7, h8⟩ := hnew (by omega)
    obtain ⟨h9, h10⟩ := h8 j u hj
    exact ⟨j, u, hj, by simp, h6, h7, h9, h10⟩
  rw [List.map_append, List.nodup_append] at pn
  obtain ⟨pr, _, pre⟩ := pn
  have hre : ∀ x ∈ r, x.1 ≠ e.1 := fun x hx => pre _ (List.mem_map_of_mem hx) _ (by simp)
  have hne : ∀ x ∈ T, x.1 ≠ e.1 → ∀ j, j < 5 → w'.cell? ⟨x.1.1, x.1.2 + j, none⟩ = w.cell? ⟨x.1.1, x.1.2 + j, none⟩ := by
    intro x hx hxe j hj
    obtain ⟨s1, s2, s3⟩ := spot x hx
    obtain ⟨s4, s5, s6⟩ := spot e heT
    refine hold _ _ s2 (hgs x hx) (fun hh => hxe ?_) s1
    obtain ⟨hb, ho⟩ := hh
    refine Prod.ext hb ?_
    omega
  refine ⟨?_, ?_, ?_, ?_, ?_, ?_, ?_⟩
  · rw [List.map_append, List.nodup_append]
    refine ⟨nodup, spots_nodup _ _ _, fun a ha b hb => ?_⟩
    obtain ⟨x, hx, rfl⟩ := List.mem_map.1 ha
    obtain ⟨y, hy, rfl⟩ := List.mem_map.1 hb
    obtain ⟨j, u, _, rfl, h6, _⟩ := hnk y hy
    have := (spot x hx).2.1
    intro he
    rw [he] at this
    simp at this
    omega
  · rw [List.map_append, List.nodup_append]
    refine ⟨pr, spots_nodup _ _ _, fun a ha b hb => ?_⟩
    obtain ⟨x, hx, rfl⟩ := List.mem_map.1 ha
    obtain ⟨y, hy, rfl⟩ := List.mem_map.1 hb
    obtain ⟨j, u, _, rfl, h6, _⟩ := hnk y hy
    have := (spot x (sub x (by simp [hx]))).2.1
    intro he
    rw [he] at this
    simp at this
    omega
  · intro x hx
    rcases List.mem_append.1 hx with hx | hx
    · exact List.mem_append.2 (.inl (sub x (by simp [hx])))
    · exact List.mem_append.2 (.inr hx)
  · intro x hx
    rcases List.mem_append.1 hx with hx | hx
    · obtain ⟨s1, s2, s3⟩ := spot x hx
      exact ⟨s1, by omega, s3⟩
    · obtain ⟨j, u, _, rfl, h6, h7, _⟩ := hnk x hx
      have := (spot e heT)
      exact ⟨by show base ≤ g; omega, h7, by show j * 5 % 5 = 0; omega⟩
  · intro x hx
    rcases List.mem_append.1 hx with hx | hx
    · exact (tree x hx).keep hlow
    · obtain ⟨j, u, hj, rfl, _⟩ := hnk x hx
      exact ((tree e heT).kid hj).keep hlow
  · intro x hx
    rcases List.mem_append.1 hx with hx | hx
    · have hxT := sub x (by simp [hx])
      obtain ⟨t1, t2⟩ := todo x (by simp [hx])
      refine ⟨t1.keep fun j hj => hne x hxT (hre x hx) j hj, fun j => ?_⟩
      rw [hfr _ _ (spot x hxT).2.1 (hgs x hxT) (spot x hxT).1]
      exact t2 j
    · obtain ⟨j, u, hj, rfl, _, _, h8, h9⟩ := hnk x hx
      exact ⟨h8, h9⟩
  · intro x hx hxn
    rcases List.mem_append.1 hx with hxT | hxS
    · by_cases hxe : x = e
      · subst hxe
        obtain ⟨t1, t2⟩ := todo x (by simp)
        obtain ⟨s4, s5, s6⟩ := spot x heT
        refine ⟨A, c, fun j v hv => ?_, hc.1, hc.2, hA, fun h0 => ⟨g, (hnew h0).1, fun i u hi => List.mem_append.2 (.inr ((spots_mem g _ 0 _).2 ⟨i, u, hi, by simp⟩))⟩⟩
        have hj : j < 5 := (List.getElem?_eq_some_iff.1 hv).1
        have hk : j < 3 → w'.cell? ⟨x.1.1, x.1.2 + j, none⟩ = w.cell? ⟨x.1.1, x.1.2 + j, none⟩ := fun hj3 => hold _ _ s5 (hgs x heT) (by omega) s4
        match j, hj, hv with
        | 0, _, hv => rw [hk (by omega)]; exact t1 0 v hv
        | 1, _, hv => rw [hk (by omega)]; exact t1 1 v hv
        | 2, _, hv => rw [hk (by omega)]; exact t1 2 v hv
        | 3, _, hv => rw [h3]; exact hv
        | 4, _, hv => rw [h4]; exact hv
      · have hxp : x ∉ r ++ [e] := by
          intro hh
          rcases List.mem_append.1 hh with hh | hh
          · exact hxn (List.mem_append.2 (.inl hh))
          · exact hxe (List.mem_singleton.1 hh)
        have hx1 : x.1 ≠ e.1 := fun he => hxe (by
          obtain ⟨p, a⟩ := x
          obtain ⟨q, b⟩ := e
          simp only at he
          subst he
          exact Prod.ext rfl (mem_fst nodup hxT heT))
        exact ((done x hxT hxp).keep fun j hj => hne x hxT hx1 j hj).more fun y hy => List.mem_append.2 (.inl hy)
    · exact absurd (List.mem_append.2 (.inr hxS)) hxn

theorem pick_list {α : Type} {P : Nat → α → Prop} : ∀ n : Nat, (∀ i, i < n → ∃ x, P i x) → ∃ xs : List α, xs.length = n ∧ ∀ (i : Nat) (x : α), xs[i]? = some x → P i x := by
  intro n
  induction n with
  | zero => intro _; exact ⟨[], rfl, by simp⟩
  | succ n ih =>
    intro h
    obtain ⟨xs, h1, h2⟩ := ih fun i hi => h i (by omega)
    obtain ⟨x, hx⟩ := h n (by omega)
    refine ⟨xs ++ [x], by simp [h1], fun i y hy => ?_⟩
    by_cases hi : i < n
    · rw [List.getElem?_append_left (by omega)] at hy
      exact h2 i y hy
    · have hl : i < (xs ++ [x]).length := (List.getElem?_eq_some_iff.1 hy).1
      simp [h1] at hl
      obtain rfl : i = n := by omega
      rw [List.getElem?_append_right (by omega)] at hy
      simp [h1] at hy
      subst hy
      exact hx
/-- When nothing is left to be done each spot holds a copy without places. -/
theorem Bg.whole {w : World} {base B : Nat} {T : List Sp} (h : Bg w base B T []) : ∀ (t : Nd) (p : Nat × Nat), (p, t) ∈ T → ∃ t' : Nd, CsAt w p t'.cs ∧ In w w.heap.size t' ∧ same t t' = true ∧ zero t' = true := by
  refine Nd.rose fun t ih p hp => ?_
  obtain ⟨A, c, h1, h2, h3, h4, h5⟩ := h.done _ hp (by simp)
  have hf := (h.tree _ hp).fits
  simp only at h1 h2 h4 h5 hf
  by_cases h0 : 0 < t.kids.length
  · obtain ⟨g, rfl, hg⟩ := h5 h0
    obtain ⟨xs, hl, hx⟩ := pick_list (P := fun i x => CsAt w (g, i * 5) x.cs ∧ In w w.heap.size x ∧ (∀ u, t.kids[i]? = some u → same u x = true) ∧ zero x = true) t.kids.length (fun i hi => by
      have hu : t.kids[i]? = some t.kids[i] := List.getElem?_eq_getElem hi
      obtain ⟨t', q1, q2, q3, q4⟩ := ih t.kids[i] (List.getElem_mem hi) (g, i * 5) (hg i _ hu)
      exact ⟨t', q1, q2, fun u hu' => by rw [hu] at hu'; injection hu' with hu'; rw [← hu']; exact q3, q4⟩)
    have hgs : g < w.heap.size := by
      have := (h.spot _ (hg 0 t.kids[0] (List.getElem?_eq_getElem h0))).2.1
      exact this
    refine ⟨.mk t.kind t.text t.num 0 (some ⟨g, 0, none⟩) c xs, fun j v hv => h1 j v ?_, .mk _ ⟨hf.kind, hf.text, hf.num, ⟨by show (-9223372036854775808 : Int) ≤ 0; decide, by show (0 : Int) ≤ 9223372036854775807; decide⟩, by show xs.length ≤ c; omega, h3, by intro hh; cases hh⟩ ?_ ?_, ?_, ?_⟩
    · unfold bcs; rw [← hl]; exact hv
    · intro _
      refine ⟨g, 0, rfl, hgs, fun i u hi j v hv => ?_⟩
      have := (hx i u hi).1 j v hv
      simpa using this
    · intro i u hi
      exact (hx i u hi).2.1
    · rw [same_mk]
      have : sameL t.kids xs = true := by
        rw [sameL_iff]
        exact ⟨hl.symm, fun i a b ha hb => (hx i b hb).2.2.1 a ha⟩
      simp [this]
    · have : zeroL xs = true := by
        rw [zeroL_iff]
        intro u hu
        obtain ⟨i, hi⟩ := List.getElem?_of_mem hu
        exact (hx i u hi).2.2.2
      simp [zero, this]
  · have hk : t.kids = [] := List.eq_nil_of_length_eq_zero (by omega)
    refine ⟨.mk t.kind t.text t.num 0 A c [], fun j v hv => h1 j v ?_, .mk _ ⟨hf.kind, hf.text, hf.num, ⟨by show (-9223372036854775808 : Int) ≤ 0; decide, by show (0 : Int) ≤ 9223372036854775807; decide⟩, Nat.zero_le _, h3, fun hh => ⟨rfl, (h4 hh).2⟩⟩ (fun hh => absurd hh (by simp [Nd.kids])) (fun i u hi => by simp [Nd.kids] at hi), ?_, ?_⟩
    · unfold bcs; rw [hk]; exact hv
    · rw [same_mk, hk]; simp [sameL]
    · simp [zero, zeroL]
end NodT
