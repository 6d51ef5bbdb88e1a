/- The document's own scope, a row of names, against blocks of names: mathematics alone. -/
import Derived.Test.YtfpjleabmemieaaGreatScoLa
set_option maxRecDepth 100000
namespace ScoT
open Go Go.RowKit
set_option linter.unusedVariables false
/-- A name in the document's row: its text, its type, how deep, whether it was used. -/
structure Rn where
  name : ByteArray
  ty : Ty
  deep : Nat
  used : Bool
/-- The same name, told by both. -/
structure Pair (d : Nat) (r : Rn) (m : Nm) : Prop where
  name : r.name = m.name
  deep : r.deep = d
  used : r.used = m.used
  ty : same r.ty m.ty = true
/-- A block's names, one by one. -/
def Blk (d : Nat) (l : List Rn) (ns : List Nm) : Prop := l.length = ns.length ∧ ∀ (i : Nat) (r : Rn) (m : Nm), l[i]? = some r → ns[i]? = some m → Pair d r m
/-- The document's row holds the blocks' names, block by block. -/
inductive Rel : List Rn → List Bk → Prop
  | nil : Rel [] []
  | snoc {l l' : List Rn} {bs : List Bk} {k : Bk} (h : Rel l bs) (hk : Blk (bs.length + 1) l' k.names) : Rel (l ++ l') (bs ++ [k])
theorem Blk.nil (d : Nat) : Blk d [] [] := ⟨rfl, fun i r m h => by simp at h⟩
theorem Blk.snoc {d : Nat} {l : List Rn} {ns : List Nm} {r : Rn} {m : Nm} (h : Blk d l ns) (hp : Pair d r m) : Blk d (l ++ [r]) (ns ++ [m]) := by
  refine ⟨by simp [h.1], fun i r' m' h1 h2 => ?_⟩
  by_cases hi : i < l.length
  · rw [List.getElem?_append_left hi] at h1
    rw [List.getElem?_append_left (by have := h.1; omega)] at h2
    exact h.2 i r' m' h1 h2
  · rw [List.getElem?_append_right (by omega)] at h1
    rw [List.getElem?_append_right (by have := h.1; omega)] at h2
    have h0 : i - l.length = 0 := by
      have := (List.getElem?_eq_some_iff.1 h1).1
      simp at this
      omega
    have h0' : i - ns.length = 0 := by have := h.1; omega
    rw [h0] at h1
    rw [h0'] at h2
    simp at h1 h2
    subst h1 h2
    exact hp
theorem Blk.deep {d : Nat} {l : List Rn} {ns : List Nm} (h : Blk d l ns) : ∀ r ∈ l, r.deep = d := by
  intro r hr
  obtain ⟨i, hi, hir⟩ := List.mem_iff_getElem.1 hr
  have hm : ns[i]? = some (ns[i]'(by have := h.1; omega)) := List.getElem?_eq_getElem _
  exact (h.2 i r _ (by rw [List.getElem?_eq_getElem hi, hir]) hm).deep
/-- What is used, and what is told at a block's end. -/
theorem Blk.told {d : Nat} {l : List Rn} {ns : List Nm} (h : Blk d l ns) : (l.filter fun r => !r.used).map Rn.name = left ns := by
  obtain ⟨h1, h2⟩ := h
  induction l generalizing ns with
  | nil =>
    have : ns = [] := List.eq_nil_of_length_eq_zero h1.symm
    subst this
    rfl
  | cons r l ih =>
    cases ns with
    | nil => simp at h1
    | cons m ns =>
      have hp := h2 0 r m rfl rfl
      have ht := ih (ns := ns) (by simpa using h1) (fun i r' m' a b => h2 (i + 1) r' m' (by simpa using a) (by simpa using b))
      unfold left at ht ⊢
      rw [List.filter_cons, List.filter_cons, hp.used]
      cases m.used
      · simp only [Bool.not_false, if_true, List.map_cons, ht, hp.name]
      · simpa using ht
theorem Blk.use {d : Nat} {l : List Rn} {ns : List Nm} (h : Blk d l ns) (j : Nat) : Blk d (l.modify j fun r => { r with used := true }) (ns.modify j fun m => { m with used := true }) := by
  refine ⟨by simp [h.1], fun i r m h1 h2 => ?_⟩
  rw [List.getElem?_modify] at h1 h2
  cases hl : l[i]? with
  | none => rw [hl] at h1; cases h1
  | some r0 =>
    cases hn : ns[i]? with
    | none => rw [hn] at h2; cases h2
    | some m0 =>
      rw [hl] at h1
      rw [hn] at h2
      have hp := h.2 i r0 m0 hl hn
      by_cases e : j = i
      · simp [e] at h1 h2
        subst h1 h2
        exact ⟨hp.name, hp.deep, rfl, hp.ty⟩
      · simp [e] at h1 h2
        subst h1 h2
        exact hp
/-- Where the innermost of a name stands. -/
def placeTo (x : ByteArray) (l : List Rn) : Nat → Option Nat
  | 0 => none
  | n + 1 => match l[n]? with
    | some r => if r.name = x then some n else placeTo x l n
    | none => placeTo x l n
def placeR (x : ByteArray) (l : List Rn) : Option Nat := placeTo x l l.length
theorem placeTo_left (x : ByteArray) (a b : List Rn) (n : Nat) (hn : n ≤ a.length) : placeTo x (a ++ b) n = placeTo x a n := by
  induction n with
  | zero => rfl
  | succ n ih =>
    simp only [placeTo]
    rw [List.getElem?_append_left (by omega), ih (by omega)]
theorem placeTo_right (x : ByteArray) (a b : List Rn) (n : Nat) (hn : n ≤ b.length) : placeTo x (a ++ b) (a.length + n) = match placeTo x b n with | some q => some (a.length + q) | none => placeR x a := by
  induction n with
  | zero => simp only [Nat.add_zero, placeTo]; exact placeTo_left x a b _ (Nat.le_refl _)
  | succ n ih =>
    rw [show a.length + (n + 1) = (a.length + n) + 1 from rfl]
    simp only [placeTo]
    rw [List.getElem?_append_right (by omega), show a.length + n - a.length = n by omega]
    cases hb : b[n]? with
    | none => exact ih (by omega)
    | some r =>
      by_cases e : r.name = x
      · simp [e]
      · simp only [e, if_false]
        exact ih (by omega)
theorem placeR_append (x : ByteArray) (a b : List Rn) : placeR x (a ++ b) = match placeR x b with | some q => some (a.length + q) | none => placeR x a := by
  unfold placeR
  rw [List.length_append]
  exact placeTo_right x a b b.length (Nat.le_refl _)
theorem placeTo_some {x : ByteArray} {l : List Rn} {n p : Nat} (h : placeTo x l n = some p) : p < n ∧ ∃ r, l[p]? = some r ∧ r.name = x := by
  induction n with
  | zero => cases h
  | succ n ih =>
    simp only [placeTo] at h
    split at h
    · rename_i r hr
      split at h
      · rename_i e
        cases h
        exact ⟨Nat.lt_succ_self _, r, hr, e⟩
      · obtain ⟨a, b⟩ := ih h
        exact ⟨by omega, b⟩
    · obtain ⟨a, b⟩ := ih h
      exact ⟨by omega, b⟩
theorem placeTo_none {x : ByteArray} {l : List Rn} {n : Nat} (h : placeTo x l n = none) : ∀ i r, i < n → l[i]? = some r → r.name ≠ x := by
  induction n with
  | zero => intro i r hi; omega
  | succ n ih =>
    simp only [placeTo] at h
    intro i r hi hr
    split at h
    · rename_i r' hr'
      split at h
      · cases h
      · rename_i e
        by_cases hin : i = n
        · subst hin
          rw [hr] at hr'
          cases hr'
          exact e
        · exact ih h i r (by omega) hr
    · rename_i hr'
      by_cases hin : i = n
      · subst hin
        rw [hr] at hr'
        cases hr'
      · exact ih h i r (by omega) hr
/-- In a block, whose names are told apart, the last one of a name is the first one. -/
theorem Blk.place {d : Nat} {l : List Rn} {ns : List Nm} (h : Blk d l ns) (hn : (ns.map Nm.name).Nodup) (x : ByteArray) : placeR x l = findN x ns := by
  cases hf : findN x ns with
  | none =>
    cases hp : placeR x l with
    | none => rfl
    | some p =>
      obtain ⟨hpl, r, hr, hx⟩ := placeTo_some hp
      have hm : ns[p]? = some (ns[p]'(by have := h.1; omega)) := List.getElem?_eq_getElem _
      have := findYtfpjleabmemieaaGreatnone hf _ (List.mem_of_getElem? hm)
      exact absurd ((h.2 p r _ hr hm).name.symm.trans hx) this
  | some j =>
    obtain ⟨m, hm, hx⟩ := findYtfpjleabmemieaaGreatsome hf
    cases hp : placeR x l with
    | none =>
      have hj : j < l.length := by have := (List.getElem?_eq_some_iff.1 hm).1; have := h.1; omega
      have hr : l[j]? = some l[j] := List.getElem?_eq_getElem hj
      exact absurd ((h.2 j _ m hr hm).name.trans hx) (placeTo_none hp j _ hj hr)
    | some p =>
      obtain ⟨hpl, r, hr, hrx⟩ := placeTo_some hp
      have hpn : p < ns.length := by have := h.1; omega
      have hmp : ns[p]? = some ns[p] := List.getElem?_eq_getElem hpn
      have e1 : (ns[p]).name = x := (h.2 p r _ hr hmp).name.symm.trans hrx
      have hij : p = j := by
        have := findYtfpjleabmemieaaGreatnodup hn hmp
        rw [e1, hf] at this
        exact (Option.some.inj this).symm
      rw [hij]
theorem Rel.inv {l : List Rn} {xs : List Bk} {k : Bk} (h : Rel l (xs ++ [k])) : ∃ l0 l1, l = l0 ++ l1 ∧ Rel l0 xs ∧ Blk (xs.length + 1) l1 k.names := by
  generalize hb : xs ++ [k] = bs at h
  cases h with
  | nil => simp at hb
  | snoc h hk =>
    obtain ⟨rfl, hkk⟩ := List.append_inj' hb rfl
    cases hkk
    exact ⟨_, _, rfl, h, hk⟩
theorem Rel.bound {l : List Rn} {bs : List Bk} (h : Rel l bs) : ∀ r ∈ l, 1 ≤ r.deep ∧ r.deep ≤ bs.length := by
  induction h with
  | nil => intro r hr; simp at hr
  | snoc h hk ih =>
    intro r hr
    rcases List.mem_append.1 hr with hr | hr
    · have := ih r hr
      simp
      omega
    · have := hk.deep r hr
      simp
      omega
theorem Rel.open_ {l : List Rn} {bs : List Bk} (h : Rel l bs) {k : Bk} (hk : k.names = []) : Rel l (bs ++ [k]) := by
  have := Rel.snoc (k := k) h (by rw [hk]; exact Blk.nil _)
  simpa using this
theorem Rel.declare {l : List Rn} {xs : List Bk} {k k' : Bk} (h : Rel l (xs ++ [k])) {x : ByteArray} {t t' : Ty} {loc : Nat} (ht : same t' t = true) (hk : k'.names = k.names ++ [⟨x, t, false, loc⟩]) : Rel (l ++ [⟨x, t', xs.length + 1, false⟩]) (xs ++ [k']) := by
  obtain ⟨l0, l1, rfl, h0, h1⟩ := h.inv
  rw [List.append_assoc]
  refine .snoc h0 ?_
  rw [hk]
  exact h1.snoc ⟨rfl, rfl, rfl, ht⟩
theorem seek_snoc (x : ByteArray) (xs : List Bk) (k : Bk) : seek x (xs ++ [k]) = match findN x k.names with | some j => some (xs.length, j) | none => seek x xs := by
  unfold seek
  rw [List.length_append, List.length_singleton]
  simp only [seekTo]
  rw [List.getElem?_append_right (Nat.le_refl _), Nat.sub_self]
  simp only [List.getElem?_cons_zero]
  cases findN x k.names with
  | some j => rfl
  | none => exact seekTo_app x xs k xs.length (Nat.le_refl _)
/-- Where a name stands, by both. -/
theorem Rel.place {l : List Rn} {bs : List Bk} (h : Rel l bs) (hn : ∀ k ∈ bs, (k.names.map Nm.name).Nodup) (x : ByteArray) :
    (seek x bs = none ∧ placeR x l = none) ∨ ∃ i j p k m r, seek x bs = some (i, j) ∧ placeR x l = some p ∧ bs[i]? = some k ∧ k.names[j]? = some m ∧ l[p]? = some r ∧ Pair (i + 1) r m ∧ Rel (l.modify p fun r => { r with used := true }) (useAt bs i j) := by
  induction h with
  | nil => exact .inl ⟨rfl, rfl⟩
  | @snoc l l' bs k h hk ih =>
    rw [seek_snoc, placeR_append, hk.place (hn k (by simp)) x]
    cases hf : findN x k.names with
    | some j =>
      refine .inr ?_
      obtain ⟨m, hm, hx⟩ := findYtfpjleabmemieaaGreatsome hf
      have hj : j < l'.length := by have := (List.getElem?_eq_some_iff.1 hm).1; have := hk.1; omega
      have hr : l'[j]? = some l'[j] := List.getElem?_eq_getElem hj
      refine ⟨bs.length, j, l.length + j, k, m, l'[j], rfl, rfl, by simp, hm, by rw [List.getElem?_append_right (by omega), show l.length + j - l.length = j by omega]; exact hr, hk.2 j _ m hr hm, ?_⟩
      have e1 : (l ++ l').modify (l.length + j) (fun r => { r with used := true }) = l ++ l'.modify j (fun r => { r with used := true }) := by
        apply List.ext_getElem?
        intro i
        rw [List.getElem?_modify]
        by_cases hi : i < l.length
        · rw [List.getElem?_append_left hi, List.getElem?_append_left hi]
          have e : ¬ l.length + j = i := by omega
          simp only [e, if_false]
          cases l[i]? <;> rfl
        · rw [List.getElem?_append_right (by omega), List.getElem?_append_right (by omega), List.getElem?_modify]
          by_cases e : l.length + j = i
          · have e' : j = i - l.length := by omega
            have e2 : l.length + (i - l.length) = i := by omega
            simp only [e', e2, if_true]
          · have e' : ¬ j = i - l.length := by omega
            simp only [e, e', if_false]
      have e2 : useAt (bs ++ [k]) bs.length j = bs ++ [{ k with names := k.names.modify j fun m => { m with used := true } }] := by
        unfold useAt
        apply List.ext_getElem?
        intro i
        rw [List.getElem?_modify]
        by_cases hi : i < bs.length
        · rw [List.getElem?_append_left hi, List.getElem?_append_left hi]
          have e : ¬ bs.length = i := by omega
          simp only [e, if_false]
          cases bs[i]? <;> rfl
        · rw [List.getElem?_append_right (by omega), List.getElem?_append_right (by omega)]
          by_cases e : bs.length = i
          · subst e
            simp
          · simp only [e, if_false]
            have : ∃ n, i - bs.length = n + 1 := ⟨i - bs.length - 1, by omega⟩
            obtain ⟨n, hn⟩ := this
            rw [hn]
            simp
      rw [e1, e2]
      exact .snoc h (hk.use j)
    | none =>
      rcases ih (fun q hq => hn q (by simp [hq])) with ⟨a, b⟩ | ⟨i, j, p, q, m, r, ha, hb, hq, hm, hr, hp, hu⟩
      · exact .inl ⟨a, b⟩
      · refine .inr ⟨i, j, p, q, m, r, ha, hb, ?_, hm, ?_, hp, ?_⟩
        · rw [List.getElem?_append_left (List.getElem?_eq_some_iff.1 hq).1]
          exact hq
        · rw [List.getElem?_append_left (List.getElem?_eq_some_iff.1 hr).1]
          exact hr
        · have hpl := (List.getElem?_eq_some_iff.1 hr).1
          have hil := (List.getElem?_eq_some_iff.1 hq).1
          have e1 : (l ++ l').modify p (fun r => { r with used := true }) = l.modify p (fun r => { r with used := true }) ++ l' := by
            apply List.ext_getElem?
            intro i'
            rw [List.getElem?_modify]
            by_cases hi : i' < l.length
            · rw [List.getElem?_append_left hi, List.getElem?_append_left (by simpa using hi), List.getElem?_modify]
            · rw [List.getElem?_append_right (by omega), List.getElem?_append_right (by simp; omega)]
              have e : ¬ p = i' := by omega
              simp [e]
          have e2 : useAt (bs ++ [k]) i j = useAt bs i j ++ [k] := by
            unfold useAt
            apply List.ext_getElem?
            intro i'
            rw [List.getElem?_modify]
            by_cases hi : i' < bs.length
            · rw [List.getElem?_append_left hi, List.getElem?_append_left (by simpa using hi), List.getElem?_modify]
            · rw [List.getElem?_append_right (by omega), List.getElem?_append_right (by simp; omega)]
              have e : ¬ i = i' := by omega
              simp [e]
          rw [e1, e2]
          have hlen : (useAt bs i j).length = bs.length := by simp [useAt]
          exact .snoc hu (by rw [hlen]; exact hk)
/-- A name stands in the innermost block just if the innermost one of it is so deep. -/
theorem Rel.twice {l : List Rn} {xs : List Bk} {k : Bk} (h : Rel l (xs ++ [k])) (hn : (k.names.map Nm.name).Nodup) (x : ByteArray) :
    (∃ j p r, findN x k.names = some j ∧ placeR x l = some p ∧ l[p]? = some r ∧ r.deep = xs.length + 1) ∨ (findN x k.names = none ∧ ∀ p r, placeR x l = some p → l[p]? = some r → r.deep ≤ xs.length) := by
  obtain ⟨l0, l1, rfl, h0, h1⟩ := h.inv
  rw [placeR_append, h1.place hn x]
  cases hf : findN x k.names with
  | some j =>
    obtain ⟨m, hm, hx⟩ := findYtfpjleabmemieaaGreatsome hf
    have hj : j < l1.length := by have := (List.getElem?_eq_some_iff.1 hm).1; have := h1.1; omega
    have hr : l1[j]? = some l1[j] := List.getElem?_eq_getElem hj
    exact .inl ⟨j, l0.length + j, l1[j], rfl, rfl, by rw [List.getElem?_append_right (by omega), show l0.length + j - l0.length = j by omega]; exact hr, (h1.2 j _ m hr hm).deep⟩
  | none =>
    refine .inr ⟨rfl, fun p r hp hr => ?_⟩
    have hpl := (placeTo_some hp).1
    rw [List.getElem?_append_left hpl] at hr
    exact (h0.bound r (List.mem_of_getElem? hr)).2
/-- What stays, and what is told, at a block's end. -/
theorem Rel.close {l : List Rn} {xs : List Bk} {k : Bk} (h : Rel l (xs ++ [k])) : Rel (l.filter fun r => decide (r.deep < xs.length + 1)) xs ∧ (l.filter fun r => !decide (r.deep < xs.length + 1) && !r.used).map Rn.name = left k.names := by
  obtain ⟨l0, l1, rfl, h0, h1⟩ := h.inv
  have e0 : l0.filter (fun r => decide (r.deep < xs.length + 1)) = l0 := List.filter_eq_self.2 fun r hr => decide_eq_true (by have := (h0.bound r hr).2; omega)
  have e1 : l1.filter (fun r => decide (r.deep < xs.length + 1)) = [] := List.filter_eq_nil_iff.2 fun r hr => by have := h1.deep r hr; simp; omega
  have e2 : l0.filter (fun r => !decide (r.deep < xs.length + 1) && !r.used) = [] := List.filter_eq_nil_iff.2 fun r hr => by have := (h0.bound r hr).2; simp; omega
  have e3 : l1.filter (fun r => !decide (r.deep < xs.length + 1) && !r.used) = l1.filter (fun r => !r.used) := List.filter_congr fun r hr => by have := h1.deep r hr; simp; omega
  rw [List.filter_append, List.filter_append, e0, e1, e2, e3, List.append_nil, List.nil_append]
  exact ⟨h0, h1.told⟩
end ScoT
