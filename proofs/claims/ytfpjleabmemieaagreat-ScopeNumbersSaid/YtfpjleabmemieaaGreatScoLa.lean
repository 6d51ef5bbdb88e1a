/- What a name stands for; blocks but for what was used. -/
import Derived.Test.YtfpjleabmemieaaGreatScoJ
import Derived.Test.YtfpjleabmemieaaGreatScoL
import Derived.Test.YtfpjleabmemieaaGreatScoN
import Derived.Test.YtfpjleabmemieaaGreatScoX
import Derived.Test.YtfpjleabmemieaaGreatScoW
set_option maxRecDepth 100000
namespace ScoT
open Go Go.RowKit Go.Instr
set_option linter.unusedVariables false
/-- A block's names and their types. -/
def skel1 (k : Bk) : List (ByteArray × Ty) := k.names.map fun m => (m.name, m.ty)
def skel (bs : List Bk) : List (List (ByteArray × Ty)) := bs.map skel1
theorem skel_len {a b : List Bk} (h : skel a = skel b) : a.length = b.length := by
  have := congrArg List.length h
  simpa [skel] using this
theorem skel_app (a b : List Bk) : skel (a ++ b) = skel a ++ skel b := by simp [skel]
theorem findYtfpjleabmemieaaGreatskel {s : ByteArray} : ∀ {l l' : List Nm}, (l.map fun m => (m.name, m.ty)) = (l'.map fun m => (m.name, m.ty)) → findN s l = findN s l'
  | [], [], _ => rfl
  | [], _ :: _, h => by simp at h
  | _ :: _, [], h => by simp at h
  | a :: l, b :: l', h => by
    simp only [List.map_cons, List.cons.injEq, Prod.mk.injEq] at h
    simp only [findN, h.1.1, findYtfpjleabmemieaaGreatskel h.2]
theorem seekTo_skel {s : ByteArray} {a b : List Bk} (h : skel a = skel b) (n : Nat) : seekTo s a n = seekTo s b n := by
  induction n with
  | zero => rfl
  | succ n ih =>
    have h1 := congrArg (fun l => l[n]?) h
    simp only [skel, List.getElem?_map] at h1
    simp only [seekTo]
    cases ha : a[n]? with
    | none =>
      rw [ha] at h1
      cases hb : b[n]? with
      | none => exact ih
      | some y => rw [hb] at h1; cases h1
    | some x =>
      rw [ha] at h1
      cases hb : b[n]? with
      | none => rw [hb] at h1; cases h1
      | some y =>
        rw [hb] at h1
        have h2 : skel1 x = skel1 y := by simpa using h1
        show (match findN s x.names with | some j => some (n, j) | none => seekTo s a n) = (match findN s y.names with | some j => some (n, j) | none => seekTo s b n)
        rw [findYtfpjleabmemieaaGreatskel (s := s) h2, ih]
theorem seek_skel {s : ByteArray} {a b : List Bk} (h : skel a = skel b) : seek s a = seek s b := by
  unfold seek
  rw [skel_len h, seekTo_skel h]
/-- What a name stands for. -/
theorem skel_at {a b : List Bk} (h : skel a = skel b) {i j : Nat} {k : Bk} {m : Nm} (hi : a[i]? = some k) (hj : k.names[j]? = some m) : ∃ k' m', b[i]? = some k' ∧ k'.names[j]? = some m' ∧ m'.name = m.name ∧ m'.ty = m.ty := by
  have h1 := congrArg (fun l => l[i]?) h
  simp only [skel, List.getElem?_map, hi, Option.map_some] at h1
  cases hb : b[i]? with
  | none => rw [hb] at h1; cases h1
  | some y =>
    rw [hb] at h1
    have h2 : skel1 k = skel1 y := by simpa using h1
    have h3 := congrArg (fun l => l[j]?) h2
    simp only [skel1, List.getElem?_map, hj, Option.map_some] at h3
    cases hm : y.names[j]? with
    | none => rw [hm] at h3; cases h3
    | some q =>
      rw [hm] at h3
      simp only [Option.map_some, Option.some.injEq, Prod.mk.injEq] at h3
      exact ⟨y, q, rfl, hm, h3.1.symm, h3.2.symm⟩
theorem skel1_modify (k : Bk) (j : Nat) : (k.names.modify j fun m => { m with used := true }).map (fun m => (m.name, m.ty)) = k.names.map fun m => (m.name, m.ty) := by
  apply List.ext_getElem?
  intro q
  simp only [List.getElem?_map, List.getElem?_modify]
  by_cases hq : j = q
  · subst hq
    cases k.names[j]? <;> simp
  · simp [hq]
theorem skel_use (bs : List Bk) (i j : Nat) : skel (useAt bs i j) = skel bs := by
  apply List.ext_getElem?
  intro q
  simp only [skel, useAt, List.getElem?_map, List.getElem?_modify]
  by_cases hq : i = q
  · subst hq
    cases bs[i]? with
    | none => simp
    | some k => simp [skel1]; exact skel1_modify k j
  · simp [hq]
/-- The bound that all blocks keep. -/
def Small (bs : List Bk) (c : Nat) : Prop := bs.length ≤ c + 1 ∧ ∀ k ∈ bs, k.names.length ≤ c ∧ ∀ m ∈ k.names, weight m.ty ≤ 50
theorem Small.mono {bs : List Bk} {c d : Nat} (h : Small bs c) (hcd : c ≤ d) : Small bs d := ⟨by have := h.1; omega, fun k hk => ⟨by have := (h.2 k hk).1; omega, (h.2 k hk).2⟩⟩
theorem Small.skel {a b : List Bk} {c : Nat} (h : Small a c) (hs : skel a = skel b) : Small b c := by
  refine ⟨by rw [← skel_len hs]; exact h.1, fun k hk => ?_⟩
  obtain ⟨i, hi⟩ := List.getElem?_of_mem hk
  have h1 := congrArg (fun l => l[i]?) hs
  simp only [ScoT.skel, List.getElem?_map, hi, Option.map_some] at h1
  cases ha : a[i]? with
  | none => rw [ha] at h1; cases h1
  | some y =>
    rw [ha] at h1
    have h2 : skel1 y = skel1 k := by simpa using h1
    have h3 := h.2 y (List.mem_of_getElem? ha)
    have hl := congrArg List.length h2
    simp only [skel1, List.length_map] at hl
    refine ⟨by rw [← hl]; exact h3.1, fun m hm => ?_⟩
    have : (m.name, m.ty) ∈ skel1 y := by rw [h2]; exact List.mem_map.2 ⟨m, hm, rfl⟩
    obtain ⟨m', hm', e⟩ := List.mem_map.1 this
    have := h3.2 m' hm'
    simp only [Prod.mk.injEq] at e
    rw [← e.2]; exact this
theorem same_weight : ∀ (t u : Ty), same t u = true → weight u = weight t := by
  refine Ty.rose fun t ih => ?_
  intro u h
  rw [same_eq] at h
  simp only [Bool.and_eq_true] at h
  have h1 := (sameL_iff _ _).1 h.2
  rw [weight_eq, weight_eq]
  congr 1
  have : ∀ (ts us : List Ty), ts.length = us.length → (∀ (i : Nat) (a b : Ty), ts[i]? = some a → us[i]? = some b → weight b = weight a) → wsum us = wsum ts := by
    intro ts
    induction ts with
    | nil => intro us hl _; cases us <;> simp_all [wsum]
    | cons a ts ih2 =>
      intro us hl hh
      cases us with
      | nil => simp at hl
      | cons b us =>
        simp only [wsum]
        rw [hh 0 a b rfl rfl, ih2 us (by simpa using hl) (fun i x y hx hy => hh (i + 1) x y (by simpa using hx) (by simpa using hy))]
  exact this _ _ h1.1 (fun i a b ha hb => ih a (List.mem_of_getElem? ha) b (h1.2 i a b ha hb))
theorem same_symm : ∀ (t u : Ty), same t u = true → same u t = true := by
  refine Ty.rose fun t ih => ?_
  intro u h
  rw [same_eq] at h ⊢
  simp only [Bool.and_eq_true, beq_iff_eq, decide_eq_true_eq] at h ⊢
  have h1 := (sameL_iff _ _).1 h.2
  exact ⟨⟨h.1.1.symm, h.1.2.symm⟩, (sameL_iff _ _).2 ⟨h1.1.symm, fun i a b ha hb => ih b (List.mem_of_getElem? hb) a (h1.2 i b a hb ha)⟩⟩
theorem same_trans : ∀ (t u v : Ty), same t u = true → same u v = true → same t v = true := by
  refine Ty.rose fun t ih => ?_
  intro u v h k
  rw [same_eq] at h k ⊢
  simp only [Bool.and_eq_true, beq_iff_eq, decide_eq_true_eq] at h k ⊢
  have h1 := (sameL_iff _ _).1 h.2
  have k1 := (sameL_iff _ _).1 k.2
  refine ⟨⟨h.1.1.trans k.1.1, h.1.2.trans k.1.2⟩, (sameL_iff _ _).2 ⟨h1.1.trans k1.1, fun i a b ha hb => ?_⟩⟩
  have hl : i < u.els.length := by rw [k1.1]; exact (List.getElem?_eq_some_iff.1 hb).1
  obtain ⟨c, hc⟩ : ∃ c, u.els[i]? = some c := ⟨_, List.getElem?_eq_getElem hl⟩
  exact ih a (List.mem_of_getElem? ha) c b (h1.2 i a c ha hc) (k1.2 i c b hc hb)

end ScoT
namespace Go.Proofs.YtfpjleabmemieaaGreat
open Go.Instr Go.RowKit ScoT
set_option linter.unusedVariables false
variable {w : World} {tag : Nat → Tag} {n₀ s : Nat} {A : Option Addr} {cap : Nat} {bs : List Bk}
/-- The scope when a name was used. -/
def usedBs (name : ByteArray) (bs : List Bk) : List Bk := match seek name bs with | none => bs | some (i, j) => useAt bs i j
theorem tell_used {name : ByteArray} {e : Ending} {w' : World} (h : SC w tag n₀ s A cap bs) (hq : TellPost true name bs w e w') : (∃ v b, e = .returned (.tuple #[v, .bool b])) ∧ SC w' tag n₀ s A cap (usedBs name bs) ∧ Turns w tag w' tag := by
  unfold TellPost at hq
  unfold usedBs
  cases hs : seek name bs with
  | none =>
    rw [hs] at hq
    obtain ⟨rfl, hb⟩ := hq
    exact ⟨⟨_, _, rfl⟩, h.keep hb.size (fun b hx => hb.block b (h.lt b hx).2), Turns.of_below hb⟩
  | some ij =>
    obtain ⟨i, j⟩ := ij
    rw [hs] at hq
    obtain ⟨k, m, t', hi, hj, rfl, hsm, hin, hb⟩ := hq
    exact ⟨⟨_, _, rfl⟩, used_scope h hi hj hb⟩
theorem tell_looked {name : ByteArray} {e : Ending} {w' : World} (h : SC w tag n₀ s A cap bs) (hq : TellPost false name bs w e w') : (∃ v b, e = .returned (.tuple #[v, .bool b])) ∧ SC w' tag n₀ s A cap bs ∧ Below w.heap.size w w' := by
  unfold TellPost at hq
  cases hs : seek name bs with
  | none =>
    rw [hs] at hq
    obtain ⟨rfl, hb⟩ := hq
    exact ⟨⟨_, _, rfl⟩, h.keep hb.size (fun b hx => hb.block b (h.lt b hx).2), hb⟩
  | some ij =>
    obtain ⟨i, j⟩ := ij
    rw [hs] at hq
    obtain ⟨k, m, t', hi, hj, rfl, hsm, hin, hb⟩ := hq
    exact ⟨⟨_, _, rfl⟩, h.keep (show w.heap.size ≤ w'.heap.size from hb.size) (fun b hx => (show Below w.heap.size w w' from hb).block b (h.lt b hx).2), hb⟩
theorem copiesK_any {t : Ty} (h : weight t ≤ 100000) : CopiesK t := fun w S hin hS => copied_any t w S hin hS h
theorem copies_any {t : Ty} (h : weight t ≤ 100000) : Copies t := fun w S hin hS => copied_any t w S hin hS h
/-- What a name was looked up as. -/
def lookRel (bs : List Bk) (name : ByteArray) (t : Ty) : Prop := match seek name bs with
  | none => t = zeroTy
  | some (i, j) => ∃ k m, bs[i]? = some k ∧ k.names[j]? = some m ∧ same m.ty t = true
theorem tell_rel {name : ByteArray} {e : Ending} {w' : World} (hq : TellPost false name bs w e w') : ∃ t b, e = .returned (.tuple #[t.val, .bool b]) ∧ lookRel bs name t ∧ InO 26 w' w.heap.size t ∧ Below w.heap.size w w' := by
  unfold TellPost at hq
  unfold lookRel
  cases hs : seek name bs with
  | none =>
    rw [hs] at hq
    obtain ⟨rfl, hb⟩ := hq
    exact ⟨zeroTy, _, rfl, rfl, ⟨In.zero _ _, Apt.leaf⟩, hb⟩
  | some ij =>
    obtain ⟨i, j⟩ := ij
    rw [hs] at hq
    obtain ⟨k, m, t', hi, hj, rfl, hsm, hin, hb⟩ := hq
    exact ⟨t', _, rfl, ⟨k, m, hi, hj, hsm⟩, hin, hb⟩
theorem skel_used (name : ByteArray) (bs : List Bk) : skel (usedBs name bs) = skel bs := by
  unfold usedBs
  cases seek name bs with
  | none => rfl
  | some ij => exact skel_use bs ij.1 ij.2
theorem _root_.ScoT.Small.cop {bs : List Bk} {c : Nat} (h : Small bs c) : ∀ k ∈ bs, ∀ m ∈ k.names, Copies m.ty := fun k hk m hm => copies_any (by have := (h.2 k hk).2 m hm; omega)
theorem _root_.ScoT.Small.open_ {bs : List Bk} {c : Nat} (h : Small bs c) {bb mb : Nat} : Small (bs ++ [⟨bb, .slice none 0 0, mb, []⟩]) (c + 1) := by
  refine ⟨by have := h.1; simp; omega, fun k hk => ?_⟩
  rcases List.mem_append.1 hk with hk | hk
  · exact ((h.mono (Nat.le_succ c)).2 k hk)
  · obtain rfl := List.mem_singleton.1 hk
    simp
theorem _root_.ScoT.Small.left {xs : List Bk} {k : Bk} {c : Nat} (h : Small (xs ++ [k]) c) : Small xs c := ⟨by have := h.1; simp at this; omega, fun k hk => h.2 k (List.mem_append_left _ hk)⟩
theorem _root_.ScoT.Small.once {xs : List Bk} {k : Bk} {c : Nat} (h : Small (xs ++ [k]) c) {o : Value} {name : ByteArray} {t : Ty} {m : Nat} (hw : weight t ≤ 50) : Small (xs ++ [{ k with ord := o, names := k.names ++ [⟨name, t, false, m⟩] }]) (c + 1) := by
  refine ⟨by have := h.1; simp at this ⊢; omega, fun q hq => ?_⟩
  rcases List.mem_append.1 hq with hq | hq
  · exact ((h.left.mono (Nat.le_succ c)).2 q hq)
  · obtain rfl := List.mem_singleton.1 hq
    have h1 := h.2 k (by simp)
    refine ⟨by have := h1.1; simp; omega, fun q hq => ?_⟩
    rcases List.mem_append.1 hq with hq | hq
    · exact h1.2 q hq
    · obtain rfl := List.mem_singleton.1 hq
      exact hw
theorem _root_.ScoT.seekTo_app (name : ByteArray) (xs : List Bk) (k : Bk) (n : Nat) (hn : n ≤ xs.length) : seekTo name (xs ++ [k]) n = seekTo name xs n := by
  induction n with
  | zero => rfl
  | succ n ih =>
    simp only [seekTo, List.getElem?_append_left (show n < xs.length by omega), ih (by omega)]
end Go.Proofs.YtfpjleabmemieaaGreat
