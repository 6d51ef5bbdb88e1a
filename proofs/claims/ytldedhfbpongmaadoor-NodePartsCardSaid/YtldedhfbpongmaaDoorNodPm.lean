/- What is right stays right: with other places, with one kid alone, with two kids changed about, with one kid left out. -/
import Derived.Test.YtldedhfbpongmaaDoorNodRh
import Derived.Test.YtldedhfbpongmaaDoorNodSb
import Derived.Test.YtldedhfbpongmaaDoorNodBd
set_option maxRecDepth 100000
namespace NodT.Ez
open Go
set_option linter.unusedVariables false
set_option linter.unusedSimpArgs false
mutual
/-- A tree without its places, those in memory and those in the text. -/
def ez : Nd → Nd | .mk k s n _ _ _ ks => .mk k s n 0 none 0 (ezL ks)
def ezL : List Nd → List Nd | [] => [] | t :: ts => ez t :: ezL ts
end
theorem ezL_map (ts : List Nd) : ezL ts = ts.map ez := by induction ts with | nil => rfl | cons t ts ih => simp [ezL, ih]
theorem ez_kind (t : Nd) : (ez t).kind = t.kind := by cases t; rfl
theorem ez_kids (t : Nd) : (ez t).kids = ezL t.kids := by cases t; rfl
theorem fitsQ_map : ∀ (ps : List (Nd → Bool)) (K : List Nd), (∀ p ∈ ps, ∀ t, p (ez t) = p t) → fitsQ ps (K.map ez) = fitsQ ps K := by
  intro ps
  induction ps with
  | nil => intro K _; rfl
  | cons p ps ih =>
    intro K h
    cases K with
    | nil => rfl
    | cons k K => simp only [List.map_cons, fitsQ, h p (List.mem_cons_self), ih K fun q hq => h q (List.mem_cons_of_mem _ hq)]
theorem stepQ_map (ps : List (Nd → Bool)) (K : List Nd) (h : ∀ p ∈ ps, ∀ t, p (ez t) = p t) : stepQ ps (K.map ez) = (stepQ ps K).map (List.map ez) := by
  unfold stepQ
  rw [fitsQ_map ps K h]
  split
  · simp
  · rfl
theorem isK_ez (ks : List Nat) (t : Nd) : isK ks (ez t) = isK ks t := by unfold isK; rw [ez_kind]
theorem placeOf_ez : ∀ (f : Nat) (t : Nd), placeOf f (ez t) = placeOf f t := by
  intro f
  induction f with
  | zero => intro t; simp only [placeOf, ez_kind]
  | succ f ih =>
    intro t
    unfold placeOf
    rw [ez_kids, ezL_map, ez_kind]
    cases t.kids with
    | nil => rfl
    | cons u us => simp only [List.map_cons, ih u]
theorem placeB_ez (t : Nd) : placeB (ez t) = placeB t := placeOf_ez 60 t
theorem stepK (ks : List Nat) (K : List Nd) : stepQ [isK ks] (K.map ez) = (stepQ [isK ks] K).map (List.map ez) := stepQ_map _ _ (by simp [isK_ez])
theorem stepKK (ks ls : List Nat) (K : List Nd) : stepQ [isK ks, isK ls] (K.map ez) = (stepQ [isK ks, isK ls] K).map (List.map ez) := stepQ_map _ _ (by simp [isK_ez])
theorem stepKKK (ks ls ms : List Nat) (K : List Nd) : stepQ [isK ks, isK ls, isK ms] (K.map ez) = (stepQ [isK ks, isK ls, isK ms] K).map (List.map ez) := stepQ_map _ _ (by simp [isK_ez])
theorem stepR (n : Nat) (ks : List Nat) (K : List Nd) : stepQ (List.replicate n (isK ks)) (K.map ez) = (stepQ (List.replicate n (isK ks)) K).map (List.map ez) := stepQ_map _ _ (fun p hp t => by rw [List.eq_of_mem_replicate hp, isK_ez])
theorem stepP (n : Nat) (K : List Nd) : stepQ (List.replicate n placeB) (K.map ez) = (stepQ (List.replicate n placeB) K).map (List.map ez) := stepQ_map _ _ (fun p hp t => by rw [List.eq_of_mem_replicate hp, placeB_ez])
theorem allK (ks : List Nat) (K : List Nd) : (K.map ez).all (isK ks) = K.all (isK ks) := by
  rw [List.all_map]
  congr 1
  funext t
  exact isK_ez ks t
theorem bind_ez (x : Option (List Nd)) (F : List Nd → Option (List Nd)) (h : ∀ K, F (K.map ez) = (F K).map (List.map ez)) : (x.map (List.map ez)).bind F = (x.bind F).map (List.map ez) := by
  cases x with
  | none => rfl
  | some K => exact h K
theorem nil_ez (K : List Nd) : (K.map ez = []) = (K = []) := by simp
set_option maxHeartbeats 1000000 in
theorem eats_ez (k : Nat) (n : Int) (K : List Nd) : eats k n (K.map ez) = (eats k n K).map (List.map ez) := by
  have ite_all : ∀ (ks : List Nat) (K : List Nd), (if (K.map ez).all (isK ks) then (some [] : Option (List Nd)) else none) = (if K.all (isK ks) then (some [] : Option (List Nd)) else none).map (List.map ez) := by
    intro ks K
    rw [allK]
    split <;> rfl
  have ite_nil : ∀ (ks : List Nat) (K : List Nd), (if K.map ez = [] then (some [] : Option (List Nd)) else stepQ [isK ks] (K.map ez)) = (if K = [] then (some [] : Option (List Nd)) else stepQ [isK ks] K).map (List.map ez) := by
    intro ks K
    by_cases h : K = []
    · simp [h]
    · rw [if_neg (by simpa using h), if_neg h, stepK]
  unfold eats
  split
  all_goals first
    | exact ite_all _ _
    | exact stepK _ _
    | exact stepKK _ _ _
    | exact stepKKK _ _ _ _
    | rfl
    | (rw [stepK]; exact bind_ez _ _ fun K => ite_nil _ K)
    | (rw [stepKK]; exact bind_ez _ _ fun K => ite_nil _ K)
    | (rw [stepK]; exact bind_ez _ _ fun K => ite_all _ K)
    | (rw [stepK]; exact bind_ez _ _ fun K => stepK _ K)
    | (rw [List.length_map, stepR]; exact bind_ez _ _ fun K => stepK _ K)
    | (rw [List.length_map]; split
       · rw [stepK]; exact bind_ez _ _ fun K => stepK _ K
       · exact stepK _ _)
    | (split
       · rw [stepR]; exact bind_ez _ _ fun K => stepK _ K
       · rw [stepR]; exact bind_ez _ _ fun K => stepK _ K)
    | (split
       · rw [stepP]
         refine bind_ez _ _ fun K => ?_
         rw [List.length_map]
         split
         · exact stepK _ _
         · exact stepR _ _ _
       · rw [stepP]; exact bind_ez _ _ fun K => stepR _ _ K)
theorem ez_eq (t : Nd) : ez t = .mk t.kind t.text t.num 0 none 0 (t.kids.map ez) := by cases t; rw [← ezL_map]; rfl
theorem kidsB_ez (t : Nd) : kidsB (ez t) = kidsB t := by
  unfold kidsB
  have : eats (ez t).kind (ez t).num (ez t).kids = (eats t.kind t.num t.kids).map (List.map ez) := by
    rw [← eats_ez, ez_eq]
    rfl
  rw [this]
  cases eats t.kind t.num t.kids with
  | none => rfl
  | some K => cases K <;> rfl

mutual
/-- No place is below nought. -/
def posP : Nd → Bool | .mk _ _ _ p _ _ ks => decide (0 ≤ p) && posPL ks
def posPL : List Nd → Bool | [] => true | t :: ts => posP t && posPL ts
end
theorem posP_eq (t : Nd) : posP t = (decide (0 ≤ t.place) && posPL t.kids) := by cases t; rfl
theorem posPL_all (ts : List Nd) : posPL ts = ts.all posP := by
  induction ts with
  | nil => rfl
  | cons t ts ih => simp only [posPL, List.all_cons, ih]
theorem locB_ez (rk d : Nat) (t : Nd) : locB rk d t = (decide (0 ≤ t.place) && locB rk d (ez t)) := by
  have e2 : (ez t).text = t.text := by cases t; rfl
  have e3 : (ez t).num = t.num := by cases t; rfl
  have e4 : (ez t).place = 0 := by cases t; rfl
  have e5 : decide ((0 : Int) ≤ 0) = true := rfl
  unfold locB
  rw [kidsB_ez, ez_kind, e2, e3, e4, e5, Bool.and_true]
  generalize decide (0 ≤ t.place) = a
  cases a <;> simp
theorem okT_ez (rk : Nat) : ∀ (t : Nd) (d : Nat), okT rk d t = (posP t && okT rk d (ez t)) := by
  refine Nd.rose fun t ih d => ?_
  rw [okT_eq, okT_eq, locB_ez, okL_all, okL_all, ez_kids, ezL_map, List.all_map, posP_eq, posPL_all]
  rw [Bool.eq_iff_iff]
  simp only [Bool.and_eq_true, List.all_eq_true, Function.comp]
  constructor
  · rintro ⟨⟨h1, h2⟩, h3⟩
    have h4 : ∀ u ∈ t.kids, posP u = true ∧ okT rk (d + 1) (ez u) = true := fun u hu => by
      have := h3 u hu
      rw [ih u hu, Bool.and_eq_true] at this
      exact this
    exact ⟨⟨h1, fun u hu => (h4 u hu).1⟩, h2, fun u hu => (h4 u hu).2⟩
  · rintro ⟨⟨h1, h3⟩, h2, h4⟩
    exact ⟨⟨h1, h2⟩, fun u hu => by rw [ih u hu, h3 u hu, h4 u hu]; rfl⟩
theorem many_ez : ∀ t : Nd, many (ez t) = many t := by
  refine Nd.rose fun t ih => ?_
  rw [many_eq, many_eq, ez_kids, ezL_map]
  have : ∀ ks : List Nd, (∀ u ∈ ks, many (ez u) = many u) → manyL (ks.map ez) = manyL ks := by
    intro ks
    induction ks with
    | nil => intro _; rfl
    | cons k ks ih2 =>
      intro h
      simp only [List.map_cons, manyL]
      rw [h k (List.mem_cons_self), ih2 fun u hu => h u (List.mem_cons_of_mem _ hu)]
  rw [this _ ih]
theorem deep_ez : ∀ t : Nd, deep (ez t) = deep t := by
  refine Nd.rose fun t ih => ?_
  rw [deep_eq, deep_eq, ez_kids, ezL_map]
  have : ∀ ks : List Nd, (∀ u ∈ ks, deep (ez u) = deep u) → deepL (ks.map ez) = deepL ks := by
    intro ks
    induction ks with
    | nil => intro _; rfl
    | cons k ks ih2 =>
      intro h
      simp only [List.map_cons, deepL]
      rw [h k (List.mem_cons_self), ih2 fun u hu => h u (List.mem_cons_of_mem _ hu)]
  rw [this _ ih]
theorem right_ez (t : Nd) : rightB t = (posP t && rightB (ez t)) := by
  unfold rightB allB
  rw [ez_kind, okT_ez, many_ez]
  generalize [1, 9].contains t.kind = a
  generalize decide (many t ≤ 32768) = b
  cases a <;> cases b <;> simp
theorem bytes_eq {a b : ByteArray} (h : a.toList = b.toList) : a = b := by
  rw [ByteArray.toList_eq, ByteArray.toList_eq] at h
  exact ByteArray.ext (Array.toList_inj.1 h)
theorem same_ez : ∀ t u : Nd, same t u = true → ez t = ez u := by
  refine Nd.rose fun t ih u h => ?_
  rw [same_eq] at h
  simp only [Bool.and_eq_true, beq_iff_eq] at h
  obtain ⟨⟨⟨h1, h2⟩, h3⟩, h4⟩ := h
  obtain ⟨hl, ha⟩ := (sameL_iff _ _).1 h4
  rw [ez_eq, ez_eq, h1, bytes_eq h2, h3]
  congr 1
  refine List.ext_getElem (by simp [hl]) fun i hi hj => ?_
  simp only [List.length_map] at hi hj
  simp only [List.getElem_map]
  exact ih _ (List.getElem_mem hi) _ (ha i _ _ (List.getElem?_eq_getElem hi) (List.getElem?_eq_getElem hj))
theorem right_pos {t : Nd} (h : rightB t = true) : posP t = true := by
  rw [right_ez, Bool.and_eq_true] at h
  exact h.1
/-- What is the same but for places, and has none below nought, is right as well. -/
theorem right_same {t u : Nd} (h : rightB t = true) (hs : same t u = true) (hp : posP u = true) : rightB u = true := by
  rw [right_ez, Bool.and_eq_true] at h
  rw [right_ez, hp, ← same_ez t u hs, h.2]
  rfl
theorem deep_same {t u : Nd} (hs : same t u = true) : deep u = deep t := by rw [← deep_ez u, ← same_ez t u hs, deep_ez]
theorem many_same {t u : Nd} (hs : same t u = true) : many u = many t := by rw [← many_ez u, ← same_ez t u hs, many_ez]
theorem deepL_le {ts : List Nd} {n : Nat} (h : ∀ u ∈ ts, deep u ≤ n) : deepL ts ≤ n := by
  induction ts with
  | nil => exact Nat.zero_le _
  | cons t ts ih =>
    have h1 := h t (List.mem_cons_self)
    have h2 := ih fun u hu => h u (List.mem_cons_of_mem _ hu)
    simp only [deepL]
    omega
theorem okT_deep (rk : Nat) : ∀ (t : Nd) (d : Nat), okT rk d t = true → deep t + d ≤ 61 := by
  refine Nd.rose fun t ih d h => ?_
  rw [okT_eq, Bool.and_eq_true, okL_all, List.all_eq_true] at h
  have hd : d ≤ 60 := by
    have := h.1
    unfold locB at this
    simp only [Bool.and_eq_true, decide_eq_true_eq] at this
    exact this.1.1.1.1.1
  have := deepL_le (n := 60 - d) fun u hu => by have := ih u hu (d + 1) (h.2 u hu); omega
  rw [deep_eq]
  omega
theorem right_deep {t : Nd} (h : rightB t = true) : deep t ≤ 60 := by
  unfold rightB allB at h
  simp only [Bool.and_eq_true] at h
  have := okT_deep _ _ _ h.2.1
  omega
theorem right_kind {t : Nd} (h : rightB t = true) : t.kind = 1 ∨ t.kind = 9 := by
  unfold rightB at h
  simp only [Bool.and_eq_true] at h
  have := h.1
  simpa using this
theorem eats_all {k : Nat} (hk : k = 1 ∨ k = 9) (n : Int) : ∃ q : Nd → Bool, ∀ K, eats k n K = if K.all q then some [] else none := by
  rcases hk with rfl | rfl
  · exact ⟨_, fun K => rfl⟩
  · exact ⟨_, fun K => rfl⟩
/-- A file, an action with some of the kids, in whatever order, and no more nodes, is right as well. -/
theorem right_kids {t x : Nd} (h : rightB t = true) (hk : x.kind = t.kind) (hs : x.text = t.text) (hn : x.num = t.num) (hp : x.place = t.place) (hi : ∀ u ∈ x.kids, u ∈ t.kids) (hm : manyL x.kids ≤ manyL t.kids) : rightB x = true := by
  have hkk := right_kind h
  unfold rightB allB at h ⊢
  rw [okT_eq, okL_all, many_eq] at h ⊢
  simp only [Bool.and_eq_true, decide_eq_true_eq, List.all_eq_true] at h ⊢
  obtain ⟨h1, ⟨h2, h3⟩, h4⟩ := h
  refine ⟨by rw [hk]; exact h1, ⟨?_, fun u hu => by rw [hk]; exact h3 u (hi u hu)⟩, by omega⟩
  unfold locB at h2 ⊢
  rw [hk, hs, hn, hp]
  simp only [Bool.and_eq_true] at h2 ⊢
  refine ⟨h2.1, ?_⟩
  have h5 := h2.2
  obtain ⟨q, hq⟩ := eats_all hkk t.num
  unfold kidsB at h5 ⊢
  rw [hk, hn, hq]
  rw [hq] at h5
  by_cases ha : t.kids.all q = true
  · have : x.kids.all q = true := List.all_eq_true.2 fun u hu => List.all_eq_true.1 ha u (hi u hu)
    rw [if_pos this]
  · rw [if_neg ha] at h5
    cases h5
theorem manyL_one {ts : List Nd} {t : Nd} (h : t ∈ ts) : manyL [t] ≤ manyL ts := by
  induction ts with
  | nil => cases h
  | cons u us ih =>
    rcases List.mem_cons.1 h with rfl | h
    · simp only [manyL]; omega
    · have := ih h; simp only [manyL] at this ⊢; omega
theorem manyL_set (ts : List Nd) (i : Nat) (a x : Nd) (h : ts[i]? = some a) : manyL (ts.set i x) + many a = manyL ts + many x := by
  induction ts generalizing i with
  | nil => simp at h
  | cons u us ih =>
    cases i with
    | zero =>
      obtain rfl : u = a := by simpa using h
      simp only [List.set_cons_zero, manyL]; omega
    | succ i =>
      have := ih i (by simpa using h)
      simp only [List.set_cons_succ, manyL]; omega
theorem manyL_swap (ts : List Nd) (i k : Nat) (a b : Nd) (hi : ts[i]? = some a) (hk : ts[k]? = some b) : manyL ((ts.set i b).set k a) = manyL ts := by
  have h1 := manyL_set ts i a b hi
  have h2 := manyL_set (ts.set i b) k b a (by
    by_cases e : i = k
    · subst e
      have := (List.getElem?_eq_some_iff.1 hi).1
      simp [List.getElem?_set, this]
    · simp [List.getElem?_set, e, hk])
  omega
theorem mem_swap (ts : List Nd) (i k : Nat) (a b : Nd) (hi : ts[i]? = some a) (hk : ts[k]? = some b) : ∀ u ∈ (ts.set i b).set k a, u ∈ ts := by
  intro u hu
  rcases List.mem_or_eq_of_mem_set hu with hu | rfl
  · rcases List.mem_or_eq_of_mem_set hu with hu | rfl
    · exact hu
    · exact List.mem_of_getElem? hk
  · exact List.mem_of_getElem? hi
theorem manyL_less (ts : List Nd) (i : Nat) : manyL (ts.take i ++ ts.drop (i + 1)) ≤ manyL ts := by
  have h1 := manyL_append (ts.take i) (ts.drop i)
  rw [List.take_append_drop] at h1
  rw [manyL_append]
  have : manyL (ts.drop (i + 1)) ≤ manyL (ts.drop i) := by
    rw [← List.tail_drop]
    cases ts.drop i with
    | nil => exact Nat.le_refl _
    | cons u us => simp only [List.tail_cons, manyL]; omega
  omega
theorem mem_less (ts : List Nd) (i : Nat) : ∀ u ∈ ts.take i ++ ts.drop (i + 1), u ∈ ts := by
  intro u hu
  rcases List.mem_append.1 hu with hu | hu
  · exact List.mem_of_mem_take hu
  · exact List.mem_of_mem_drop hu
theorem same_less {t x : Nd} (h : x.kids.length ≠ t.kids.length) : same t x = false := by
  rw [same_eq]
  have : sameL t.kids x.kids = false := by
    rw [Bool.eq_false_iff]
    exact fun e => h ((sameL_iff _ _).1 e).1.symm
  rw [this, Bool.and_false]
mutual
/-- A tree, its places moved: each below 1000, and as far on as it is deep. -/
def mv : Int → Nd → Nd | b, .mk k s n p A c ks => .mk k s n (max p 0 % 1000 + b) A c (mvL (b + 1) ks)
def mvL : Int → List Nd → List Nd | _, [] => [] | b, t :: ts => mv b t :: mvL b ts
end
theorem mvL_map (b : Int) (ts : List Nd) : mvL b ts = ts.map (mv b) := by induction ts with | nil => rfl | cons t ts ih => simp [mvL, ih]
theorem mv_eq (b : Int) (t : Nd) : mv b t = .mk t.kind t.text t.num (max t.place 0 % 1000 + b) t.addr t.cap (t.kids.map (mv (b + 1))) := by cases t; rw [← mvL_map]; rfl
theorem same_mv : ∀ (t : Nd) (b : Int), same t (mv b t) = true := by
  refine Nd.rose fun t ih b => ?_
  rw [mv_eq, same_mk]
  have : sameL t.kids (t.kids.map (mv (b + 1))) = true := by
    refine (sameL_iff _ _).2 ⟨by simp, fun i x y hx hy => ?_⟩
    rw [List.getElem?_map, hx] at hy
    obtain rfl : mv (b + 1) x = y := by simpa using hy
    exact ih x (List.mem_of_getElem? hx) _
  simp [this]
theorem pos_mv : ∀ (t : Nd) (b : Int), 0 ≤ b → posP (mv b t) = true := by
  refine Nd.rose fun t ih b hb => ?_
  rw [mv_eq, posP_eq, posPL_all, Bool.and_eq_true, List.all_eq_true]
  refine ⟨decide_eq_true ?_, fun u hu => ?_⟩
  · show 0 ≤ max t.place 0 % 1000 + b
    omega
  · obtain ⟨v, hv, rfl⟩ := List.mem_map.1 hu
    exact ih v hv _ (by omega)
theorem same_symm : ∀ t u : Nd, same t u = true → same u t = true := by
  refine Nd.rose fun t ih u h => ?_
  rw [same_eq] at h
  simp only [Bool.and_eq_true, beq_iff_eq] at h
  obtain ⟨⟨⟨h1, h2⟩, h3⟩, h4⟩ := h
  obtain ⟨hl, ha⟩ := (sameL_iff _ _).1 h4
  rw [same_eq]
  have : sameL u.kids t.kids = true := (sameL_iff _ _).2 ⟨hl.symm, fun i a b hu ht => ih b (List.mem_of_getElem? ht) a (ha i b a ht hu)⟩
  simp [h1, h2, h3, this]
theorem same_trans {t u v : Nd} (h : same t u = true) (k : same u v = true) : same t v = true := by
  revert t u v
  suffices H : ∀ t u v : Nd, same t u = true → same u v = true → same t v = true from fun {t u v} h k => H t u v h k
  refine Nd.rose fun t ih u v h k => ?_
  rw [same_eq] at h k
  simp only [Bool.and_eq_true, beq_iff_eq] at h k
  obtain ⟨⟨⟨h1, h2⟩, h3⟩, h4⟩ := h
  obtain ⟨⟨⟨k1, k2⟩, k3⟩, k4⟩ := k
  obtain ⟨hl, ha⟩ := (sameL_iff _ _).1 h4
  obtain ⟨kl, ka⟩ := (sameL_iff _ _).1 k4
  rw [same_eq]
  have : sameL t.kids v.kids = true := by
    refine (sameL_iff _ _).2 ⟨hl.trans kl, fun i a c hta hvc => ?_⟩
    have hi : i < u.kids.length := by have := (List.getElem?_eq_some_iff.1 hta).1; omega
    have hb := List.getElem?_eq_getElem hi
    exact ih a (List.mem_of_getElem? hta) _ _ (ha i _ _ hta hb) (ka i _ _ hb hvc)
  simp [h1, h2, h3, k1, k2, k3, this]
theorem zero_eq (t : Nd) : zero t = (t.place == 0 && zeroL t.kids) := by cases t; rfl
theorem zeroL_mem {ts : List Nd} (h : zeroL ts = true) {u : Nd} (hu : u ∈ ts) : zero u = true := (zeroL_iff ts).1 h u hu
/-- Two trees that are the same, and neither of which has a place but nought, are like. -/
theorem like_zero : ∀ t u : Nd, same t u = true → zero t = true → zero u = true → like t u = true := by
  refine Nd.rose fun t ih u h z1 z2 => ?_
  rw [same_eq] at h
  simp only [Bool.and_eq_true, beq_iff_eq] at h
  obtain ⟨⟨⟨h1, h2⟩, h3⟩, h4⟩ := h
  obtain ⟨hl, ha⟩ := (sameL_iff _ _).1 h4
  rw [zero_eq] at z1 z2
  simp only [Bool.and_eq_true, decide_eq_true_eq, beq_iff_eq] at z1 z2
  rw [like_eq]
  have : likeL t.kids u.kids = true := (likeL_iff _ _).2 ⟨hl, fun i a b hta hub => ih a (List.mem_of_getElem? hta) b (ha i a b hta hub) (zeroL_mem z1.2 (List.mem_of_getElem? hta)) (zeroL_mem z2.2 (List.mem_of_getElem? hub))⟩
  simp [h1, h2, h3, z1.1, z2.1, this]
theorem pos_zero : ∀ t : Nd, zero t = true → posP t = true := by
  refine Nd.rose fun t ih z => ?_
  rw [zero_eq] at z
  simp only [Bool.and_eq_true, decide_eq_true_eq, beq_iff_eq] at z
  rw [posP_eq, posPL_all, Bool.and_eq_true, List.all_eq_true]
  exact ⟨decide_eq_true (by omega), fun u hu => ih u hu (zeroL_mem z.2 hu)⟩
end NodT.Ez
