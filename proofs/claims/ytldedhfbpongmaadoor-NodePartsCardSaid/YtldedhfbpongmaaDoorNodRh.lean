/- Where a tree lies makes no difference to whether it is right, how deep it is, how many nodes it has. -/
import Derived.Test.YtldedhfbpongmaaDoorNodRb
import Derived.Test.YtldedhfbpongmaaDoorNodAr
set_option maxRecDepth 100000
namespace NodT
open Go
set_option linter.unusedVariables false
set_option linter.unusedSimpArgs false
theorem fitsQ_map : ∀ (ps : List (Nd → Bool)) (K : List Nd), (∀ p ∈ ps, ∀ t, p (er t) = p t) → fitsQ ps (K.map er) = fitsQ ps K := by
  intro ps
  induction ps with
  | nil => intro K _; rfl
  | cons p ps ih =>
    intro K h
    cases K with
    | nil => rfl
    | cons k K => simp only [List.map_cons, fitsQ, h p (List.mem_cons_self), ih K fun q hq => h q (List.mem_cons_of_mem _ hq)]
theorem stepQ_map (ps : List (Nd → Bool)) (K : List Nd) (h : ∀ p ∈ ps, ∀ t, p (er t) = p t) : stepQ ps (K.map er) = (stepQ ps K).map (List.map er) := by
  unfold stepQ
  rw [fitsQ_map ps K h]
  split
  · simp
  · rfl
theorem isK_er (ks : List Nat) (t : Nd) : isK ks (er t) = isK ks t := by unfold isK; rw [er_kind]
theorem placeOf_er : ∀ (f : Nat) (t : Nd), placeOf f (er t) = placeOf f t := by
  intro f
  induction f with
  | zero => intro t; simp only [placeOf, er_kind]
  | succ f ih =>
    intro t
    unfold placeOf
    rw [er_kids, erL_map, er_kind]
    cases t.kids with
    | nil => rfl
    | cons u us => simp only [List.map_cons, ih u]
theorem placeB_er (t : Nd) : placeB (er t) = placeB t := placeOf_er 60 t
theorem stepK (ks : List Nat) (K : List Nd) : stepQ [isK ks] (K.map er) = (stepQ [isK ks] K).map (List.map er) := stepQ_map _ _ (by simp [isK_er])
theorem stepKK (ks ls : List Nat) (K : List Nd) : stepQ [isK ks, isK ls] (K.map er) = (stepQ [isK ks, isK ls] K).map (List.map er) := stepQ_map _ _ (by simp [isK_er])
theorem stepKKK (ks ls ms : List Nat) (K : List Nd) : stepQ [isK ks, isK ls, isK ms] (K.map er) = (stepQ [isK ks, isK ls, isK ms] K).map (List.map er) := stepQ_map _ _ (by simp [isK_er])
theorem stepR (n : Nat) (ks : List Nat) (K : List Nd) : stepQ (List.replicate n (isK ks)) (K.map er) = (stepQ (List.replicate n (isK ks)) K).map (List.map er) := stepQ_map _ _ (fun p hp t => by rw [List.eq_of_mem_replicate hp, isK_er])
theorem stepP (n : Nat) (K : List Nd) : stepQ (List.replicate n placeB) (K.map er) = (stepQ (List.replicate n placeB) K).map (List.map er) := stepQ_map _ _ (fun p hp t => by rw [List.eq_of_mem_replicate hp, placeB_er])
theorem allK (ks : List Nat) (K : List Nd) : (K.map er).all (isK ks) = K.all (isK ks) := by
  rw [List.all_map]
  congr 1
  funext t
  exact isK_er ks t
theorem bind_er (x : Option (List Nd)) (F : List Nd → Option (List Nd)) (h : ∀ K, F (K.map er) = (F K).map (List.map er)) : (x.map (List.map er)).bind F = (x.bind F).map (List.map er) := by
  cases x with
  | none => rfl
  | some K => exact h K
theorem nil_er (K : List Nd) : (K.map er = []) = (K = []) := by simp
set_option maxHeartbeats 1000000 in
theorem eats_er (k : Nat) (n : Int) (K : List Nd) : eats k n (K.map er) = (eats k n K).map (List.map er) := by
  have ite_all : ∀ (ks : List Nat) (K : List Nd), (if (K.map er).all (isK ks) then (some [] : Option (List Nd)) else none) = (if K.all (isK ks) then (some [] : Option (List Nd)) else none).map (List.map er) := by
    intro ks K
    rw [allK]
    split <;> rfl
  have ite_nil : ∀ (ks : List Nat) (K : List Nd), (if K.map er = [] then (some [] : Option (List Nd)) else stepQ [isK ks] (K.map er)) = (if K = [] then (some [] : Option (List Nd)) else stepQ [isK ks] K).map (List.map er) := by
    intro ks K
    by_cases h : K = []
    · simp [h]
    · rw [if_neg (by simpa using h), if_neg h, stepK]
  unfold eats
  split
  all_goals first
    | exact ite_all _ _
    | exact stepK _ _
    | exact stepKK _ _ _
    | exact stepKKK _ _ _ _
    | rfl
    | (rw [stepK]; exact bind_er _ _ fun K => ite_nil _ K)
    | (rw [stepKK]; exact bind_er _ _ fun K => ite_nil _ K)
    | (rw [stepK]; exact bind_er _ _ fun K => ite_all _ K)
    | (rw [stepK]; exact bind_er _ _ fun K => stepK _ K)
    | (rw [List.length_map, stepR]; exact bind_er _ _ fun K => stepK _ K)
    | (rw [List.length_map]; split
       · rw [stepK]; exact bind_er _ _ fun K => stepK _ K
       · exact stepK _ _)
    | (split
       · rw [stepR]; exact bind_er _ _ fun K => stepK _ K
       · rw [stepR]; exact bind_er _ _ fun K => stepK _ K)
    | (split
       · rw [stepP]
         refine bind_er _ _ fun K => ?_
         rw [List.length_map]
         split
         · exact stepK _ _
         · exact stepR _ _ _
       · rw [stepP]; exact bind_er _ _ fun K => stepR _ _ K)
theorem er_eq (t : Nd) : er t = .mk t.kind t.text t.num t.place none 0 (t.kids.map er) := by cases t; rw [← erL_map]; rfl
theorem kidsB_er (t : Nd) : kidsB (er t) = kidsB t := by
  unfold kidsB
  have : eats (er t).kind (er t).num (er t).kids = (eats t.kind t.num t.kids).map (List.map er) := by
    rw [← eats_er, er_eq]
    rfl
  rw [this]
  cases eats t.kind t.num t.kids with
  | none => rfl
  | some K => cases K <;> rfl
theorem locB_er (rk d : Nat) (t : Nd) : locB rk d (er t) = locB rk d t := by
  unfold locB
  rw [kidsB_er]
  rw [er_eq]
  rfl
theorem okT_er (rk : Nat) : ∀ (t : Nd) (d : Nat), okT rk d (er t) = okT rk d t := by
  refine Nd.rose fun t ih d => ?_
  rw [okT_eq, okT_eq, locB_er, okL_all, okL_all, er_kids, erL_map, List.all_map]
  congr 1
  rw [Bool.eq_iff_iff, List.all_eq_true, List.all_eq_true]
  exact ⟨fun h u hu => by rw [← ih u hu]; exact h u hu, fun h u hu => by show okT rk (d + 1) (er u) = true; rw [ih u hu]; exact h u hu⟩
theorem many_er : ∀ t : Nd, many (er t) = many t := by
  refine Nd.rose fun t ih => ?_
  rw [many_eq, many_eq, er_kids, erL_map]
  have : ∀ ks : List Nd, (∀ u ∈ ks, many (er u) = many u) → manyL (ks.map er) = manyL ks := by
    intro ks
    induction ks with
    | nil => intro _; rfl
    | cons k ks ih2 =>
      intro h
      simp only [List.map_cons, manyL]
      rw [h k (List.mem_cons_self), ih2 fun u hu => h u (List.mem_cons_of_mem _ hu)]
  rw [this _ ih]
theorem deep_er : ∀ t : Nd, deep (er t) = deep t := by
  refine Nd.rose fun t ih => ?_
  rw [deep_eq, deep_eq, er_kids, erL_map]
  have : ∀ ks : List Nd, (∀ u ∈ ks, deep (er u) = deep u) → deepL (ks.map er) = deepL ks := by
    intro ks
    induction ks with
    | nil => intro _; rfl
    | cons k ks ih2 =>
      intro h
      simp only [List.map_cons, deepL]
      rw [h k (List.mem_cons_self), ih2 fun u hu => h u (List.mem_cons_of_mem _ hu)]
  rw [this _ ih]
theorem rightB_er (t : Nd) : rightB (er t) = rightB t := by
  unfold rightB allB
  rw [er_kind, okT_er, many_er]
end NodT
