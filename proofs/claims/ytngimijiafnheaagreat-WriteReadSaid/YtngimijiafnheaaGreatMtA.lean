/- A text's tokens, out of the text: what is told of tokens spells them, with places. -/
/- Tokens that a text spells are told as that text, but for places. -/
import Derived.Test.YtngimijiafnheaaGreatRdZa
set_option maxRecDepth 100000
namespace LexT
set_option linter.unusedVariables false
set_option linter.unusedSimpArgs false
/-- What of a token plays a part: is it a name, an action, or another; its text. -/
def vw (t : Tok) : Nat × Bs := (if t.kind == 2 then 2 else if t.kind == 9 then 9 else 0, t.text)
abbrev Vt := (Nat × Bs) × Option Nat
def Mt (t : Tok) (v : Vt) : Prop := vw t = v.1 ∧ ∀ p, v.2 = some p → t.place = p
/-- Tokens are spelled so. -/
def Sp : List Tok → List Vt → Prop
  | [], [] => True
  | t :: ts, v :: vs => Mt t v ∧ Sp ts vs
  | _, _ => False
theorem Sp.nil : Sp [] [] := trivial
theorem Sp.append : ∀ {a b : List Tok} {x y : List Vt}, Sp a x → Sp b y → Sp (a ++ b) (x ++ y)
  | [], b, [], y, h, h' => h'
  | t :: a, b, v :: x, y, h, h' => ⟨h.1, Sp.append h.2 h'⟩
  | [], b, v :: x, y, h, h' => h.elim
  | t :: a, b, [], y, h, h' => h.elim
theorem Sp.one {t : Tok} {v : Vt} (h : Mt t v) : Sp [t] [v] := ⟨h, trivial⟩
theorem Sp.view : ∀ {a : List Tok} {x : List Vt}, Sp a x → a.map vw = x.map (·.1)
  | [], [], h => rfl
  | t :: a, v :: x, h => by simp [h.1.1, Sp.view h.2]
  | [], v :: x, h => h.elim
  | t :: a, [], h => h.elim
theorem Sp.mem : ∀ {a : List Tok} {x : List Vt}, Sp a x → ∀ v ∈ x, ∃ t ∈ a, Mt t v
  | [], [], h, v, hv => by cases hv
  | t :: a, u :: x, h, v, hv => by
    rcases List.mem_cons.1 hv with rfl | hv
    · exact ⟨t, by simp, h.1⟩
    · obtain ⟨t', h1, h2⟩ := Sp.mem h.2 v hv
      exact ⟨t', by simp [h1], h2⟩
  | [], v :: x, h, _, _ => h.elim
  | t :: a, [], h, _, _ => h.elim
def sgV (s : Bs) : Vt := ((0, s), none)
def nmV (s : Bs) (p : Nat) : Vt := ((2, s), some p)
def noV (s : Bs) : Vt := ((2, s), none)
/-- One behind the other, something between. -/
def sepV (c : Bs) : List (List Vt) → List Vt
  | [] => []
  | x :: r => match r with
    | [] => x
    | _ :: _ => x ++ sgV c :: sepV c r
def givV (xs : List (List Vt)) : List Vt := match xs with | [] => [] | _ :: _ => sgV [40] :: (sepV [44] xs ++ [sgV [41]])
mutual
def wdV : Wd → List Vt
  | .mk n ws p => nmV n p :: givV (wdsV ws)
def wdsV : List Wd → List (List Vt)
  | [] => []
  | x :: xs => wdV x :: wdsV xs
end
theorem wdsV_append : ∀ a b : List Wd, wdsV (a ++ b) = wdsV a ++ wdsV b
  | [], b => rfl
  | x :: a, b => by rw [List.cons_append, wdsV, wdsV, wdsV_append a b]; rfl
theorem wdsV_map : ∀ a : List Wd, wdsV a = a.map wdV
  | [] => rfl
  | x :: a => by rw [wdsV, wdsV_map a]; rfl
def precV (p : Bs) : List Vt := if p = [] then [] else [sgV [112, 114, 101, 99], noV p]
def actV (a : Al) : List Vt := if a.has then [((9, a.action), some (a.where_ - 1))] else []
def alV (a : Al) : List Vt := (wdsV a.words).flatten ++ (precV a.prec ++ actV a)
def ruV (r : Ru) : List Vt := nmV r.name r.at_ :: (givV (r.params.map fun p => [noV p]) ++ (sgV [58] :: (sepV [124] (r.alts.map alV) ++ [sgV [59]])))
def typV (k ty : Bs) : List Vt := if ty = [] then [] else [sgV [60], noV ty, sgV [62]]
def deV (d : De) : List Vt := ((0, d.kind), some d.at_) :: (typV d.kind d.type ++ (d.names.map noV ++ [sgV [59]]))
def txV (x : Tx) : List Vt := (x.decls.map deV).flatten ++ (sgV [37, 37] :: (x.rules.map ruV).flatten)
mutual
/-- Words in at most so many others. -/
def wfW : Nat → Wd → Prop
  | k, .mk n ws p => k ≤ 60 ∧ n ≠ [] ∧ wfWs (k + 1) ws
def wfWs : Nat → List Wd → Prop
  | k, [] => True
  | k, x :: xs => wfW k x ∧ wfWs k xs
end
theorem wfWs_append : ∀ (k : Nat) (a b : List Wd), wfWs k (a ++ b) ↔ wfWs k a ∧ wfWs k b
  | k, [], b => by simp [wfWs]
  | k, x :: a, b => by simp [wfWs, wfWs_append k a b, and_assoc]
theorem wfWs_of (k : Nat) : ∀ ws : List Wd, (∀ y ∈ ws, wfW k y) → wfWs k ws
  | [], h => trivial
  | x :: xs, h => ⟨h x (by simp), wfWs_of k xs fun y hy => h y (by simp [hy])⟩
def wfA (a : Al) : Prop := wfWs 0 a.words ∧ (a.has = false → a.action = [] ∧ a.where_ = 0) ∧ (a.has = true → 1 ≤ a.where_)
def wfR (r : Ru) : Prop := r.name ≠ [] ∧ (∀ p ∈ r.params, p ≠ []) ∧ r.alts ≠ [] ∧ ∀ a ∈ r.alts, wfA a
def wfD (d : De) : Prop := d.kind ∈ kinds ∧ (d.kind = [116, 121, 112, 101] → d.type ≠ []) ∧ (d.kind ≠ [116, 121, 112, 101] → d.kind ≠ [116, 111, 107, 101, 110] → d.type = []) ∧ d.names ≠ [] ∧ ∀ n ∈ d.names, n ≠ []
def wfT (x : Tx) : Prop := (∀ d ∈ x.decls, wfD d) ∧ ∀ r ∈ x.rules, wfR r
/-- No name is empty. -/
def NoE (l : List Tok) : Prop := ∀ t ∈ l, t.kind = 2 → t.text ≠ []
theorem NoE.tail {u l : List Tok} (h : NoE (u ++ l)) : NoE l := fun t ht => h t (by simp [ht])
theorem at_vw {t : Tok} {xs : List Bs} (h : atT t xs = true) : vw t = (0, t.text) ∧ t.text ∈ xs := by
  unfold atT at h
  simp only [Bool.and_eq_true, List.contains_iff_mem, bne_iff_ne, ne_eq] at h
  refine ⟨?_, h.2⟩
  unfold vw
  have h1 : (t.kind == 2) = false := by simpa using h.1.1
  have h2 : (t.kind == 9) = false := by simpa using h.1.2
  simp [h1, h2]
theorem need_sp {xs : List Bs} {l l' : List Tok} {t : Tok} (h : needF xs l = .ok (t, l')) : l = t :: l' ∧ vw t = (0, t.text) ∧ t.text ∈ xs := by
  unfold needF at h
  cases l with
  | nil => cases h
  | cons u r =>
    simp only at h
    split at h
    · rename_i ha
      injection h with h; injection h with h1 h2; subst h1 h2
      exact ⟨rfl, at_vw ha⟩
    · cases h
theorem name_sp {l l' : List Tok} {t : Tok} (h : nameF l = .ok (t, l')) : l = t :: l' ∧ vw t = (2, t.text) ∧ t.kind = 2 := by
  unfold nameF at h
  cases l with
  | nil => cases h
  | cons u r =>
    simp only at h
    split at h
    · rename_i ha
      injection h with h; injection h with h1 h2; subst h1 h2
      exact ⟨rfl, by unfold vw; rw [if_pos ha], by simpa using ha⟩
    · cases h
theorem at_sp {s : Bs} {l : List Tok} (h : atB [s] l = true) : ∃ t, l = t :: l.tail ∧ Mt t (sgV s) := by
  cases l with
  | nil => cases h
  | cons t r =>
    obtain ⟨h1, h2⟩ := at_vw (show atT t [s] = true from h)
    simp at h2
    exact ⟨t, rfl, by rw [h1, h2]; rfl, fun p hp => by cases hp⟩
theorem ok_inj {α : Type} {a b : α} {l m : List Tok} (h : (some (.ok (a, l)) : Pa α) = some (.ok (b, m))) : a = b ∧ l = m := by
  injection h with h; injection h with h; injection h with h1 h2; exact ⟨h1, h2⟩
theorem sepV_cons (c : Bs) (x : List Vt) (ys : List (List Vt)) (h : ys ≠ []) : sepV c (x :: ys) = x ++ sgV c :: sepV c ys := by
  cases ys with
  | nil => exact absurd rfl h
  | cons y r => rfl
/-- One thing or more are spelled one behind the other. -/
theorem some_sp {γ : Type} {one : List γ → List Tok → Pa (List γ)} {sep : Bs} (v : γ → List Vt) (P : γ → Prop)
    (hone : ∀ xs l xs' l', NoE l → one xs l = some (.ok (xs', l')) → ∃ y u, xs' = xs ++ [y] ∧ l = u ++ l' ∧ Sp u (v y) ∧ P y) :
    ∀ (f : Nat) (xs : List γ) (l : List Tok) (xs' : List γ) (l' : List Tok), NoE l → someF one sep f xs l = some (.ok (xs', l')) → ∃ ys u, ys ≠ [] ∧ xs' = xs ++ ys ∧ l = u ++ l' ∧ Sp u (sepV sep (ys.map v)) ∧ ∀ y ∈ ys, P y
  | 0, xs, l, xs', l', hn, h => by cases h
  | f + 1, xs, l, xs', l', hn, h => by
    obtain ⟨zs, m, h1, h2⟩ := bnd_ok (show bnd (one xs l) _ = _ from h)
    obtain ⟨y, u, rfl, rfl, hs, hp⟩ := hone _ _ _ _ hn h1
    by_cases ha : atB [sep] m = true
    · rw [if_pos ha] at h2
      obtain ⟨t, ht, hm⟩ := at_sp ha
      obtain ⟨ys, u2, hne, rfl, hl, hs2, hp2⟩ := some_sp v P hone f _ m.tail xs' l' (by rw [ht] at hn; exact NoE.tail (u := u ++ [t]) (by simpa using hn)) h2
      refine ⟨y :: ys, u ++ t :: u2, by simp, by simp, by rw [ht, hl]; simp, ?_, fun z hz => ?_⟩
      · rw [List.map_cons, sepV_cons _ _ _ (by simpa using hne)]
        exact Sp.append hs ⟨hm, hs2⟩
      · rcases List.mem_cons.1 hz with rfl | hz
        · exact hp
        · exact hp2 z hz
    · rw [if_neg ha] at h2
      obtain ⟨rfl, rfl⟩ := ok_inj h2
      exact ⟨[y], u, by simp, rfl, rfl, hs, by simp [hp]⟩
theorem given_sp {γ : Type} {one : List γ → List Tok → Pa (List γ)} (v : γ → List Vt) (P : γ → Prop)
    (hone : ∀ xs l xs' l', NoE l → one xs l = some (.ok (xs', l')) → ∃ y u, xs' = xs ++ [y] ∧ l = u ++ l' ∧ Sp u (v y) ∧ P y)
    (f : Nat) (l : List Tok) (xs' : List γ) (l' : List Tok) (hn : NoE l) (h : givenF one f [] l = some (.ok (xs', l'))) : ∃ u, l = u ++ l' ∧ Sp u (givV (xs'.map v)) ∧ ∀ y ∈ xs', P y := by
  unfold givenF at h
  split at h
  · rename_i ha
    obtain ⟨zs, m, h1, h2⟩ := bnd_ok h
    obtain ⟨t, m2, h3, h4⟩ := bnd_ok h2
    injection h3 with h3
    obtain ⟨t0, ht, hm⟩ := at_sp ha
    obtain ⟨ys, u, hne, rfl, hl, hs, hp⟩ := some_sp v P hone f [] l.tail zs m (by rw [ht] at hn; exact NoE.tail (u := [t0]) (by simpa using hn)) h1
    obtain ⟨rfl, hv, hmem⟩ := need_sp h3
    obtain ⟨rfl, rfl⟩ := ok_inj h4
    simp at hmem
    refine ⟨t0 :: (u ++ [t]), by rw [ht, hl]; simp, ?_, by simpa using hp⟩
    simp only [List.nil_append] at *
    have hg : givV (zs.map v) = sgV [40] :: (sepV [44] (zs.map v) ++ [sgV [41]]) := by
      cases zs with
      | nil => exact absurd rfl hne
      | cons y r => rfl
    rw [hg]
    exact ⟨hm, Sp.append hs (Sp.one ⟨by rw [hv, hmem]; rfl, fun p hp => by cases hp⟩)⟩
  · obtain ⟨rfl, rfl⟩ := ok_inj h
    exact ⟨[], rfl, Sp.nil, by simp⟩
theorem param_sp (ps : List Bs) (l : List Tok) (ps' : List Bs) (l' : List Tok) (hn : NoE l) (h : paramF ps l = some (.ok (ps', l'))) : ∃ y u, ps' = ps ++ [y] ∧ l = u ++ l' ∧ Sp u [noV y] ∧ y ≠ [] := by
  obtain ⟨t, m, h1, h2⟩ := bnd_ok (show bnd (some (nameF l)) _ = _ from h)
  injection h1 with h1
  obtain ⟨rfl, hv, hk⟩ := name_sp h1
  obtain ⟨rfl, rfl⟩ := ok_inj h2
  exact ⟨t.text, [t], rfl, rfl, Sp.one ⟨hv, fun p hp => by cases hp⟩, hn t (by simp) hk⟩
theorem word_sp : ∀ (f k : Nat) (l : List Tok) (x : Wd) (l' : List Tok), NoE l → wordF f k l = some (.ok (x, l')) → ∃ u, l = u ++ l' ∧ Sp u (wdV x) ∧ wfW k x
  | 0, k, l, x, l', hn, h => by cases h
  | f + 1, k, l, x, l', hn, h => by
    obtain ⟨t, m, h1, h2⟩ := bnd_ok (show bnd (some (nameF l)) _ = _ from h)
    injection h1 with h1
    obtain ⟨rfl, hv, hk⟩ := name_sp h1
    split at h2
    · cases h2
    · rename_i h60
      obtain ⟨ws, m2, h3, h4⟩ := bnd_ok h2
      obtain ⟨u, rfl, hs, hp⟩ := given_sp wdV (wfW (k + 1)) (fun xs l xs' l' hn h => by
        obtain ⟨y, m, h5, h6⟩ := bnd_ok h
        obtain ⟨u, h7, h8, h9⟩ := word_sp f (k + 1) l y m hn h5
        obtain ⟨rfl, rfl⟩ := ok_inj h6
        exact ⟨y, u, rfl, h7, h8, h9⟩) _ _ _ _ (NoE.tail (u := [t]) hn) h3
      obtain ⟨rfl, rfl⟩ := ok_inj h4
      refine ⟨t :: u, rfl, ?_, ?_⟩
      · rw [wdV, wdsV_map]
        exact ⟨⟨hv, fun p hp => by injection hp⟩, hs⟩
      · rw [wfW]
        exact ⟨by omega, hn t (by simp) hk, wfWs_of _ _ hp⟩
theorem words_sp (N : Nat) : ∀ (f : Nat) (ws : List Wd) (l : List Tok) (ws' : List Wd) (l' : List Tok), NoE l → wordsF N f ws l = some (.ok (ws', l')) → ∃ ys u, ws' = ws ++ ys ∧ l = u ++ l' ∧ Sp u (wdsV ys).flatten ∧ wfWs 0 ys ∧ kindB 2 l' = false
  | 0, ws, l, ws', l', hn, h => by cases h
  | f + 1, ws, l, ws', l', hn, h => by
    unfold wordsF at h
    split at h
    · obtain ⟨y, m, h1, h2⟩ := bnd_ok h
      obtain ⟨u, rfl, hs, hp⟩ := word_sp _ _ _ _ _ hn h1
      obtain ⟨ys, u2, rfl, rfl, hs2, hp2, hk⟩ := words_sp N f _ _ _ _ (NoE.tail hn) h2
      exact ⟨y :: ys, u ++ u2, by simp, by simp, Sp.append hs hs2, ⟨hp, hp2⟩, hk⟩
    · rename_i hk
      obtain ⟨rfl, rfl⟩ := ok_inj h
      exact ⟨[], [], by simp, rfl, Sp.nil, trivial, by simpa using hk⟩
theorem prec_sp {l l' : List Tok} {x : Bs} (hn : NoE l) (h : precF l = some (.ok (x, l'))) : ∃ u, l = u ++ l' ∧ Sp u (precV x) := by
  unfold precF at h
  split at h
  · rename_i ha
    obtain ⟨y, m, h1, h2⟩ := bnd_ok h
    injection h1 with h1
    obtain ⟨t, ht, hm⟩ := at_sp ha
    obtain ⟨e, hv, hk⟩ := name_sp h1
    obtain ⟨rfl, rfl⟩ := ok_inj h2
    rw [e] at ht
    refine ⟨[t, y], by rw [ht]; rfl, ?_⟩
    have : y.text ≠ [] := hn y (by rw [ht]; simp) hk
    unfold precV
    rw [if_neg this]
    exact ⟨hm, ⟨hv, fun p hp => by cases hp⟩, trivial⟩
  · obtain ⟨rfl, rfl⟩ := ok_inj h
    exact ⟨[], rfl, by unfold precV; exact Sp.nil⟩
theorem act_sp {ws : List Wd} {pr : Bs} {p : Nat} {l l' : List Tok} {a : Al} (hw : wfWs 0 ws) (h : actF2 ws pr p l = some (.ok (a, l'))) : ∃ u, l = u ++ l' ∧ Sp u (actV a) ∧ a.words = ws ∧ a.prec = pr ∧ wfA a := by
  unfold actF2 at h
  cases l with
  | nil =>
    obtain ⟨rfl, rfl⟩ := ok_inj h
    exact ⟨[], rfl, Sp.nil, rfl, rfl, hw, fun _ => ⟨rfl, rfl⟩, fun h => by cases h⟩
  | cons t r =>
    simp only at h
    split at h
    · rename_i hk
      obtain ⟨rfl, rfl⟩ := ok_inj h
      have hk9 : t.kind = 9 := by simpa using hk
      refine ⟨[t], rfl, ⟨⟨?_, fun p hp => by injection hp⟩, trivial⟩, rfl, rfl, hw, (fun h => by cases h), (fun _ => ?_)⟩
      · unfold vw; rw [hk9]; rfl
      · show 1 ≤ t.place + 1; omega
    · obtain ⟨rfl, rfl⟩ := ok_inj h
      exact ⟨[], rfl, Sp.nil, rfl, rfl, hw, fun _ => ⟨rfl, rfl⟩, fun h => by cases h⟩
theorem alt_sp {N : Nat} {l l' : List Tok} {a : Al} (hn : NoE l) (h : altF N l = some (.ok (a, l'))) : ∃ u, l = u ++ l' ∧ Sp u (alV a) ∧ wfA a := by
  obtain ⟨ws, m, h1, h2⟩ := bnd_ok (show bnd (wordsF N N [] l) _ = _ from h)
  obtain ⟨pr, m2, h3, h4⟩ := bnd_ok h2
  obtain ⟨ys, u, rfl, rfl, hs, hp, hk⟩ := words_sp N _ _ _ _ _ hn h1
  obtain ⟨u2, rfl, hs2⟩ := prec_sp (NoE.tail hn) h3
  obtain ⟨u3, rfl, hs3, e1, e2, hw⟩ := act_sp (by simpa using hp) h4
  refine ⟨u ++ (u2 ++ u3), by simp, ?_, hw⟩
  unfold alV
  rw [e1, e2]
  exact Sp.append hs (Sp.append hs2 hs3)
theorem rule_sp {N : Nat} {l l' : List Tok} {r : Ru} (hn : NoE l) (h : ruleF N l = some (.ok (r, l'))) : ∃ u, l = u ++ l' ∧ Sp u (ruV r) ∧ wfR r := by
  obtain ⟨t, m, h1, h2⟩ := bnd_ok (show bnd (some (nameF l)) _ = _ from h)
  injection h1 with h1
  obtain ⟨rfl, hv, hk⟩ := name_sp h1
  obtain ⟨ps, m2, h3, h4⟩ := bnd_ok h2
  have hn2 : NoE m := NoE.tail (u := [t]) hn
  obtain ⟨u, rfl, hs, hp⟩ := given_sp (fun p => [noV p]) (· ≠ []) param_sp _ _ _ _ hn2 h3
  obtain ⟨t2, m3, h5, h6⟩ := bnd_ok h4
  injection h5 with h5
  have hn3 := NoE.tail hn2
  obtain ⟨rfl, hv2, hm2⟩ := need_sp h5
  obtain ⟨az, m4, h7, h8⟩ := bnd_ok h6
  obtain ⟨ys, u3, hne, rfl, rfl, hs3, hp3⟩ := some_sp alV wfA (fun xs l xs' l' hn h => by
    obtain ⟨a, m, h1, h2⟩ := bnd_ok (show bnd (altF N l) _ = _ from h)
    obtain ⟨u, h3, h4, h5⟩ := alt_sp hn h1
    obtain ⟨rfl, rfl⟩ := ok_inj h2
    exact ⟨a, u, rfl, h3, h4, h5⟩) _ _ _ _ _ (NoE.tail (u := [t2]) hn3) h7
  obtain ⟨t5, m5, h9, h10⟩ := bnd_ok h8
  injection h9 with h9
  obtain ⟨rfl, hv5, hm5⟩ := need_sp h9
  obtain ⟨rfl, rfl⟩ := ok_inj h10
  simp at hm2 hm5
  refine ⟨t :: (u ++ (t2 :: (u3 ++ [t5]))), by simp, ?_, hn t (by simp) hk, hp, by simpa using hne, by simpa using hp3⟩
  refine ⟨⟨hv, fun p hp => by injection hp⟩, Sp.append hs ⟨⟨by rw [hv2, hm2]; rfl, fun p hp => by cases hp⟩, Sp.append (by simpa using hs3) (Sp.one ⟨by rw [hv5, hm5]; rfl, fun p hp => by cases hp⟩)⟩⟩
theorem names_sp : ∀ (f : Nat) (ns : List Bs) (l : List Tok) (ns' : List Bs) (l' : List Tok), NoE l → namesF f ns l = some (.ok (ns', l')) → ∃ ys u, ns' = ns ++ ys ∧ l = u ++ l' ∧ Sp u (ys.map noV ++ [sgV [59]]) ∧ ∀ y ∈ ys, y ≠ []
  | 0, ns, l, ns', l', hn, h => by cases h
  | f + 1, ns, l, ns', l', hn, h => by
    unfold namesF at h
    split at h
    · rename_i ha
      obtain ⟨t, ht, hm⟩ := at_sp ha
      obtain ⟨rfl, rfl⟩ := ok_inj h
      exact ⟨[], [t], by simp, ht, Sp.one hm, by simp⟩
    · obtain ⟨t, m, h1, h2⟩ := bnd_ok h
      injection h1 with h1
      obtain ⟨rfl, hv, hk⟩ := name_sp h1
      obtain ⟨ys, u, rfl, rfl, hs, hp⟩ := names_sp f _ _ _ _ (NoE.tail (u := [t]) hn) h2
      refine ⟨t.text :: ys, t :: u, by simp, rfl, ⟨⟨hv, fun p hp => by cases hp⟩, hs⟩, fun y hy => ?_⟩
      rcases List.mem_cons.1 hy with rfl | hy
      · exact hn t (by simp) hk
      · exact hp y hy
theorem typed_sp {k : Bs} {l l' : List Tok} {x : Bs} (hn : NoE l) (h : typedF k l = some (.ok (x, l'))) : (∃ u, l = u ++ l' ∧ Sp u (typV k x)) ∧ (k = [116, 121, 112, 101] → x ≠ []) ∧ (k ≠ [116, 121, 112, 101] → k ≠ [116, 111, 107, 101, 110] → x = []) := by
  unfold typedF at h
  split at h
  · rename_i hc
    obtain ⟨t, m, h1, h2⟩ := bnd_ok (show bnd (some (needF [[60]] l)) _ = _ from h)
    obtain ⟨t2, m2, h3, h4⟩ := bnd_ok h2
    obtain ⟨t3, m3, h5, h6⟩ := bnd_ok h4
    injection h1 with h1
    injection h3 with h3
    injection h5 with h5
    obtain ⟨rfl, hv1, hm1⟩ := need_sp h1
    obtain ⟨rfl, hv2, hk2⟩ := name_sp h3
    obtain ⟨rfl, hv3, hm3⟩ := need_sp h5
    obtain ⟨rfl, rfl⟩ := ok_inj h6
    simp at hm1 hm3
    have hx : t2.text ≠ [] := hn t2 (by simp) hk2
    refine ⟨⟨[t, t2, t3], rfl, ?_⟩, fun _ => hx, fun h1 h2 => ?_⟩
    · unfold typV
      rw [if_neg hx]
      exact ⟨⟨by rw [hv1, hm1]; rfl, fun p hp => by cases hp⟩, ⟨hv2, fun p hp => by cases hp⟩, ⟨by rw [hv3, hm3]; rfl, fun p hp => by cases hp⟩, trivial⟩
    · simp only [Bool.or_eq_true, Bool.and_eq_true, beq_iff_eq] at hc
      rcases hc with hc | hc
      · exact absurd hc h1
      · exact absurd hc.1 h2
  · rename_i hc
    obtain ⟨rfl, rfl⟩ := ok_inj h
    refine ⟨⟨[], rfl, Sp.nil⟩, fun h => ?_, fun _ _ => rfl⟩
    subst h
    simp at hc
theorem decl_sp {N : Nat} {l l' : List Tok} {d : De} (hn : NoE l) (h : declF N l = some (.ok (d, l'))) : ∃ u, l = u ++ l' ∧ Sp u (deV d) ∧ wfD d := by
  obtain ⟨t, m, h1, h2⟩ := bnd_ok (show bnd (some (needF kinds l)) _ = _ from h)
  injection h1 with h1
  obtain ⟨rfl, hv, hm⟩ := need_sp h1
  obtain ⟨ty, m2, h3, h4⟩ := bnd_ok h2
  obtain ⟨⟨u, rfl, hs⟩, ht1, ht2⟩ := typed_sp (NoE.tail (u := [t]) hn) h3
  obtain ⟨t2, m3, h5, h6⟩ := bnd_ok h4
  injection h5 with h5
  have hn2 : NoE m2 := NoE.tail (u := t :: u) (by simpa using hn)
  obtain ⟨rfl, hv2, hk2⟩ := name_sp h5
  obtain ⟨ns, m4, h7, h8⟩ := bnd_ok h6
  obtain ⟨ys, u3, rfl, rfl, hs3, hp3⟩ := names_sp _ _ _ _ _ (NoE.tail (u := [t2]) hn2) h7
  obtain ⟨rfl, rfl⟩ := ok_inj h8
  refine ⟨t :: (u ++ (t2 :: u3)), by simp, ⟨⟨hv, fun p hp => by injection hp⟩, Sp.append hs ⟨⟨hv2, fun p hp => by cases hp⟩, hs3⟩⟩, hm, ht1, ht2, by simp, fun y hy => ?_⟩
  rcases List.mem_cons.1 (by simpa using hy) with rfl | hy
  · exact hn2 t2 (by simp) hk2
  · exact hp3 y hy
theorem decls_sp (N : Nat) : ∀ (f : Nat) (ds : List De) (l : List Tok) (ds' : List De) (l' : List Tok), NoE l → declsF N f ds l = some (.ok (ds', l')) → ∃ ys u, ds' = ds ++ ys ∧ l = u ++ l' ∧ Sp u ((ys.map deV).flatten ++ [sgV [37, 37]]) ∧ ∀ y ∈ ys, wfD y
  | 0, ds, l, ds', l', hn, h => by cases h
  | f + 1, ds, l, ds', l', hn, h => by
    unfold declsF at h
    split at h
    · rename_i ha
      obtain ⟨t, ht, hm⟩ := at_sp ha
      obtain ⟨rfl, rfl⟩ := ok_inj h
      exact ⟨[], [t], by simp, ht, Sp.one hm, by simp⟩
    · obtain ⟨d, m, h1, h2⟩ := bnd_ok h
      obtain ⟨u, rfl, hs, hp⟩ := decl_sp hn h1
      obtain ⟨ys, u2, rfl, rfl, hs2, hp2⟩ := decls_sp N f _ _ _ _ (NoE.tail hn) h2
      refine ⟨d :: ys, u ++ u2, by simp, by simp, ?_, fun y hy => ?_⟩
      · rw [List.map_cons, List.flatten_cons, List.append_assoc]
        exact Sp.append hs hs2
      · rcases List.mem_cons.1 hy with rfl | hy
        · exact hp
        · exact hp2 y hy
theorem rules_sp (N : Nat) : ∀ (f : Nat) (rs : List Ru) (l : List Tok) (rs' : List Ru) (l' : List Tok), NoE l → rulesF N f rs l = some (.ok (rs', l')) → ∃ ys u, rs' = rs ++ ys ∧ l = u ++ l' ∧ Sp u (ys.map ruV).flatten ∧ (∀ y ∈ ys, wfR y) ∧ atB [[]] l' = true
  | 0, ds, l, ds', l', hn, h => by cases h
  | f + 1, ds, l, ds', l', hn, h => by
    unfold rulesF at h
    split at h
    · rename_i ha
      obtain ⟨rfl, rfl⟩ := ok_inj h
      exact ⟨[], [], by simp, rfl, Sp.nil, by simp, ha⟩
    · obtain ⟨d, m, h1, h2⟩ := bnd_ok h
      obtain ⟨u, rfl, hs, hp⟩ := rule_sp hn h1
      obtain ⟨ys, u2, rfl, rfl, hs2, hp2, hk⟩ := rules_sp N f _ _ _ _ (NoE.tail hn) h2
      refine ⟨d :: ys, u ++ u2, by simp, by simp, Sp.append hs hs2, fun y hy => ?_, hk⟩
      rcases List.mem_cons.1 hy with rfl | hy
      · exact hp
      · exact hp2 y hy
/-- A text that was told spells its tokens. -/
theorem text_sp {N : Nat} {l l' : List Tok} {x : Tx} (hn : NoE l) (h : textF N l = some (.ok (x, l'))) : ∃ u, l = u ++ l' ∧ Sp u (txV x) ∧ wfT x ∧ atB [[]] l' = true := by
  obtain ⟨ds, m, h1, h2⟩ := bnd_ok (show bnd (declsF N N [] l) _ = _ from h)
  obtain ⟨ys, u, rfl, rfl, hs, hp⟩ := decls_sp N _ _ _ _ _ hn h1
  obtain ⟨rs, m2, h3, h4⟩ := bnd_ok h2
  obtain ⟨zs, u2, rfl, rfl, hs2, hp2, hk⟩ := rules_sp N _ _ _ _ _ (NoE.tail hn) h3
  obtain ⟨rfl, rfl⟩ := ok_inj h4
  refine ⟨u ++ u2, by simp, ?_, ⟨by simpa using hp, by simpa using hp2⟩, hk⟩
  have := Sp.append hs hs2
  unfold txV
  simpa using this
end LexT
namespace LexT
set_option linter.unusedVariables false
set_option linter.unusedSimpArgs false
mutual
/-- A word without places. -/
def bareW : Wd → Wd
  | .mk n ws p => .mk n (bareWs ws) 0
def bareWs : List Wd → List Wd
  | [] => []
  | x :: xs => bareW x :: bareWs xs
end
theorem bareWs_map : ∀ l : List Wd, bareWs l = l.map bareW
  | [] => rfl
  | x :: l => by rw [bareWs, bareWs_map l]; rfl
def plA (a : Al) : Al := ⟨bareWs a.words, a.prec, a.has, a.action, 0, 0⟩
def plR (r : Ru) : Ru := ⟨r.name, r.params, r.alts.map plA, 0⟩
def plD (d : De) : De := ⟨d.kind, d.type, d.names, 0⟩
def plT (x : Tx) : Tx := ⟨x.decls.map plD, x.rules.map plR⟩
/-- Tokens look so. -/
def Lk (u : List Tok) (vs : List Vt) : Prop := u.map vw = vs.map (·.1)
theorem Lk.split {u : List Tok} {a b : List Vt} (h : Lk u (a ++ b)) : ∃ u1 u2, u = u1 ++ u2 ∧ Lk u1 a ∧ Lk u2 b := by
  unfold Lk at *
  rw [List.map_append] at h
  obtain ⟨u1, u2, h1, h2, h3⟩ := List.map_eq_append_iff.1 h
  exact ⟨u1, u2, h1, h2, h3⟩
theorem Lk.uncons {u : List Tok} {v : Vt} {vs : List Vt} (h : Lk u (v :: vs)) : ∃ t u', u = t :: u' ∧ vw t = v.1 ∧ Lk u' vs := by
  unfold Lk at *
  rw [List.map_cons] at h
  obtain ⟨t, u', h1, h2, h3⟩ := List.map_eq_cons_iff.1 h
  exact ⟨t, u', h1, h2, h3⟩
theorem Lk.unnil {u : List Tok} (h : Lk u []) : u = [] := by unfold Lk at h; simpa using h
theorem vw_two {t : Tok} {s : Bs} (h : vw t = (2, s)) : t.kind = 2 ∧ t.text = s := by
  unfold vw at h
  injection h with h1 h2
  refine ⟨?_, h2⟩
  by_cases h3 : (t.kind == 2) = true
  · simpa using h3
  · rw [if_neg h3] at h1
    split at h1 <;> cases h1
theorem vw_nine {t : Tok} {s : Bs} (h : vw t = (9, s)) : t.kind = 9 ∧ t.text = s := by
  unfold vw at h
  injection h with h1 h2
  refine ⟨?_, h2⟩
  by_cases h3 : (t.kind == 2) = true
  · rw [if_pos h3] at h1; cases h1
  · rw [if_neg h3] at h1
    split at h1
    · rename_i h4; simpa using h4
    · cases h1
theorem vw_zero {t : Tok} {s : Bs} (h : vw t = (0, s)) : (t.kind == 2) = false ∧ (t.kind == 9) = false ∧ t.text = s := by
  unfold vw at h
  injection h with h1 h2
  by_cases h3 : (t.kind == 2) = true
  · rw [if_pos h3] at h1; cases h1
  · rw [if_neg h3] at h1
    split at h1
    · cases h1
    · rename_i h4; exact ⟨by simpa using h3, by simpa using h4, h2⟩
theorem at_zero {t : Tok} {s : Bs} (h : vw t = (0, s)) (xs : List Bs) (r : List Tok) : atB xs (t :: r) = xs.contains s := by
  obtain ⟨h1, h2, h3⟩ := vw_zero h
  show atT t xs = _
  unfold atT
  simp only [bne, h1, h2, h3, Bool.not_false, Bool.true_and]
theorem at_two {t : Tok} {s : Bs} (h : vw t = (2, s)) (xs : List Bs) (r : List Tok) : atB xs (t :: r) = false := by
  obtain ⟨h1, h2⟩ := vw_two h
  show atT t xs = _
  unfold atT
  simp [h1]
theorem at_nine {t : Tok} {s : Bs} (h : vw t = (9, s)) (xs : List Bs) (r : List Tok) : atB xs (t :: r) = false := by
  obtain ⟨h1, h2⟩ := vw_nine h
  show atT t xs = _
  unfold atT
  simp [h1]
theorem need_rd {t : Tok} {s : Bs} {xs : List Bs} {r : List Tok} (h : vw t = (0, s)) (hs : xs.contains s = true) : needF xs (t :: r) = .ok (t, r) := by
  have := at_zero h xs r
  unfold needF
  have h2 : atT t xs = true := this.trans hs
  simp only [h2, if_true]
theorem name_rd {t : Tok} {s : Bs} {r : List Tok} (h : vw t = (2, s)) : nameF (t :: r) = .ok (t, r) := by
  unfold nameF
  simp [(vw_two h).1]
theorem some_rd {γ δ : Type} {one : List γ → List Tok → Pa (List γ)} {sep : Bs} (v : γ → List Vt) (pl : γ → δ) (Ends : List Tok → Prop) (hsep : ∀ t r, vw t = (0, sep) → Ends (t :: r)) :
    ∀ (f : Nat) (ys : List γ) (hone : ∀ y ∈ ys, ∀ xs u r, Lk u (v y) → Ends r → ∃ y', one xs (u ++ r) = some (.ok (xs ++ [y'], r)) ∧ pl y' = pl y) (r : List Tok), Ends r → atB [sep] r = false → ∀ u xs, Lk u (sepV sep (ys.map v)) → ys ≠ [] → ys.length ≤ f →
      ∃ ys', someF one sep f xs (u ++ r) = some (.ok (xs ++ ys', r)) ∧ ys'.map pl = ys.map pl
  | 0, ys, hone, r, hr, hr2, u, xs, hu, hne, hf => by
    cases ys with
    | nil => exact absurd rfl hne
    | cons y ys => simp at hf
  | f + 1, ys, hone, r, hr, hr2, u, xs, hu, hne, hf => by
    cases ys with
    | nil => exact absurd rfl hne
    | cons y ys =>
      cases hys : ys with
      | nil =>
        subst hys
        obtain ⟨y', h1, h2⟩ := hone y (by simp) xs u r hu hr
        refine ⟨[y'], ?_, by simp [h2]⟩
        show bnd (one xs (u ++ r)) _ = _
        rw [h1]
        simp only [bnd]
        rw [if_neg (by simp [hr2])]
      | cons z zs =>
        have hne2 : ys ≠ [] := by rw [hys]; simp
        rw [← hys]
        rw [List.map_cons, sepV_cons _ _ _ (by simpa using hne2)] at hu
        obtain ⟨u1, u2, rfl, hu1, hu2⟩ := hu.split
        obtain ⟨t, u3, rfl, ht, hu3⟩ := hu2.uncons
        obtain ⟨y', h1, h2⟩ := hone y (by simp) xs u1 (t :: (u3 ++ r)) hu1 (hsep t _ ht)
        obtain ⟨ys', h3, h4⟩ := some_rd v pl Ends hsep f ys (fun y hy => hone y (by simp [hy])) r hr hr2 u3 (xs ++ [y']) hu3 hne2 (by simp at hf; omega)
        refine ⟨y' :: ys', ?_, by simp [h2, h4]⟩
        show bnd (one xs ((u1 ++ t :: u3) ++ r)) _ = _
        rw [List.append_assoc, List.cons_append, h1]
        simp only [bnd]
        rw [if_pos (by rw [at_zero ht]; simp [sgV])]
        rw [List.tail_cons, h3]
        simp
theorem given_rd {γ δ : Type} {one : List γ → List Tok → Pa (List γ)} (v : γ → List Vt) (pl : γ → δ) (Ends : List Tok → Prop) (hsep : ∀ t r, (vw t = (0, [44]) ∨ vw t = (0, [41])) → Ends (t :: r))
    (f : Nat) (ys : List γ) (hone : ∀ y ∈ ys, ∀ xs u r, Lk u (v y) → Ends r → ∃ y', one xs (u ++ r) = some (.ok (xs ++ [y'], r)) ∧ pl y' = pl y) (r : List Tok) (hr : atB [[40]] r = false) (u : List Tok) (hu : Lk u (givV (ys.map v))) (hf : ys.length ≤ f) :
    ∃ ys', givenF one f [] (u ++ r) = some (.ok (ys', r)) ∧ ys'.map pl = ys.map pl := by
  cases hys : ys with
  | nil =>
    subst hys
    obtain rfl := hu.unnil
    refine ⟨[], ?_, rfl⟩
    unfold givenF
    rw [List.nil_append, if_neg (by simp [hr])]
  | cons z zs =>
    have hg : givV (ys.map v) = sgV [40] :: (sepV [44] (ys.map v) ++ [sgV [41]]) := by rw [hys]; rfl
    have hne2 : ys ≠ [] := by rw [hys]; simp
    rw [← hys]
    rw [hg] at hu
    obtain ⟨t, u1, rfl, ht, hu1⟩ := hu.uncons
    obtain ⟨u2, u3, rfl, hu2, hu3⟩ := hu1.split
    obtain ⟨t2, u4, rfl, ht2, hu4⟩ := hu3.uncons
    obtain rfl := hu4.unnil
    obtain ⟨ys', h3, h4⟩ := some_rd v pl Ends (fun t r h => hsep t r (.inl h)) f ys hone (t2 :: r) (hsep _ _ (.inr ht2)) (by rw [at_zero ht2]; rfl) u2 [] hu2 hne2 hf
    refine ⟨ys', ?_, h4⟩
    unfold givenF
    rw [List.cons_append, if_pos (by rw [at_zero ht]; simp [sgV]), List.tail_cons]
    rw [List.append_assoc, List.singleton_append, h3]
    simp only [bnd, List.nil_append]
    rw [need_rd ht2 (by simp [sgV])]
theorem param_rd (y : Bs) (xs : List Bs) (u r : List Tok) (hu : Lk u [noV y]) : ∃ y', paramF xs (u ++ r) = some (.ok (xs ++ [y'], r)) ∧ id y' = id y := by
  obtain ⟨t, u1, rfl, ht, hu1⟩ := hu.uncons
  obtain rfl := hu1.unnil
  refine ⟨t.text, ?_, (vw_two ht).2⟩
  unfold paramF
  rw [List.singleton_append, name_rd ht]
  rfl
theorem wfWs_mem (k : Nat) : ∀ ws : List Wd, wfWs k ws → ∀ y ∈ ws, wfW k y
  | [], h, y, hy => by cases hy
  | x :: xs, h, y, hy => by
    rcases List.mem_cons.1 hy with rfl | hy
    · exact h.1
    · exact wfWs_mem k xs h.2 y hy
theorem word_rd : ∀ (f k : Nat) (x : Wd) (u r : List Tok), wdN x ≤ f → wfW k x → Lk u (wdV x) → atB [[40]] r = false → ∃ x', wordF f k (u ++ r) = some (.ok (x', r)) ∧ bareW x' = bareW x
  | 0, k, x, u, r, hf, hw, hu, hr => by have := wdYtngimijiafnheaaGreatpos x; omega
  | f + 1, k, .mk n ws p, u, r, hf, hw, hu, hr => by
    rw [wfW] at hw
    rw [wdV, wdsV_map] at hu
    rw [wdN] at hf
    obtain ⟨t, u1, rfl, ht, hu1⟩ := hu.uncons
    have hlen := wdsYtngimijiafnheaaGreatlength ws
    obtain ⟨ys', h3, h4⟩ := given_rd (one := fun ws l => bnd (wordF f (k + 1) l) fun x l' => some (.ok (ws ++ [x], l'))) wdV bareW (fun r => atB [[40]] r = false) (fun t r h => by rcases h with h | h <;> (rw [at_zero h]; rfl)) (f + 1) ws (fun y hy xs u r hu hr => by
      have h5 := wdYtngimijiafnheaaGreatmem ws y hy
      have h6 : wfW (k + 1) y := wfWs_mem _ _ hw.2.2 y hy
      obtain ⟨x', h7, h8⟩ := word_rd f (k + 1) y u r (by omega) h6 hu hr
      exact ⟨x', by rw [h7]; rfl, h8⟩) r hr u1 hu1 (by omega)
    refine ⟨.mk t.text ys' t.place, ?_, ?_⟩
    · show bnd (some (nameF (t :: (u1 ++ r)))) _ = _
      rw [name_rd ht]
      simp only [bnd]
      rw [if_neg (by omega)]
      have h3' := h3
      simp only [bnd] at h3'
      rw [h3']
    · rw [bareW, bareW, bareWs_map, bareWs_map, h4, (vw_two ht).2]
theorem words_rd (N : Nat) : ∀ (f : Nat) (ys ws : List Wd) (u r : List Tok), ys.length < f → (∀ y ∈ ys, wdN y ≤ N) → wfWs 0 ys → Lk u (wdsV ys).flatten → atB [[40]] r = false → kindB 2 r = false → ∃ ys', wordsF N f ws (u ++ r) = some (.ok (ws ++ ys', r)) ∧ bareWs ys' = bareWs ys
  | 0, ys, ws, u, r, hf, hN, hw, hu, hr, hr2 => by omega
  | f + 1, [], ws, u, r, hf, hN, hw, hu, hr, hr2 => by
    obtain rfl := hu.unnil
    refine ⟨[], ?_, rfl⟩
    unfold wordsF
    rw [List.nil_append, if_neg (by simp [hr2])]
    simp
  | f + 1, y :: ys, ws, u, r, hf, hN, hw, hu, hr, hr2 => by
    rw [wdsV, List.flatten_cons] at hu
    obtain ⟨u1, u2, rfl, hu1, hu2⟩ := hu.split
    have hr3 : atB [[40]] (u2 ++ r) = false := by
      cases ys with
      | nil => obtain rfl := hu2.unnil; exact hr
      | cons z zs =>
        obtain ⟨n, ws2, p⟩ := z
        rw [wdsV, wdV, List.flatten_cons, List.cons_append] at hu2
        obtain ⟨t, u3, rfl, ht, _⟩ := hu2.uncons
        exact at_two ht _ _
    obtain ⟨x', h1, h2⟩ := word_rd N 0 y u1 (u2 ++ r) (hN y (by simp)) hw.1 hu1 hr3
    obtain ⟨ys', h3, h4⟩ := words_rd N f ys (ws ++ [x']) u2 r (by simp at hf; omega) (fun z hz => hN z (by simp [hz])) hw.2 hu2 hr hr2
    refine ⟨x' :: ys', ?_, by rw [bareWs, bareWs, h2, h4]⟩
    have hk : kindB 2 (u1 ++ (u2 ++ r)) = true := by
      obtain ⟨n, ws2, p⟩ := y
      rw [wdV] at hu1
      obtain ⟨t, u3, rfl, ht, _⟩ := hu1.uncons
      show (t.kind == 2) = true
      simp [(vw_two ht).1]
    unfold wordsF
    rw [List.append_assoc, if_pos hk, h1]
    simp only [bnd]
    rw [h3]
    simp
theorem prec_rd {p : Bs} {u r : List Tok} (hu : Lk u (precV p)) (hr : atB [[112, 114, 101, 99]] r = false) : precF (u ++ r) = some (.ok (p, r)) := by
  unfold precV at hu
  by_cases h : p = []
  · rw [if_pos h] at hu
    obtain rfl := hu.unnil
    unfold precF
    rw [List.nil_append, if_neg (by simp [hr]), h]
  · rw [if_neg h] at hu
    obtain ⟨t, u1, rfl, ht, hu1⟩ := hu.uncons
    obtain ⟨t2, u2, rfl, ht2, hu2⟩ := hu1.uncons
    obtain rfl := hu2.unnil
    unfold precF
    rw [List.cons_append, if_pos (by rw [at_zero ht]; simp [sgV]), List.tail_cons, List.singleton_append, name_rd ht2]
    simp only [bnd]
    rw [(vw_two ht2).2]
theorem act_rd {a : Al} {ws : List Wd} {p : Nat} {u r : List Tok} (ha : wfA a) (hu : Lk u (actV a)) (hr : kindB 9 r = false) : ∃ a', actF2 ws a.prec p (u ++ r) = some (.ok (a', r)) ∧ a'.words = ws ∧ a'.prec = a.prec ∧ a'.has = a.has ∧ a'.action = a.action := by
  unfold actV at hu
  cases h : a.has with
  | false =>
    rw [h] at hu
    obtain rfl := Lk.unnil (by simpa using hu)
    rw [List.nil_append]
    cases r with
    | nil => exact ⟨_, rfl, rfl, rfl, rfl, (ha.2.1 h).1.symm⟩
    | cons t r =>
      refine ⟨⟨ws, a.prec, false, [], 0, p⟩, ?_, rfl, rfl, rfl, (ha.2.1 h).1.symm⟩
      unfold actF2
      have : (t.kind == 9) = false := hr
      simp only [this, Bool.false_eq_true, if_false]
  | true =>
    rw [h] at hu
    obtain ⟨t, u1, rfl, ht, hu1⟩ := Lk.uncons (by simpa using hu)
    obtain rfl := hu1.unnil
    refine ⟨⟨ws, a.prec, true, t.text, t.place + 1, p⟩, ?_, rfl, rfl, rfl, (vw_nine ht).2⟩
    have : (t.kind == 9) = true := by simp [(vw_nine ht).1]
    show actF2 ws a.prec p (t :: r) = _
    unfold actF2
    simp only [this, if_true]
def szA (N : Nat) (a : Al) : Prop := a.words.length < N ∧ ∀ w ∈ a.words, wdN w ≤ N
def szR (N : Nat) (r : Ru) : Prop := r.params.length ≤ N ∧ r.alts.length ≤ N ∧ ∀ a ∈ r.alts, szA N a
def szT (N : Nat) (x : Tx) : Prop := x.decls.length < N ∧ (∀ d ∈ x.decls, d.names.length < N) ∧ x.rules.length < N ∧ ∀ r ∈ x.rules, szR N r
theorem alt_rd {N : Nat} {a : Al} {u r : List Tok} (hz : szA N a) (ha : wfA a) (hu : Lk u (alV a)) (hr : ∃ t r', r = t :: r' ∧ (vw t = (0, [124]) ∨ vw t = (0, [59]))) : ∃ a', altF N (u ++ r) = some (.ok (a', r)) ∧ plA a' = plA a := by
  obtain ⟨t, r', rfl, ht⟩ := hr
  unfold alV at hu
  obtain ⟨u1, u2, rfl, hu1, hu2⟩ := hu.split
  obtain ⟨u3, u4, rfl, hu3, hu4⟩ := hu2.split
  have hk : ∀ k, k = 2 ∨ k = 9 → kindB k (t :: r') = false := by
    intro k hk
    show (t.kind == k) = false
    rcases ht with ht | ht <;> rcases hk with rfl | rfl <;> first | exact (vw_zero ht).1 | exact (vw_zero ht).2.1
  have hat : ∀ xs : List Bs, xs.contains [124] = false → xs.contains [59] = false → atB xs (t :: r') = false := by
    intro xs h1 h2
    rcases ht with ht | ht
    · rw [at_zero ht, h1]
    · rw [at_zero ht, h2]
  have q4 : atB [[40]] (u4 ++ t :: r') = false ∧ atB [[112, 114, 101, 99]] (u4 ++ t :: r') = false ∧ kindB 2 (u4 ++ t :: r') = false := by
    unfold actV at hu4
    cases h : a.has with
    | false =>
      rw [h] at hu4
      obtain rfl := Lk.unnil (by simpa using hu4)
      exact ⟨hat _ rfl rfl, hat _ rfl rfl, hk 2 (.inl rfl)⟩
    | true =>
      rw [h] at hu4
      obtain ⟨t2, u5, rfl, ht2, _⟩ := Lk.uncons (by simpa using hu4)
      refine ⟨at_nine ht2 _ _, at_nine ht2 _ _, ?_⟩
      show (t2.kind == 2) = false
      rw [(vw_nine ht2).1]; rfl
  have q3 : atB [[40]] (u3 ++ (u4 ++ t :: r')) = false ∧ kindB 2 (u3 ++ (u4 ++ t :: r')) = false := by
    unfold precV at hu3
    by_cases h : a.prec = []
    · rw [if_pos h] at hu3
      obtain rfl := hu3.unnil
      exact ⟨q4.1, q4.2.2⟩
    · rw [if_neg h] at hu3
      obtain ⟨t2, u5, rfl, ht2, _⟩ := hu3.uncons
      refine ⟨by rw [List.cons_append, at_zero ht2]; rfl, ?_⟩
      show (t2.kind == 2) = false
      exact (vw_zero ht2).1
  obtain ⟨ws', h1, h2⟩ := words_rd N N a.words [] u1 (u3 ++ (u4 ++ t :: r')) hz.1 hz.2 ha.1 hu1 q3.1 q3.2
  have h3 := prec_rd hu3 q4.2.1
  obtain ⟨a', h4, e1, e2, e3, e4⟩ := act_rd (ws := ws') (p := plc (u1 ++ (u3 ++ (u4 ++ t :: r')))) ha hu4 (hk 9 (.inr rfl))
  refine ⟨a', ?_, by unfold plA; rw [e1, e2, e3, e4, h2]⟩
  unfold altF
  rw [List.append_assoc, List.append_assoc, h1]
  simp only [bnd, List.nil_append]
  rw [h3]
  simp only
  rw [h4]
theorem rule_rd {N : Nat} {x : Ru} {u r : List Tok} (hz : szR N x) (hx : wfR x) (hu : Lk u (ruV x)) : ∃ x', ruleF N (u ++ r) = some (.ok (x', r)) ∧ plR x' = plR x := by
  unfold ruV at hu
  obtain ⟨t, u1, rfl, ht, hu1⟩ := hu.uncons
  obtain ⟨u2, u3, rfl, hu2, hu3⟩ := hu1.split
  obtain ⟨t2, u4, rfl, ht2, hu4⟩ := hu3.uncons
  obtain ⟨u5, u6, rfl, hu5, hu6⟩ := hu4.split
  obtain ⟨t3, u7, rfl, ht3, hu7⟩ := hu6.uncons
  obtain rfl := hu7.unnil
  obtain ⟨ps', h1, h2⟩ := given_rd (one := paramF) (fun p => [noV p]) id (fun _ => True) (fun _ _ _ => trivial) N x.params (fun y hy xs u r hu _ => param_rd y xs u r hu) (t2 :: (u5 ++ (t3 :: r))) (by rw [at_zero ht2]; rfl) u2 hu2 hz.1
  obtain ⟨as', h3, h4⟩ := some_rd (one := altsF N) (sep := [124]) alV plA (fun r => ∃ t r', r = t :: r' ∧ (vw t = (0, [124]) ∨ vw t = (0, [59]))) (fun t r h => ⟨t, r, rfl, .inl h⟩) N x.alts (fun y hy xs u r hu hr => by
    obtain ⟨a', h5, h6⟩ := alt_rd (hz.2.2 y hy) (hx.2.2.2 y hy) hu hr
    exact ⟨a', by unfold altsF; rw [h5]; rfl, h6⟩) (t3 :: r) ⟨t3, r, rfl, .inr ht3⟩ (by rw [at_zero ht3]; rfl) u5 [] hu5 hx.2.2.1 hz.2.1
  refine ⟨⟨t.text, ps', as', t.place⟩, ?_, ?_⟩
  · unfold ruleF
    rw [List.cons_append, name_rd ht]
    simp only [bnd, List.append_assoc, List.cons_append, List.nil_append]
    rw [h1]
    simp only
    rw [need_rd ht2 (by simp [sgV])]
    simp only
    rw [h3]
    simp only [List.nil_append]
    rw [need_rd ht3 (by simp [sgV])]
  · unfold plR
    rw [h4, (vw_two ht).2]
    simp at h2
    rw [h2]
theorem names_rd : ∀ (f : Nat) (ys ns : List Bs) (u r : List Tok), ys.length < f → Lk u (ys.map noV ++ [sgV [59]]) → namesF f ns (u ++ r) = some (.ok (ns ++ ys, r))
  | 0, ys, ns, u, r, hf, hu => by omega
  | f + 1, [], ns, u, r, hf, hu => by
    obtain ⟨t, u1, rfl, ht, hu1⟩ := Lk.uncons (by simpa using hu)
    obtain rfl := hu1.unnil
    unfold namesF
    rw [List.singleton_append, if_pos (by rw [at_zero ht]; simp [sgV])]
    simp
  | f + 1, y :: ys, ns, u, r, hf, hu => by
    rw [List.map_cons, List.cons_append] at hu
    obtain ⟨t, u1, rfl, ht, hu1⟩ := hu.uncons
    unfold namesF
    rw [List.cons_append, if_neg (by rw [at_two ht]; simp), name_rd ht]
    simp only [bnd]
    rw [names_rd f ys _ u1 r (by simp at hf; omega) hu1, (vw_two ht).2]
    simp [noV]
theorem typed_rd {k ty : Bs} {u r : List Tok} (h1 : k = [116, 121, 112, 101] → ty ≠ []) (h2 : k ≠ [116, 121, 112, 101] → k ≠ [116, 111, 107, 101, 110] → ty = []) (hu : Lk u (typV k ty)) (hr : atB [[60]] r = false) : typedF k (u ++ r) = some (.ok (ty, r)) := by
  unfold typV at hu
  by_cases h : ty = []
  · rw [if_pos h] at hu
    obtain rfl := hu.unnil
    unfold typedF
    have hk : (k == [116, 121, 112, 101]) = false := by
      by_cases e : k = [116, 121, 112, 101]
      · exact absurd h (h1 e)
      · simpa using e
    rw [List.nil_append, hr, hk]
    simp [h]
  · rw [if_neg h] at hu
    obtain ⟨t, u1, rfl, ht, hu1⟩ := hu.uncons
    obtain ⟨t2, u2, rfl, ht2, hu2⟩ := hu1.uncons
    obtain ⟨t3, u3, rfl, ht3, hu3⟩ := hu2.uncons
    obtain rfl := hu3.unnil
    have ha : atB [[60]] (t :: t2 :: t3 :: r) = true := by rw [at_zero ht]; simp [sgV]
    have hc : (k == [116, 121, 112, 101] || (k == [116, 111, 107, 101, 110] && atB [[60]] (t :: t2 :: t3 :: r))) = true := by
      rw [ha]
      by_cases e1 : k = [116, 121, 112, 101]
      · simp [e1]
      · by_cases e2 : k = [116, 111, 107, 101, 110]
        · simp [e2]
        · exact absurd (h2 e1 e2) h
    show typedF k (t :: t2 :: t3 :: r) = _
    unfold typedF
    rw [if_pos hc]
    unfold typeF
    rw [need_rd ht (by simp [sgV])]
    simp only [bnd]
    rw [name_rd ht2]
    simp only
    rw [need_rd ht3 (by simp [sgV])]
    simp only
    rw [(vw_two ht2).2]
theorem decl_rd {N : Nat} {d : De} {u r : List Tok} (hz : d.names.length < N) (hd : wfD d) (hu : Lk u (deV d)) : ∃ d', declF N (u ++ r) = some (.ok (d', r)) ∧ plD d' = plD d := by
  obtain ⟨hd1, hd2, hd3, hd4, hd5⟩ := hd
  unfold deV at hu
  obtain ⟨t, u1, rfl, ht, hu1⟩ := hu.uncons
  obtain ⟨u2, u3, rfl, hu2, hu3⟩ := hu1.split
  obtain ⟨n, ns, hn⟩ : ∃ n ns, d.names = n :: ns := by
    cases h : d.names with
    | nil => exact absurd h hd4
    | cons n ns => exact ⟨n, ns, rfl⟩
  rw [hn, List.map_cons, List.cons_append] at hu3
  obtain ⟨t2, u4, rfl, ht2, hu4⟩ := hu3.uncons
  have h1 := typed_rd (r := t2 :: (u4 ++ r)) hd2 hd3 hu2 (at_two ht2 _ _)
  have h2 := names_rd N ns [t2.text] u4 r (by rw [hn] at hz; simp at hz; omega) hu4
  refine ⟨⟨t.text, d.type, [t2.text] ++ ns, t.place⟩, ?_, ?_⟩
  · unfold declF
    rw [List.cons_append, need_rd ht (by simpa using hd1)]
    simp only [bnd, List.append_assoc, List.cons_append]
    rw [(vw_zero ht).2.2, h1]
    simp only
    rw [name_rd ht2]
    simp only
    rw [h2]
    rfl
  · unfold plD
    rw [(vw_zero ht).2.2, (vw_two ht2).2, hn]
    rfl
theorem decls_rd (N : Nat) : ∀ (f : Nat) (ys ds : List De) (u r : List Tok), ys.length < f → (∀ d ∈ ys, d.names.length < N ∧ wfD d) → Lk u ((ys.map deV).flatten ++ [sgV [37, 37]]) → ∃ ys', declsF N f ds (u ++ r) = some (.ok (ds ++ ys', r)) ∧ ys'.map plD = ys.map plD
  | 0, ys, ds, u, r, hf, hd, hu => by omega
  | f + 1, [], ds, u, r, hf, hd, hu => by
    obtain ⟨t, u1, rfl, ht, hu1⟩ := Lk.uncons (by simpa using hu)
    obtain rfl := hu1.unnil
    refine ⟨[], ?_, rfl⟩
    unfold declsF
    rw [List.singleton_append, if_pos (by rw [at_zero ht]; simp [sgV])]
    simp
  | f + 1, d :: ys, ds, u, r, hf, hd, hu => by
    rw [List.map_cons, List.flatten_cons, List.append_assoc] at hu
    obtain ⟨u1, u2, rfl, hu1, hu2⟩ := hu.split
    obtain ⟨d', h1, h2⟩ := decl_rd (r := u2 ++ r) (hd d (by simp)).1 (hd d (by simp)).2 hu1
    obtain ⟨ys', h3, h4⟩ := decls_rd N f ys (ds ++ [d']) u2 r (by simp at hf; omega) (fun z hz => hd z (by simp [hz])) hu2
    refine ⟨d' :: ys', ?_, by simp [h2, h4]⟩
    have ha : atB [[37, 37]] (u1 ++ (u2 ++ r)) = false := by
      unfold deV at hu1
      obtain ⟨t, u3, rfl, ht, _⟩ := hu1.uncons
      rw [List.cons_append, at_zero ht]
      have := (hd d (by simp)).2.1
      show ([[37, 37]] : List Bs).contains d.kind = false
      unfold kinds at this
      simp only [List.mem_cons, List.not_mem_nil, or_false] at this
      rcases this with h | h | h | h | h | h <;> rw [h] <;> rfl
    unfold declsF
    rw [List.append_assoc, if_neg (by simp [ha]), h1]
    simp only [bnd]
    rw [h3]
    simp
theorem rules_rd (N : Nat) : ∀ (f : Nat) (ys rs : List Ru) (u r : List Tok), ys.length < f → (∀ x ∈ ys, szR N x ∧ wfR x) → Lk u (ys.map ruV).flatten → atB [[]] r = true → ∃ ys', rulesF N f rs (u ++ r) = some (.ok (rs ++ ys', r)) ∧ ys'.map plR = ys.map plR
  | 0, ys, ds, u, r, hf, hd, hu, hr => by omega
  | f + 1, [], ds, u, r, hf, hd, hu, hr => by
    obtain rfl := hu.unnil
    refine ⟨[], ?_, rfl⟩
    unfold rulesF
    rw [List.nil_append, if_pos hr]
    simp
  | f + 1, d :: ys, ds, u, r, hf, hd, hu, hr => by
    rw [List.map_cons, List.flatten_cons] at hu
    obtain ⟨u1, u2, rfl, hu1, hu2⟩ := hu.split
    obtain ⟨d', h1, h2⟩ := rule_rd (r := u2 ++ r) (hd d (by simp)).1 (hd d (by simp)).2 hu1
    obtain ⟨ys', h3, h4⟩ := rules_rd N f ys (ds ++ [d']) u2 r (by simp at hf; omega) (fun z hz => hd z (by simp [hz])) hu2 hr
    refine ⟨d' :: ys', ?_, by simp [h2, h4]⟩
    have ha : atB [[]] (u1 ++ (u2 ++ r)) = false := by
      unfold ruV at hu1
      obtain ⟨t, u3, rfl, ht, _⟩ := hu1.uncons
      exact at_two ht _ _
    unfold rulesF
    rw [List.append_assoc, if_neg (by simp [ha]), h1]
    simp only [bnd]
    rw [h3]
    simp
/-- Tokens that look as a text's own, and the end behind them, are told as that text, but for places. -/
theorem text_rd {N : Nat} {x : Tx} {u r : List Tok} (hz : szT N x) (hx : wfT x) (hu : Lk u (txV x)) (hr : atB [[]] r = true) : ∃ x', textF N (u ++ r) = some (.ok (x', r)) ∧ plT x' = plT x := by
  have hu' : Lk u (((x.decls.map deV).flatten ++ [sgV [37, 37]]) ++ (x.rules.map ruV).flatten) := by
    unfold txV at hu
    simpa using hu
  obtain ⟨u1, u2, rfl, hu1, hu2⟩ := hu'.split
  obtain ⟨ds', h1, h2⟩ := decls_rd N N x.decls [] u1 (u2 ++ r) hz.1 (fun d hd => ⟨hz.2.1 d hd, hx.1 d hd⟩) hu1
  obtain ⟨rs', h3, h4⟩ := rules_rd N N x.rules [] u2 r hz.2.2.1 (fun d hd => ⟨hz.2.2.2 d hd, hx.2 d hd⟩) hu2 hr
  refine ⟨⟨ds', rs'⟩, ?_, by unfold plT; rw [h2, h4]⟩
  unfold textF
  rw [List.append_assoc, h1]
  simp only [bnd, List.nil_append]
  rw [h3]
  rfl
/-- Texts are no longer than what spells them. -/
theorem sepV_len (c : Bs) : ∀ xs : List (List Vt), xs.flatten.length ≤ (sepV c xs).length ∧ xs.length ≤ (sepV c xs).length + 1
  | [] => by simp [sepV]
  | [x] => by simp [sepV]
  | x :: y :: r => by
    have := sepV_len c (y :: r)
    rw [sepV_cons c x (y :: r) (by simp)]
    simp only [List.flatten_cons, List.length_append, List.length_cons] at *
    omega
theorem mem_flat_len {α : Type} {xs : List (List α)} {x : List α} (h : x ∈ xs) : x.length ≤ xs.flatten.length := by
  induction xs with
  | nil => cases h
  | cons y xs ih =>
    rw [List.flatten_cons, List.length_append]
    rcases List.mem_cons.1 h with rfl | h
    · omega
    · have := ih h; omega
theorem flat_len_le {α : Type} {xs : List (List α)} (h : ∀ x ∈ xs, 1 ≤ x.length) : xs.length ≤ xs.flatten.length := by
  induction xs with
  | nil => simp
  | cons y xs ih =>
    rw [List.flatten_cons, List.length_append, List.length_cons]
    have := ih fun x hx => h x (by simp [hx])
    have := h y (by simp)
    omega
theorem givV_len (xs : List (List Vt)) : xs.flatten.length ≤ (givV xs).length := by
  cases xs with
  | nil => simp [givV]
  | cons y r =>
    have := (sepV_len [44] (y :: r)).1
    show _ ≤ (sgV [40] :: (sepV [44] (y :: r) ++ [sgV [41]])).length
    simp only [List.length_cons, List.length_append] at *
    omega
mutual
theorem wdV_len : ∀ x : Wd, wdN x ≤ (wdV x).length
  | .mk n ws p => by
    have h1 := wdsV_len ws
    have h2 := givV_len (wdsV ws)
    rw [wdN, wdV, List.length_cons]
    omega
theorem wdsV_len : ∀ xs : List Wd, wdsN xs ≤ (wdsV xs).flatten.length
  | [] => by simp [wdsN]
  | x :: xs => by
    have h1 := wdV_len x
    have h2 := wdsV_len xs
    rw [wdsN, wdsV, List.flatten_cons, List.length_append]
    omega
end
theorem text_sz {N : Nat} {x : Tx} (h : (txV x).length < N) : szT N x := by
  unfold txV at h
  rw [List.length_append, List.length_cons] at h
  have h1 : x.decls.length ≤ (x.decls.map deV).flatten.length := by
    have := flat_len_le (xs := x.decls.map deV) (fun y hy => by
      obtain ⟨d, _, rfl⟩ := List.mem_map.1 hy
      unfold deV; simp)
    simpa using this
  have h2 : x.rules.length ≤ (x.rules.map ruV).flatten.length := by
    have := flat_len_le (xs := x.rules.map ruV) (fun y hy => by
      obtain ⟨d, _, rfl⟩ := List.mem_map.1 hy
      unfold ruV; simp)
    simpa using this
  refine ⟨by omega, fun d hd => ?_, by omega, fun r hr => ?_⟩
  · have := mem_flat_len (List.mem_map_of_mem (f := deV) hd)
    unfold deV at this
    simp only [List.length_cons, List.length_append, List.length_map] at this
    unfold deV at h
    omega
  · have hq := mem_flat_len (List.mem_map_of_mem (f := ruV) hr)
    have hl : (ruV r).length < N := by omega
    clear hq h1 h2 h
    unfold ruV at hl
    simp only [List.length_cons, List.length_append] at hl
    have g1 := givV_len (r.params.map fun p => [noV p])
    have g2 : r.params.length ≤ (r.params.map fun p => [noV p]).flatten.length := by
      have := flat_len_le (xs := r.params.map fun p => [noV p]) (fun y hy => by
        obtain ⟨d, _, rfl⟩ := List.mem_map.1 hy
        simp)
      simpa using this
    obtain ⟨s1, s2⟩ := sepV_len [124] (r.alts.map alV)
    rw [List.length_map] at s2
    refine ⟨by omega, by omega, fun a ha => ?_⟩
    have hq := mem_flat_len (List.mem_map_of_mem (f := alV) ha)
    have hl2 : (alV a).length < N := by omega
    unfold alV at hl2
    rw [List.length_append] at hl2
    have hw := wdsV_len a.words
    have hw2 := wdsYtngimijiafnheaaGreatlength a.words
    refine ⟨by omega, fun w hw3 => ?_⟩
    have := wdYtngimijiafnheaaGreatmem a.words w hw3
    omega
theorem Lk.len {u : List Tok} {vs : List Vt} (h : Lk u vs) : u.length = vs.length := by
  have := congrArg List.length h
  simpa using this
/-- The same with the tokens' own number. -/
theorem text_rd2 {x : Tx} {u r : List Tok} (hx : wfT x) (hu : Lk u (txV x)) (hr : atB [[]] r = true) : ∃ x', textF ((u ++ r).length + 1) (u ++ r) = some (.ok (x', r)) ∧ plT x' = plT x :=
  text_rd (text_sz (by have := hu.len; rw [List.length_append]; omega)) hx hu hr
end LexT
