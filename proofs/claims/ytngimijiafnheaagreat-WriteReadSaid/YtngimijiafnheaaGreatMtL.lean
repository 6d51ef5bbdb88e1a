/- A text written out: its bytes, and that they are read as its own tokens. -/
/- How long a written text is. -/
/- Actions, looked through byte by byte: what may stand between braces. -/
import Derived.Test.YtngimijiafnheaaGreatMtC
import Derived.Test.YtngimijiafnheaaGreatWrA
set_option maxRecDepth 100000
namespace LexT
set_option linter.unusedVariables false
set_option linter.unusedSimpArgs false
/-- One behind the other, a comma and a blank between. -/
def sepW : List Bs → Bs
  | [] => []
  | x :: r => match r with
    | [] => x
    | _ :: _ => x ++ 44 :: 32 :: sepW r
def givW (xs : List Bs) : Bs := match xs with | [] => [] | _ :: _ => 40 :: (sepW xs ++ [41])
mutual
def wdW : Wd → Bs
  | .mk n ws p => n ++ givW (wdsW ws)
def wdsW : List Wd → List Bs
  | [] => []
  | x :: xs => wdW x :: wdsW xs
end
def precW (p : Bs) : Bs := if p = [] then [] else [32, 37, 112, 114, 101, 99, 32] ++ p
def actW (a : Al) : Bs := if a.has then [32, 123] ++ (a.action ++ [125]) else []
def alW (a : Al) : Bs := ((wdsW a.words).map (32 :: ·)).flatten ++ (precW a.prec ++ actW a)
/-- The other alternatives. -/
def alsW (az : List Al) : Bs := (az.map fun a => [9, 124] ++ (alW a ++ [10])).flatten
def altsW : List Al → Bs
  | [] => []
  | a :: az => 58 :: (alW a ++ 10 :: alsW az)
def ruW (r : Ru) : Bs := r.name ++ (givW r.params ++ (altsW r.alts ++ [9, 59, 10]))
def typW (ty : Bs) : Bs := if ty = [] then [] else [32, 60] ++ (ty ++ [62])
def deW (d : De) : Bs := 37 :: (d.kind ++ (typW d.type ++ ((d.names.map (32 :: ·)).flatten ++ [59, 10])))
def txW (x : Tx) : Bs := (x.decls.map deW).flatten ++ ([37, 37, 10] ++ (x.rules.map ruW).flatten)
/-- What token looks so. -/
def re (v : Nat × Bs) : Nat × Bs := if v.1 = 0 then (if words.contains v.2 then 1 else 6, v.2) else v
def noLd (z : Bs) : Prop := ∀ c, z.head? = some c → isLd c = false
/-- These bytes are read as these tokens, whatever stands behind; c: if no letter nor digit does. -/
def Wr (c : Bool) (b : Bs) (ts : List (Nat × Bs)) : Prop := ∀ z zs, (c = true → noLd z) → Tks z zs → Tks (b ++ z) (ts ++ zs)
theorem Wr.nil : Wr false [] [] := fun z zs _ h => h
theorem Wr.app {c1 c2 : Bool} {b1 b2 : Bs} {t1 t2 : List (Nat × Bs)} (h1 : Wr c1 b1 t1) (h2 : Wr c2 b2 t2) (hc : c1 = true → b2 ≠ [] ∧ noLd b2) : Wr c2 (b1 ++ b2) (t1 ++ t2) := by
  intro z zs hz h
  rw [List.append_assoc, List.append_assoc]
  refine h1 _ _ (fun h9 => ?_) (h2 z zs hz h)
  obtain ⟨hb, hn⟩ := hc h9
  cases b2 with
  | nil => exact absurd rfl hb
  | cons d q => exact fun c hc => hn c hc
theorem Wr.weak {b : Bs} {ts : List (Nat × Bs)} (h : Wr false b ts) : Wr true b ts := fun z zs _ hk => h z zs (fun h => by cases h) hk
theorem Wr.bl {c : UInt8} (h : isBl c = true) : Wr false [c] [] := fun z zs _ hk => hk.strip (strip_bl h z).symm
/-- A token's first byte is no blank, and begins no comment. -/
theorem one_head {l : Bs} {k n : Nat} {t : Bs} (h : oneT l = .ok (k, t, n)) (z : Bs) : strip (l ++ z) = l ++ z := by
  cases l with
  | nil => cases h
  | cons c r =>
    have hc : isBl c = false ∧ c ≠ 47 := by
      cases h1 : isLt (lookB (c :: r) 0)
      · cases h2 : (lookB (c :: r) 0 == 123)
        · cases h3 : [37, 37].isPrefixOf (c :: r)
          · cases h4 : (lookB (c :: r) 0 == 37)
            · cases h5 : isSg (lookB (c :: r) 0)
              · rw [one_none h1 h2 h3 h4 h5] at h; cases h
              · have := sg_not c h5
                exact ⟨this.1, this.2.1⟩
            · have : c = 37 := by simpa [look_cons] using h4
              subst this; exact ⟨rfl, by decide⟩
          · have : c = 37 := by
              simp [List.isPrefixOf] at h3
              exact h3.1.symm
            subst this; exact ⟨rfl, by decide⟩
        · have : c = 123 := by simpa [look_cons] using h2
          subst this; exact ⟨rfl, by decide⟩
      · have := lt_not c h1
        exact ⟨this.1, this.2.1⟩
    refine strip_no hc.1 ?_
    have : (47 == c) = false := by simpa using fun e => hc.2 e.symm
    show ((47 == c) && _) = false
    rw [this]; rfl
/-- A good token is read ahead of anything. -/
theorem Wr.tok {k : Nat} {t : Bs} (g : Good k t) : Wr (k == 1 || k == 2) (spell k t) [(k, t)] := by
  intro z zs hz h
  have h1 := g.one []
  have hlen : (spell k t ++ [32]).take (spell k t).length = spell k t := List.take_left
  have h2 := one_loc h1 z (fun hk => hz (by rcases hk with rfl | rfl <;> rfl))
  rw [hlen] at h2
  have h3 := one_head h2 []
  rw [List.append_nil] at h3
  refine .cons (n := (spell k t).length) (by rw [h3]; exact h2) ?_
  rw [h3, List.drop_left]
  exact h
theorem Wr.name {n : Bs} (g : Good 2 n) : Wr true n [(2, n)] := Wr.tok g
theorem Wr.sign {c : UInt8} (h : isSg c = true) : Wr false [c] [(6, [c])] := by
  have q := sg_not c h
  have h3 : [37, 37].isPrefixOf [c] = false := by simp [List.isPrefixOf]
  have ho : oneT [c] = .ok (6, [c], 1) := one_sign (l := [c]) q.2.2.1 q.2.2.2.1 h3 q.2.2.2.2.2 h
  exact Wr.tok (told_one ho).good
theorem Wr.two : Wr false [37, 37] [(6, [37, 37])] := Wr.tok (told_one (l := [37, 37]) rfl).good
theorem Wr.word {w : Bs} (h : Good 1 w) : Wr true (37 :: w) [(1, w)] := Wr.tok h
theorem Wr.act {a : Bs} (h : Good 9 a) : Wr false (123 :: (a ++ [125])) [(9, a)] := Wr.tok h
theorem noLd_cons {c : UInt8} {r : Bs} (h : isLd c = false) : noLd (c :: r) := fun d hd => by injection hd with hd; subst hd; exact h
/-- All tokens of these are good. -/
def GoodV (vs : List Vt) : Prop := ∀ v ∈ vs, Good (re v.1).1 (re v.1).2
theorem GoodV.left {a b : List Vt} (h : GoodV (a ++ b)) : GoodV a := fun v hv => h v (List.mem_append_left _ hv)
theorem GoodV.right {a b : List Vt} (h : GoodV (a ++ b)) : GoodV b := fun v hv => h v (List.mem_append_right _ hv)
theorem GoodV.tail {v : Vt} {b : List Vt} (h : GoodV (v :: b)) : GoodV b := fun u hu => h u (by simp [hu])
abbrev ks (vs : List Vt) : List (Nat × Bs) := vs.map fun v => re v.1
theorem good_name {n : Bs} {p : Option Nat} {b : List Vt} (h : GoodV (((2, n), p) :: b)) : Good 2 n := h ((2, n), p) (by simp)
/-- Names begin with letters. -/
theorem good_first {n : Bs} (g : Good 2 n) : n ≠ [] := by
  intro e
  have := g.pos
  rw [e] at this
  simp [spell] at this
theorem sep_wr {γ : Type} (v : γ → List Vt) (b : γ → Bs) : ∀ (ys : List γ) (h : ∀ y ∈ ys, GoodV (v y) → Wr true (b y) (ks (v y))), ys ≠ [] → GoodV (sepV [44] (ys.map v)) → Wr true (sepW (ys.map b)) (ks (sepV [44] (ys.map v)))
  | [], h, hne, g => absurd rfl hne
  | [y], h, hne, g => h y (by simp) g
  | y :: z :: r, h, hne, g => by
    have e0 : sepV [44] ((y :: z :: r).map v) = v y ++ sgV [44] :: sepV [44] ((z :: r).map v) := rfl
    rw [e0] at g ⊢
    have h1 := h y (by simp) g.left
    have h2 := sep_wr v b (z :: r) (fun x hx => h x (by simp [hx])) (by simp) g.right.tail
    have e1 : sepW ((y :: z :: r).map b) = b y ++ ([44] ++ ([32] ++ sepW ((z :: r).map b))) := rfl
    have e2 : ks (v y ++ sgV [44] :: sepV [44] ((z :: r).map v)) = ks (v y) ++ ([(6, [44])] ++ ([] ++ ks (sepV [44] ((z :: r).map v)))) := by
      rw [ks, List.map_append, List.map_cons]
      have : re (sgV [44]).1 = (6, [44]) := by decide
      rw [this]; rfl
    rw [e1]
    show Wr true _ (ks (v y ++ sgV [44] :: sepV [44] ((z :: r).map v)))
    rw [e2]
    exact h1.app ((Wr.sign (c := 44) rfl).app ((Wr.bl (c := 32) rfl).app h2 (fun h => by cases h)) (fun h => by cases h)) (fun _ => ⟨by simp, noLd_cons rfl⟩)
theorem giv_wr {γ : Type} (v : γ → List Vt) (b : γ → Bs) (ys : List γ) (h : ∀ y ∈ ys, GoodV (v y) → Wr true (b y) (ks (v y))) (g : GoodV (givV (ys.map v))) : Wr false (givW (ys.map b)) (ks (givV (ys.map v))) := by
  cases hys : ys with
  | nil => exact Wr.nil
  | cons z zs =>
    have hg : givV (ys.map v) = sgV [40] :: (sepV [44] (ys.map v) ++ [sgV [41]]) := by rw [hys]; rfl
    have hw : givW (ys.map b) = [40] ++ (sepW (ys.map b) ++ [41]) := by rw [hys]; rfl
    have hne : ys ≠ [] := by rw [hys]; simp
    rw [← hys, hg, hw]
    rw [hg] at g
    have h2 := sep_wr v b ys h hne g.tail.left
    have e2 : ks (sgV [40] :: (sepV [44] (ys.map v) ++ [sgV [41]])) = [(6, [40])] ++ (ks (sepV [44] (ys.map v)) ++ [(6, [41])]) := by
      rw [ks, List.map_cons, List.map_append]
      have e3 : re (sgV [40]).1 = (6, [40]) := by decide
      have e4 : re (sgV [41]).1 = (6, [41]) := by decide
      rw [e3, List.map_singleton, e4]; rfl
    rw [e2]
    exact (Wr.sign (c := 40) rfl).app (h2.app (Wr.sign (c := 41) rfl) (fun _ => ⟨by simp, noLd_cons rfl⟩)) (fun h => by cases h)
theorem giv_noLd (xs : List Bs) : givW xs = [] ∨ (givW xs ≠ [] ∧ noLd (givW xs)) := by
  cases xs with
  | nil => exact .inl rfl
  | cons y r => exact .inr ⟨by simp [givW], noLd_cons rfl⟩
/-- What ends in a name, or in what may stand behind one. -/
theorem Wr.app2 {b1 b2 : Bs} {t1 t2 : List (Nat × Bs)} (h1 : Wr true b1 t1) (h2 : Wr false b2 t2) (hc : b2 = [] → t2 = []) (hn : b2 ≠ [] → noLd b2) : Wr true (b1 ++ b2) (t1 ++ t2) := by
  by_cases e : b2 = []
  · rw [e, hc e, List.append_nil, List.append_nil]; exact h1
  · exact h1.app h2.weak (fun _ => ⟨e, hn e⟩)
theorem wdsW_map : ∀ a : List Wd, wdsW a = a.map wdW
  | [] => rfl
  | x :: a => by rw [wdsW, wdsW_map a]; rfl
theorem wd_wr : ∀ (x : Wd), GoodV (wdV x) → Wr true (wdW x) (ks (wdV x))
  | .mk n ws p, g => by
    rw [wdV, wdsV_map] at g ⊢
    rw [wdW, wdsW_map]
    have h1 := giv_wr wdV wdW ws (fun y hy g => wd_wr y g) g.tail
    have e2 : ks (nmV n p :: givV (ws.map wdV)) = [(2, n)] ++ ks (givV (ws.map wdV)) := by
      rw [ks, List.map_cons]
      have : re (nmV n p).1 = (2, n) := rfl
      rw [this]; rfl
    rw [e2]
    refine (Wr.name (good_name g)).app2 h1 (fun e => ?_) (fun e => ?_)
    · cases ws with
      | nil => rfl
      | cons y r => simp [givW] at e
    · rcases giv_noLd (ws.map wdW) with h | h
      · exact absurd h e
      · exact h.2
  termination_by x => SizeOf.sizeOf x
  decreasing_by
    have := List.sizeOf_lt_of_mem hy
    simp
    omega
/-- Both end in what no letter may follow. -/
theorem Wr.appT {b1 b2 : Bs} {t1 t2 : List (Nat × Bs)} (h1 : Wr true b1 t1) (h2 : Wr true b2 t2) (hc : b2 = [] → t2 = []) (hn : b2 ≠ [] → noLd b2) : Wr true (b1 ++ b2) (t1 ++ t2) := by
  by_cases e : b2 = []
  · rw [e, hc e, List.append_nil, List.append_nil]; exact h1
  · exact h1.app h2 (fun _ => ⟨e, hn e⟩)
theorem ks_app (a b : List Vt) : ks (a ++ b) = ks a ++ ks b := List.map_append
theorem ks_cons (v : Vt) (b : List Vt) : ks (v :: b) = [re v.1] ++ ks b := rfl
theorem bl_flat (xs : List Bs) : (xs.map (32 :: ·)).flatten ≠ [] → noLd (xs.map (32 :: ·)).flatten := by
  intro h
  cases xs with
  | nil => exact absurd rfl h
  | cons x r => exact noLd_cons rfl
theorem words_wr : ∀ ws : List Wd, GoodV (wdsV ws).flatten → Wr true ((wdsW ws).map (32 :: ·)).flatten (ks (wdsV ws).flatten)
  | [], g => Wr.nil.weak
  | x :: xs, g => by
    rw [wdsV, List.flatten_cons] at g ⊢
    rw [wdsW, List.map_cons, List.flatten_cons, ks_app]
    have h1 : Wr true (32 :: wdW x) (ks (wdV x)) := by
      have := (Wr.bl (c := 32) rfl).app (wd_wr x g.left) (fun h => by cases h)
      exact this
    refine h1.appT (words_wr xs g.right) (fun e => ?_) (bl_flat _)
    cases xs with
    | nil => rfl
    | cons y r => simp [wdsW] at e
theorem prec_wr (p : Bs) (g : GoodV (precV p)) : Wr true (precW p) (ks (precV p)) := by
  unfold precV at g ⊢
  unfold precW
  by_cases h : p = []
  · rw [if_pos h, if_pos h]; exact Wr.nil.weak
  · rw [if_neg h] at g
    rw [if_neg h, if_neg h]
    have g1 : Good 1 [112, 114, 101, 99] := by
      have := g _ (List.mem_cons_self)
      have e : re (sgV [112, 114, 101, 99]).1 = (1, [112, 114, 101, 99]) := by decide
      rw [e] at this; exact this
    have g2 : Good 2 p := good_name (p := none) (b := []) g.tail
    have e : ks [sgV [112, 114, 101, 99], noV p] = [] ++ ([(1, [112, 114, 101, 99])] ++ ([] ++ [(2, p)])) := by
      have e1 : re (sgV [112, 114, 101, 99]).1 = (1, [112, 114, 101, 99]) := by decide
      rw [ks_cons, e1]; rfl
    rw [e]
    have := (Wr.bl (c := 32) rfl).app ((Wr.word g1).app ((Wr.bl (c := 32) rfl).app (Wr.name g2) (fun h => by cases h)) (fun _ => ⟨by simp, noLd_cons rfl⟩)) (fun h => by cases h)
    exact this
theorem actv_wr (a : Al) (g : GoodV (actV a)) : Wr false (actW a) (ks (actV a)) := by
  unfold actV at g ⊢
  unfold actW
  cases h : a.has with
  | false => exact Wr.nil
  | true =>
    rw [h] at g
    have g1 : Good 9 a.action := g ((9, a.action), some (a.where_ - 1)) (by simp)
    have := (Wr.bl (c := 32) rfl).app (Wr.act g1) (fun h => by cases h)
    exact this
theorem al_wr (a : Al) (g : GoodV (alV a)) : Wr true (alW a) (ks (alV a)) := by
  unfold alV at g ⊢
  unfold alW
  rw [ks_app, ks_app]
  have h1 := words_wr a.words g.left
  have h2 := prec_wr a.prec g.right.left
  have h3 := actv_wr a g.right.right
  have e3 : actW a = [] → ks (actV a) = [] := by
    unfold actW actV
    cases a.has <;> simp
  have n3 : actW a ≠ [] → noLd (actW a) := by
    unfold actW
    cases a.has
    · intro h; exact absurd rfl h
    · intro _; exact noLd_cons rfl
  have e2 : precW a.prec = [] → ks (precV a.prec) = [] := by
    unfold precW precV
    by_cases h : a.prec = []
    · simp [h]
    · simp [h]
  have n2 : precW a.prec ≠ [] → noLd (precW a.prec) := by
    unfold precW
    by_cases h : a.prec = []
    · intro h2; exact absurd (by simp [h]) h2
    · intro _; rw [if_neg h]; exact noLd_cons rfl
  refine h1.appT (h2.app2 h3 e3 n3) (fun e => ?_) (fun e => ?_)
  · rw [List.append_eq_nil_iff] at e
    rw [e2 e.1, e3 e.2]; rfl
  · by_cases h : precW a.prec = []
    · rw [h, List.nil_append] at e ⊢; exact n3 e
    · have := n2 h
      cases hp : precW a.prec with
      | nil => exact absurd hp h
      | cons c r => rw [hp] at this; exact fun d hd => this d hd
theorem alts_wr : ∀ (az : List Al) (a : Al), GoodV (sepV [124] ((a :: az).map alV)) → Wr false (alW a ++ 10 :: alsW az) (ks (sepV [124] ((a :: az).map alV)))
  | [], a, g => by
    have h1 := al_wr a g
    have := h1.app (Wr.bl (c := 10) rfl) (fun _ => ⟨by simp, noLd_cons rfl⟩)
    rw [List.append_nil] at this
    exact this
  | b :: r, a, g => by
    have e0 : sepV [124] ((a :: b :: r).map alV) = alV a ++ sgV [124] :: sepV [124] ((b :: r).map alV) := rfl
    rw [e0] at g ⊢
    have h1 := al_wr a g.left
    have h2 := alts_wr r b g.right.tail
    have e1 : alW a ++ 10 :: alsW (b :: r) = alW a ++ ([10] ++ ([9] ++ ([124] ++ (alW b ++ 10 :: alsW r)))) := by
      simp [alsW]
    have e2 : ks (alV a ++ sgV [124] :: sepV [124] ((b :: r).map alV)) = ks (alV a) ++ ([] ++ ([] ++ ([(6, [124])] ++ ks (sepV [124] ((b :: r).map alV))))) := by
      rw [ks_app, ks_cons]
      have : re (sgV [124]).1 = (6, [124]) := by decide
      rw [this]; rfl
    rw [e1, e2]
    exact h1.app ((Wr.bl (c := 10) rfl).app ((Wr.bl (c := 9) rfl).app ((Wr.sign (c := 124) rfl).app h2 (fun h => by cases h)) (fun h => by cases h)) (fun h => by cases h)) (fun _ => ⟨by simp, noLd_cons rfl⟩)
theorem ru_wr (r : Ru) (hr : wfR r) (g : GoodV (ruV r)) : Wr false (ruW r) (ks (ruV r)) := by
  unfold ruV at g ⊢
  unfold ruW
  have h1 := Wr.name (good_name g)
  have gp := g.tail.left
  have ga := g.tail.right.tail.left
  have h2 := giv_wr (fun p => [noV p]) id r.params (fun y hy g => by
    have : ks [noV y] = [(2, y)] := rfl
    rw [this]
    exact Wr.name (good_name (p := none) (b := []) g)) gp
  obtain ⟨a, az, haz⟩ : ∃ a az, r.alts = a :: az := by
    cases h : r.alts with
    | nil => exact absurd h hr.2.2.1
    | cons a az => exact ⟨a, az, rfl⟩
  rw [haz] at ga ⊢
  have h3 := alts_wr az a ga
  have e58 : re (sgV [58]).1 = (6, [58]) := by decide
  have e59 : re (sgV [59]).1 = (6, [59]) := by decide
  have et : ks (nmV r.name r.at_ :: (givV (r.params.map fun p => [noV p]) ++ (sgV [58] :: (sepV [124] ((a :: az).map alV) ++ [sgV [59]])))) = [(2, r.name)] ++ (ks (givV (r.params.map fun p => [noV p])) ++ ([(6, [58])] ++ (ks (sepV [124] ((a :: az).map alV)) ++ ([] ++ ([(6, [59])] ++ []))))) := by
    rw [ks_cons, ks_app, ks_cons, ks_app, ks_cons, e58, e59]; rfl
  have eb : r.name ++ (givW r.params ++ (altsW (a :: az) ++ [9, 59, 10])) = r.name ++ (givW (r.params.map id) ++ ([58] ++ ((alW a ++ 10 :: alsW az) ++ ([9] ++ ([59] ++ [10]))))) := by
    rw [List.map_id]; simp [altsW]
  rw [et, eb]
  have h4 := (Wr.sign (c := 58) rfl).app (h3.app ((Wr.bl (c := 9) rfl).app ((Wr.sign (c := 59) rfl).app (Wr.bl (c := 10) rfl) (fun h => by cases h)) (fun h => by cases h)) (fun h => by cases h)) (fun h => by cases h)
  refine h1.app (h2.app h4 (fun h => by cases h)) (fun _ => ⟨by simp, ?_⟩)
  rcases giv_noLd (r.params.map id) with h | h
  · rw [h]; exact noLd_cons rfl
  · cases hp : givW (r.params.map id) with
    | nil => exact absurd hp h.1
    | cons c q => rw [hp] at h; exact fun d hd => h.2 d hd
theorem names_wr : ∀ ns : List Bs, GoodV (ns.map noV) → Wr true (ns.map (32 :: ·)).flatten (ks (ns.map noV))
  | [], g => Wr.nil.weak
  | n :: ns, g => by
    rw [List.map_cons, List.flatten_cons]
    have h1 : Wr true (32 :: n) [(2, n)] := (Wr.bl (c := 32) rfl).app (Wr.name (good_name (p := none) g)) (fun h => by cases h)
    have e : ks ((n :: ns).map noV) = [(2, n)] ++ ks (ns.map noV) := rfl
    rw [e]
    refine h1.appT (names_wr ns g.tail) (fun e => ?_) (bl_flat _)
    cases ns with
    | nil => rfl
    | cons y r => simp at e
theorem typ_wr (k ty : Bs) (g : GoodV (typV k ty)) : Wr false (typW ty) (ks (typV k ty)) := by
  unfold typV at g ⊢
  unfold typW
  by_cases h : ty = []
  · rw [if_pos h, if_pos h]; exact Wr.nil
  · rw [if_neg h] at g
    rw [if_neg h, if_neg h]
    have g2 : Good 2 ty := good_name (p := none) g.tail
    have e : ks [sgV [60], noV ty, sgV [62]] = [] ++ ([(6, [60])] ++ ([(2, ty)] ++ [(6, [62])])) := by
      have e1 : re (sgV [60]).1 = (6, [60]) := by decide
      have e2 : re (sgV [62]).1 = (6, [62]) := by decide
      rw [ks_cons, ks_cons, ks_cons, e1, e2]; rfl
    rw [e]
    have := (Wr.bl (c := 32) rfl).app ((Wr.sign (c := 60) rfl).app ((Wr.name g2).app (Wr.sign (c := 62) rfl) (fun _ => ⟨by simp, noLd_cons rfl⟩)) (fun h => by cases h)) (fun h => by cases h)
    exact this
theorem de_wr (d : De) (hd : wfD d) (g : GoodV (deV d)) : Wr false (deW d) (ks (deV d)) := by
  unfold deV at g ⊢
  unfold deW
  have hk : re (0, d.kind) = (1, d.kind) := by
    have h := hd.1
    unfold kinds at h
    simp only [List.mem_cons, List.not_mem_nil, or_false] at h
    rcases h with h | h | h | h | h | h <;> rw [h] <;> decide
  have g1 : Good 1 d.kind := by
    have := g ((0, d.kind), some d.at_) (by simp)
    rw [hk] at this; exact this
  have h1 := Wr.word g1
  have h2 := typ_wr d.kind d.type g.tail.left
  have h3 := names_wr d.names g.tail.right.left
  have e59 : re (sgV [59]).1 = (6, [59]) := by decide
  have et : ks (((0, d.kind), some d.at_) :: (typV d.kind d.type ++ (d.names.map noV ++ [sgV [59]]))) = [(1, d.kind)] ++ (ks (typV d.kind d.type) ++ (ks (d.names.map noV) ++ ([(6, [59])] ++ []))) := by
    rw [ks_cons, ks_app, ks_app, ks_cons, hk, e59]; rfl
  rw [et]
  have h4 := h3.app ((Wr.sign (c := 59) rfl).app (Wr.bl (c := 10) rfl) (fun h => by cases h)) (fun _ => ⟨by simp, noLd_cons rfl⟩)
  have hno : noLd (typW d.type ++ ((d.names.map (32 :: ·)).flatten ++ ([59] ++ [10]))) := by
    unfold typW
    by_cases h : d.type = []
    · rw [if_pos h]
      cases d.names with
      | nil => exact noLd_cons rfl
      | cons n ns => exact noLd_cons rfl
    · rw [if_neg h]; exact noLd_cons rfl
  exact h1.app (h2.app h4 (fun h => by cases h)) (fun _ => ⟨by simp, hno⟩)
theorem flat_wr {γ : Type} (v : γ → List Vt) (b : γ → Bs) : ∀ (ys : List γ), (∀ y ∈ ys, GoodV (v y) → Wr false (b y) (ks (v y))) → GoodV (ys.map v).flatten → Wr false (ys.map b).flatten (ks (ys.map v).flatten)
  | [], h, g => Wr.nil
  | y :: ys, h, g => by
    rw [List.map_cons, List.flatten_cons] at g
    rw [List.map_cons, List.flatten_cons, List.map_cons, List.flatten_cons, ks_app]
    exact (h y (by simp) g.left).app (flat_wr v b ys (fun z hz => h z (by simp [hz])) g.right) (fun h => by cases h)
theorem tx_wr (x : Tx) (hx : wfT x) (g : GoodV (txV x)) : Wr false (txW x) (ks (txV x)) := by
  unfold txV at g ⊢
  unfold txW
  have h1 := flat_wr deV deW x.decls (fun d hd g => de_wr d (hx.1 d hd) g) g.left
  have h2 := flat_wr ruV ruW x.rules (fun r hr g => ru_wr r (hx.2 r hr) g) g.right.tail
  have e37 : re (sgV [37, 37]).1 = (6, [37, 37]) := by decide
  rw [ks_app, ks_cons, e37]
  have := h1.app (Wr.two.app ((Wr.bl (c := 10) rfl).app h2 (fun h => by cases h)) (fun h => by cases h)) (fun h => by cases h)
  exact this
/-- Names, actions and others: no token looks otherwise. -/
def KindV (vs : List Vt) : Prop := ∀ v ∈ vs, v.1.1 = 0 ∨ v.1.1 = 2 ∨ v.1.1 = 9
theorem vk_re {v : Nat × Bs} (h : v.1 = 0 ∨ v.1 = 2 ∨ v.1 = 9) : vk (re v) = v := by
  obtain ⟨k, s⟩ := v
  simp only at h
  rcases h with rfl | rfl | rfl
  · unfold re
    simp only [if_true]
    cases words.contains s <;> rfl
  · rfl
  · rfl
theorem ks_vk {vs : List Vt} (h : KindV vs) : (ks vs).map vk = vs.map (·.1) := by
  unfold ks
  rw [List.map_map]
  refine List.map_congr_left fun v hv => ?_
  exact vk_re (h v hv)
theorem sp_kind {us : List Tok} {vs : List Vt} (h : Sp us vs) : KindV vs := by
  intro v hv
  obtain ⟨t, _, hm⟩ := h.mem v hv
  rw [← hm.1]
  unfold vw
  by_cases h2 : (t.kind == 2) = true
  · rw [if_pos h2]; exact .inr (.inl rfl)
  · rw [if_neg h2]
    by_cases h9 : (t.kind == 9) = true
    · rw [if_pos h9]; exact .inr (.inr rfl)
    · rw [if_neg h9]; exact .inl rfl
/-- What is written of a text is read as the same, but for places. -/
theorem write_read {x : Tx} (hx : wfT x) (g : GoodV (txV x)) (hk : KindV (txV x)) (hl : (txW x).length ≤ 65536) : ∃ x', textT (txW x) = .ok x' ∧ plT x' = plT x := by
  have h := tx_wr x hx g [] [] (fun h => by cases h) (.nil rfl)
  rw [List.append_nil, List.append_nil] at h
  exact told_rd h hl hx (ks_vk hk)
theorem okK.re {t : Tok} (h : okK (kt t)) : LexT.re (vw t) = kt t := by
  rcases h with h | h | h | h
  · have h1 : t.kind = 1 := h.1
    have h2 : t.text ∈ words := h.2
    unfold vw LexT.re
    simp only [h1, kt]
    simp [h2]
  · have h1 : t.kind = 2 := h.1
    unfold vw LexT.re
    simp [h1, kt]
  · have h1 : t.kind = 6 := h.1
    have h2 : t.text ∉ words := by
      rcases h.2 with h | ⟨c, hc, h⟩
      · have h : t.text = _ := h
        rw [h]; decide
      · have h : t.text = _ := h
        rw [h]; unfold words; simp
    unfold vw LexT.re
    simp [h1, kt, h2]
  · have h1 : t.kind = 9 := h
    unfold vw LexT.re
    simp [h1, kt]
/-- What was read has good tokens alone. -/
theorem told_good {s : Bs} {x : Tx} (h : textT s = .ok x) : wfT x ∧ GoodV (txV x) ∧ KindV (txV x) := by
  obtain ⟨us, e, h1, h2, h3, h4, h5⟩ := told_sp h
  refine ⟨h4, fun v hv => ?_, sp_kind h3⟩
  obtain ⟨t, ht, hm⟩ := h3.mem v hv
  have hok := h2.ok (kt t) (List.mem_map_of_mem ht)
  rw [← hm.1, hok.re]
  unfold tokensT at h1
  rw [if_neg (by omega)] at h1
  have hg := go_keeps (s.length + 1) s 0 [] (by omega) (by omega)
  rw [List.drop_zero, h1] at hg
  obtain ⟨us2, hus, _, hgood⟩ := hg
  have hus2 : us = us2 := by
    have := congrArg List.dropLast hus
    simpa using this
  subst hus2
  exact (hgood t ht).1
/-- A source that was read, written, is read as the same, but for places. -/
theorem read_write {s : Bs} {x : Tx} (h : textT s = .ok x) (hl : (txW x).length ≤ 65536) : ∃ x', textT (txW x) = .ok x' ∧ plT x' = plT x := by
  obtain ⟨h1, h2, h3⟩ := told_good h
  exact write_read h1 h2 h3 hl
mutual
theorem wdW_bare : ∀ x : Wd, wdW (bareW x) = wdW x
  | .mk n ws p => by rw [bareW, wdW, wdW, wdsW_bare ws]
theorem wdsW_bare : ∀ xs : List Wd, wdsW (bareWs xs) = wdsW xs
  | [] => rfl
  | x :: xs => by rw [bareWs, wdsW, wdsW, wdW_bare x, wdsW_bare xs]
end
theorem alW_pl (a : Al) : alW (plA a) = alW a := by
  unfold alW
  show ((wdsW (bareWs a.words)).map (32 :: ·)).flatten ++ _ = _
  rw [wdsW_bare]; rfl
theorem ruW_pl (r : Ru) : ruW (plR r) = ruW r := by
  unfold ruW
  show r.name ++ (givW r.params ++ (altsW (r.alts.map plA) ++ [9, 59, 10])) = _
  have h : altsW (r.alts.map plA) = altsW r.alts := by
    cases r.alts with
    | nil => rfl
    | cons a az =>
      show 58 :: (alW (plA a) ++ 10 :: alsW (az.map plA)) = _
      rw [alW_pl]
      have : alsW (az.map plA) = alsW az := by
        unfold alsW
        rw [List.map_map]
        exact congrArg List.flatten (List.map_congr_left fun b _ => by show [9, 124] ++ (alW (plA b) ++ [10]) = _; rw [alW_pl])
      rw [this]; rfl
  rw [h]
/-- Places play no part. -/
theorem txW_pl (x : Tx) : txW (plT x) = txW x := by
  unfold txW
  show ((x.decls.map plD).map deW).flatten ++ ([37, 37, 10] ++ ((x.rules.map plR).map ruW).flatten) = _
  rw [List.map_map, List.map_map]
  have h1 : x.decls.map (deW ∘ plD) = x.decls.map deW := List.map_congr_left fun d _ => rfl
  have h2 : x.rules.map (ruW ∘ plR) = x.rules.map ruW := List.map_congr_left fun r _ => ruW_pl r
  rw [h1, h2]
/-- And is written alike. -/
theorem write_again {x x' : Tx} (h : plT x' = plT x) : txW x' = txW x := by rw [← txW_pl x', h, txW_pl]
end LexT
namespace LexT
set_option linter.unusedVariables false
set_option linter.unusedSimpArgs false
/-- A token's length, and four bytes more. -/
def wt (v : Vt) : Nat := v.1.2.length + 4
def wts (vs : List Vt) : Nat := (vs.map wt).sum
theorem wts_app (a b : List Vt) : wts (a ++ b) = wts a + wts b := by simp [wts]
theorem wts_cons (v : Vt) (b : List Vt) : wts (v :: b) = wt v + wts b := by simp [wts]
theorem wts_nil : wts [] = 0 := rfl
theorem wt_sg (s : Bs) : wt (sgV s) = s.length + 4 := rfl
theorem wt_nm (s : Bs) (p : Nat) : wt (nmV s p) = s.length + 4 := rfl
theorem wt_no (s : Bs) : wt (noV s) = s.length + 4 := rfl
theorem sepW_len {γ : Type} (v : γ → List Vt) (b : γ → Bs) : ∀ (ys : List γ), (∀ y ∈ ys, (b y).length ≤ wts (v y)) → (sepW (ys.map b)).length ≤ wts (sepV [44] (ys.map v))
  | [], h => by simp [sepW]
  | [y], h => h y (by simp)
  | y :: z :: r, h => by
    have e0 : sepV [44] ((y :: z :: r).map v) = v y ++ sgV [44] :: sepV [44] ((z :: r).map v) := rfl
    have e1 : sepW ((y :: z :: r).map b) = b y ++ 44 :: 32 :: sepW ((z :: r).map b) := rfl
    have h1 := h y (by simp)
    have h2 := sepW_len v b (z :: r) (fun x hx => h x (by simp [hx]))
    rw [e0, e1, wts_app, wts_cons, wt_sg, List.length_append, List.length_cons, List.length_cons]
    simp only [List.length_cons, List.length_nil]
    omega
theorem givW_len {γ : Type} (v : γ → List Vt) (b : γ → Bs) (ys : List γ) (h : ∀ y ∈ ys, (b y).length ≤ wts (v y)) : (givW (ys.map b)).length ≤ wts (givV (ys.map v)) := by
  cases hys : ys with
  | nil => exact Nat.zero_le _
  | cons z zs =>
    have hg : givV (ys.map v) = sgV [40] :: (sepV [44] (ys.map v) ++ [sgV [41]]) := by rw [hys]; rfl
    have hw : givW (ys.map b) = 40 :: (sepW (ys.map b) ++ [41]) := by rw [hys]; rfl
    have h2 := sepW_len v b ys h
    rw [← hys, hg, hw, wts_cons, wts_app, wts_cons, wt_sg, wt_sg, List.length_cons, List.length_append]
    simp only [List.length_cons, List.length_nil]
    omega
theorem wdW_len : ∀ x : Wd, (wdW x).length ≤ wts (wdV x)
  | .mk n ws p => by
    have h1 := givW_len wdV wdW ws (fun y hy => wdW_len y)
    rw [wdW, wdV, wdsW_map, wdsV_map, wts_cons, wt_nm, List.length_append]
    omega
  termination_by x => SizeOf.sizeOf x
  decreasing_by
    have := List.sizeOf_lt_of_mem hy
    simp
    omega
/-- A blank ahead of each. -/
theorem wdW_len1 : ∀ x : Wd, (wdW x).length + 1 ≤ wts (wdV x)
  | .mk n ws p => by
    have h1 := givW_len wdV wdW ws (fun y hy => wdW_len y)
    rw [wdW, wdV, wdsW_map, wdsV_map, wts_cons, wt_nm, List.length_append]
    omega
theorem wdsW_len : ∀ ws : List Wd, ((wdsW ws).map (32 :: ·)).flatten.length ≤ wts (wdsV ws).flatten
  | [] => by simp [wdsW]
  | x :: xs => by
    have h1 := wdW_len1 x
    have h2 := wdsW_len xs
    rw [wdsW, wdsV, List.map_cons, List.flatten_cons, List.flatten_cons, wts_app, List.length_append, List.length_cons]
    omega
theorem alW_len (a : Al) : (alW a).length ≤ wts (alV a) := by
  unfold alW alV
  have h1 := wdsW_len a.words
  have h2 : (precW a.prec).length ≤ wts (precV a.prec) := by
    unfold precW precV
    by_cases h : a.prec = []
    · simp [h]
    · rw [if_neg h, if_neg h, wts_cons, wts_cons, wt_sg, wt_no, wts_nil, List.length_append]
      simp only [List.length_cons, List.length_nil]
      omega
  have h3 : (actW a).length ≤ wts (actV a) := by
    unfold actW actV
    cases a.has
    · simp
    · have : wts [(((9, a.action), some (a.where_ - 1)) : Vt)] = a.action.length + 4 := rfl
      simp only [if_true]
      rw [this, List.length_append, List.length_append]
      simp only [List.length_cons, List.length_nil]
      omega
  rw [wts_app, wts_app, List.length_append, List.length_append]
  omega
theorem alsW_len : ∀ az : List Al, (alsW az).length ≤ (az.map fun a => wts (alV a) + 3).sum
  | [] => by simp [alsW]
  | a :: az => by
    have h1 := alW_len a
    have h2 := alsW_len az
    have e : alsW (a :: az) = [9, 124] ++ (alW a ++ [10]) ++ alsW az := by simp [alsW]
    rw [e, List.map_cons, List.sum_cons, List.length_append, List.length_append, List.length_append]
    simp only [List.length_cons, List.length_nil]
    omega
theorem sep_sum : ∀ (az : List Al) (a : Al), wts (alV a) + (az.map fun a => wts (alV a) + 5).sum ≤ wts (sepV [124] ((a :: az).map alV))
  | [], a => by
    have : sepV [124] ([a].map alV) = alV a := rfl
    rw [this]; simp
  | b :: r, a => by
    have e0 : sepV [124] ((a :: b :: r).map alV) = alV a ++ sgV [124] :: sepV [124] ((b :: r).map alV) := rfl
    have h := sep_sum r b
    rw [e0, wts_app, wts_cons, wt_sg, List.map_cons, List.sum_cons]
    simp only [List.length_cons, List.length_nil]
    omega
theorem sum_le3 : ∀ az : List Al, (az.map fun a => wts (alV a) + 3).sum ≤ (az.map fun a => wts (alV a) + 5).sum
  | [] => Nat.le_refl _
  | a :: az => by
    have := sum_le3 az
    rw [List.map_cons, List.sum_cons, List.map_cons, List.sum_cons]
    omega
theorem ruW_len (r : Ru) (hr : r.alts ≠ []) : (ruW r).length ≤ wts (ruV r) := by
  obtain ⟨a, az, haz⟩ : ∃ a az, r.alts = a :: az := by
    cases h : r.alts with
    | nil => exact absurd h hr
    | cons a az => exact ⟨a, az, rfl⟩
  unfold ruW ruV
  have h1 := givW_len (fun p => [noV p]) id r.params (fun y hy => by
    have : wts [noV y] = y.length + 4 := rfl
    rw [this]; show y.length ≤ _; omega)
  rw [List.map_id] at h1
  have h2 := alW_len a
  have h3 := alsW_len az
  have h4 := sep_sum az a
  have h5 := sum_le3 az
  rw [haz, wts_cons, wts_app, wts_cons, wts_app, wts_cons, wt_nm, wt_sg, wt_sg, wts_nil, List.length_append, List.length_append, List.length_append]
  have e : (altsW (a :: az)).length = (alW a).length + (alsW az).length + 2 := by simp [altsW]; omega
  rw [e]
  simp only [List.length_cons, List.length_nil]
  omega
theorem namesW_len : ∀ ns : List Bs, ((ns.map (32 :: ·)).flatten).length ≤ wts (ns.map noV)
  | [] => by simp
  | n :: ns => by
    have := namesW_len ns
    rw [List.map_cons, List.flatten_cons, List.map_cons, wts_cons, wt_no, List.length_append, List.length_cons]
    omega
theorem deW_len (d : De) : (deW d).length ≤ wts (deV d) := by
  unfold deW deV
  have h1 := namesW_len d.names
  have h2 : (typW d.type).length ≤ wts (typV d.kind d.type) := by
    unfold typW typV
    by_cases h : d.type = []
    · simp [h]
    · rw [if_neg h, if_neg h, wts_cons, wts_cons, wts_cons, wt_sg, wt_no, wt_sg, wts_nil, List.length_append, List.length_append]
      simp only [List.length_cons, List.length_nil]
      omega
  have e : wt (((0, d.kind), some d.at_) : Vt) = d.kind.length + 4 := rfl
  rw [wts_cons, e, wts_app, wts_app, wts_cons, wt_sg, wts_nil, List.length_cons, List.length_append, List.length_append, List.length_append]
  simp only [List.length_cons, List.length_nil]
  omega
theorem flatW_len {γ : Type} (v : γ → List Vt) (b : γ → Bs) : ∀ (ys : List γ), (∀ y ∈ ys, (b y).length ≤ wts (v y)) → (ys.map b).flatten.length ≤ wts (ys.map v).flatten
  | [], h => by simp
  | y :: ys, h => by
    have h1 := h y (by simp)
    have h2 := flatW_len v b ys (fun z hz => h z (by simp [hz]))
    rw [List.map_cons, List.map_cons, List.flatten_cons, List.flatten_cons, wts_app, List.length_append]
    omega
theorem txW_len {x : Tx} (hx : wfT x) : (txW x).length ≤ wts (txV x) := by
  unfold txW txV
  have h1 := flatW_len deV deW x.decls (fun d _ => deW_len d)
  have h2 := flatW_len ruV ruW x.rules (fun r hr => ruW_len r (hx.2 r hr).2.2.1)
  rw [wts_app, wts_cons, wt_sg, List.length_append, List.length_append]
  simp only [List.length_cons, List.length_nil]
  omega
theorem sp_wts : ∀ {us : List Tok} {vs : List Vt}, Sp us vs → wts vs = (us.map fun t => t.text.length + 4).sum
  | [], [], h => rfl
  | t :: us, v :: vs, h => by
    have h1 := sp_wts h.2
    have h2 : v.1.2 = t.text := by rw [← h.1.1]; rfl
    rw [wts_cons, List.map_cons, List.sum_cons, h1]
    unfold wt
    rw [h2]
  | [], v :: vs, h => h.elim
  | t :: us, [], h => h.elim
theorem lies_sum {s : Bs} : ∀ {us : List Tok} {b : Nat}, Lies s b us → (us.map fun t => t.text.length).sum + b ≤ s.length ∨ us = []
  | [], b, h => .inr rfl
  | t :: us, b, h => by
    obtain ⟨h1, h2, h3, h4⟩ := h
    have hsp : t.text.length ≤ (spell t.kind t.text).length := by
      unfold spell
      split
      · simp
      · split
        · simp only [List.length_cons, List.length_append, List.length_nil]; omega
        · exact Nat.le_refl _
    left
    rw [List.map_cons, List.sum_cons]
    rcases lies_sum h4 with h5 | h5
    · omega
    · subst h5; simp; omega
/-- What is written of a source that was read is no longer than five times as long. -/
theorem write_len {s : Bs} {x : Tx} (h : textT s = .ok x) : (txW x).length ≤ 5 * s.length := by
  obtain ⟨us, e, h1, h2, h3, h4, h5⟩ := told_sp h
  have hl := txW_len h4
  rw [sp_wts h3] at hl
  have hn := tks_len h2
  rw [List.length_map] at hn
  have hb := back s
  rw [h1] at hb
  obtain ⟨us2, hus, hlies, -, -, -⟩ := hb
  have hus2 : us = us2 := by
    have := congrArg List.dropLast hus
    simpa using this
  subst hus2
  have hs : (us.map fun t => t.text.length + 4).sum = (us.map fun t => t.text.length).sum + 4 * us.length := by
    have key : ∀ vs : List Tok, (vs.map fun t => t.text.length + 4).sum = (vs.map fun t => t.text.length).sum + 4 * vs.length := by
      intro vs
      induction vs with
      | nil => rfl
      | cons t vs ih => rw [List.map_cons, List.sum_cons, List.map_cons, List.sum_cons, ih, List.length_cons]; omega
    exact key us
  rcases lies_sum hlies with h6 | h6
  · omega
  · subst h6
    have hl : (txW x).length ≤ 0 := hl
    omega
end LexT
namespace LexT
set_option linter.unusedVariables false
set_option linter.unusedSimpArgs false
theorem strB_none : ∀ (m : Nat) (l : Bs), l.length ≤ m → strB l = none → strB (l ++ [125]) = none := by
  intro m
  induction m with
  | zero => intro l hl h; obtain rfl : l = [] := List.eq_nil_of_length_eq_zero (by omega); rfl
  | succ m ih =>
    intro l hl h
    cases l with
    | nil => rfl
    | cons c q =>
      rw [List.cons_append]
      rw [strB.eq_def] at h ⊢
      simp only [List.length_cons] at hl
      by_cases h1 : (c == 34) = true
      · simp [h1] at h
      · simp only [h1, Bool.false_eq_true, if_false] at h ⊢
        by_cases h2 : (c == 10) = true
        · simp [h2]
        · simp only [h2, Bool.false_eq_true, if_false] at h ⊢
          by_cases h3 : (c == 92) = true
          · simp only [h3, if_true] at h ⊢
            cases q with
            | nil => rfl
            | cons d q =>
              simp only [List.length_cons] at hl
              rw [List.cons_append]
              simp only at h ⊢
              cases e : strB q with
              | some n => simp [e] at h
              | none => rw [ih q (by omega) e]; rfl
          · simp only [h3, Bool.false_eq_true, if_false] at h ⊢
            cases e : strB q with
            | some n => simp [e] at h
            | none => rw [ih q (by omega) e]; rfl
theorem map_some_eq {x : Option Nat} {n m : Nat} : x.map (· + n) = some (m + n) ↔ x = some m := by
  cases x with
  | none => simp
  | some y => simp
/-- One byte that goes by alone. -/
theorem actB_step {c : UInt8} {o : Nat} {r : Bs} (h : pieceB c r = some 1) (ho : openB c o ≠ 0) (m : Nat) : actB o (c :: r) = some (m + 1) ↔ actB (openB c o) r = some m := by
  rw [actB_cons, h]
  simp only [if_neg ho, List.drop_succ_cons, List.drop_zero]
  exact map_some_eq
theorem actL_iff : ∀ (k : Nat) (l : Bs) (f o : Nat), l.length ≤ k → l.length < f → (actL f o l = true ↔ actB (o + 1) (l ++ [125]) = some (l.length + 1)) := by
  intro k
  induction k with
  | zero =>
    intro l f o hl hf
    obtain rfl : l = [] := List.eq_nil_of_length_eq_zero (by omega)
    obtain ⟨f, rfl⟩ : ∃ j, f = j + 1 := ⟨f - 1, by simp at hf; omega⟩
    show (o == 0) = true ↔ actB (o + 1) [125] = some 1
    rw [actB_cons]
    have e1 : pieceB 125 [] = some 1 := rfl
    have e2 : openB 125 (o + 1) = o := rfl
    simp only [e1, e2]
    by_cases h : o = 0
    · simp [h]
    · simp [h, actB_nil]
  | succ k ih =>
    intro l f o hl hf
    obtain ⟨f, rfl⟩ : ∃ j, f = j + 1 := ⟨f - 1, by omega⟩
    cases l with
    | nil =>
      show (o == 0) = true ↔ actB (o + 1) [125] = some 1
      rw [actB_cons]
      have e1 : pieceB 125 [] = some 1 := rfl
      have e2 : openB 125 (o + 1) = o := rfl
      simp only [e1, e2]
      by_cases h : o = 0
      · simp [h]
      · simp [h, actB_nil]
    | cons c r =>
      simp only [List.length_cons] at hl hf
      rw [List.cons_append, List.length_cons]
      unfold actL
      simp only
      by_cases h1 : (c == 123) = true
      · have hc : c = 123 := by simpa using h1
        subst hc
        rw [if_pos h1, ih r f (o + 1) (by omega) (by omega)]
        exact (actB_step (c := 123) (o := o + 1) (r := r ++ [125]) rfl (by show o + 1 + 1 ≠ 0; omega) (r.length + 1)).symm
      · rw [if_neg h1]
        by_cases h2 : (c == 125) = true
        · have hc : c = 125 := by simpa using h2
          subst hc
          rw [if_pos h2]
          by_cases h0 : o = 0
          · rw [if_pos h0, h0, actB_cons]
            have e1 : pieceB 125 (r ++ [125]) = some 1 := rfl
            have e2 : openB 125 (0 + 1) = 0 := rfl
            simp only [e1, e2, if_true]
            simp
          · rw [if_neg h0, ih r f (o - 1) (by omega) (by omega)]
            have := actB_step (c := 125) (o := o + 1) (r := r ++ [125]) rfl (by show o + 1 - 1 ≠ 0; omega) (r.length + 1)
            rw [show openB 125 (o + 1) = o - 1 + 1 from by show o + 1 - 1 = _; omega] at this
            exact this.symm
        · rw [if_neg h2]
          have hop : openB c (o + 1) = o + 1 := by unfold openB; rw [if_neg h1, if_neg h2]
          by_cases h3 : (c == 34) = true
          · rw [if_pos h3]
            have hc : c = 34 := by simpa using h3
            subst hc
            rw [actB_cons]
            have e1 : pieceB 34 (r ++ [125]) = (strB (r ++ [125])).map (· + 1) := rfl
            rw [e1]
            cases e : strB r with
            | none => rw [strB_none _ r (Nat.le_refl _) e]; simp
            | some n =>
              have hn := strB_len _ _ _ (Nat.le_refl _) e
              have h4 := strB_local _ _ _ (Nat.le_refl _) e r.length [125] hn.2
              rw [List.take_length] at h4
              rw [h4]
              simp only [Option.map_some, hop, if_neg (show ¬ (o + 1 = 0) by omega)]
              rw [show (34 :: (r ++ [125])).drop (n + 1) = (r.drop n) ++ [125] from by rw [List.drop_succ_cons, List.drop_append_of_le_length hn.2]]
              rw [ih (r.drop n) f o (by rw [List.length_drop]; omega) (by rw [List.length_drop]; omega)]
              rw [List.length_drop, show r.length + 1 + 1 = (r.length - n + 1) + (n + 1) by omega]
              exact map_some_eq.symm
          · rw [if_neg h3]
            by_cases h4 : (c == 47) = true
            · rw [if_pos h4]
              have hc : c = 47 := by simpa using h4
              subst hc
              by_cases h5 : [47].isPrefixOf r = true
              · rw [if_pos h5]
                have h6 : [47].isPrefixOf (r ++ [125]) = true := by
                  cases r with
                  | nil => cases h5
                  | cons d q => simpa [List.isPrefixOf] using h5
                have e1 : pieceB 47 (r ++ [125]) = some (1 + ((r ++ [125]).takeWhile notNL).length) := by
                  show (if [47].isPrefixOf (r ++ [125]) then _ else _) = _
                  rw [if_pos h6]
                rw [actB_cons, e1]
                simp only [hop, if_neg (show ¬ (o + 1 = 0) by omega)]
                have hdrop : List.drop (1 + (List.takeWhile notNL (r ++ [125])).length) ((47 : UInt8) :: (r ++ [125])) = List.dropWhile notNL (r ++ [125]) := by
                  rw [Nat.add_comm, List.drop_succ_cons, drop_tw]
                rw [hdrop]
                cases hq : r.dropWhile notNL with
                | nil =>
                  rw [dw_none _ _ _ hq]
                  have : ([125] : Bs).dropWhile notNL = [] := rfl
                  rw [this, actB_nil]
                  simp
                | cons d q =>
                  have hne : r.dropWhile notNL ≠ [] := by rw [hq]; simp
                  rw [dw_app _ _ _ hne, hq]
                  have hd : d = 10 := by
                    have := tw_next notNL r d (by rw [drop_tw, hq]; rfl)
                    unfold notNL at this
                    simpa using this
                  subst hd
                  have hlen : (r.takeWhile notNL).length + (q.length + 1) = r.length := by
                    have := congrArg List.length (List.takeWhile_append_dropWhile (p := notNL) (l := r))
                    rw [List.length_append, hq, List.length_cons] at this
                    exact this
                  have htw : ((r ++ [125]).takeWhile notNL).length = (r.takeWhile notNL).length := by
                    have h9 := congrArg List.length (List.takeWhile_append_dropWhile (p := notNL) (l := r ++ [125]))
                    rw [List.length_append, dw_app _ _ _ hne, hq, List.length_append, List.length_append, List.length_cons] at h9
                    simp only [List.length_singleton] at h9
                    omega
                  rw [htw, List.cons_append, ih q f o (by omega) (by omega)]
                  have hs := actB_step (c := 10) (o := o + 1) (r := q ++ [125]) rfl (by show o + 1 ≠ 0; omega) (q.length + 1)
                  have hop10 : openB 10 (o + 1) = o + 1 := rfl
                  rw [hop10] at hs
                  rw [← hs, show r.length + 1 + 1 = (q.length + 1 + 1) + (1 + (r.takeWhile notNL).length) by omega]
                  exact map_some_eq.symm
              · rw [if_neg h5]
                have h6 : ¬ ([47].isPrefixOf (r ++ [125]) = true) := by
                  cases r with
                  | nil => decide
                  | cons d q => simpa [List.isPrefixOf] using h5
                have e1 : pieceB 47 (r ++ [125]) = some 1 := by
                  show (if [47].isPrefixOf (r ++ [125]) then _ else _) = _
                  rw [if_neg h6]
                rw [ih r f o (by omega) (by omega)]
                have := actB_step (c := 47) (o := o + 1) e1 (by rw [hop]; omega) (r.length + 1)
                rw [hop] at this
                exact this.symm
            · rw [if_neg h4]
              have e1 : pieceB c (r ++ [125]) = some 1 := by unfold pieceB; rw [if_neg h3, if_neg h4]
              rw [ih r f o (by omega) (by omega)]
              have := actB_step (o := o + 1) e1 (by rw [hop]; omega) (r.length + 1)
              rw [hop] at this
              exact this.symm
/-- What may stand between an action's braces. -/
def actOK (a : Bs) : Bool := actL (a.length + 1) 0 a
theorem actOK_good (a : Bs) : actOK a = true ↔ Good 9 a := by
  unfold actOK
  rw [actL_iff _ a _ 0 (Nat.le_refl _) (by omega)]
  constructor
  · intro h
    have ho : oneT (123 :: (a ++ [125])) = .ok (9, a, a.length + 2) := by
      rw [one_action (by rfl) (by rfl)]
      unfold actionT
      rw [actB_first, h]
      have ht : (((123 : UInt8) :: (a ++ [125])).take (a.length + 1 + 1 - 1)).drop 1 = a := by
        rw [show a.length + 1 + 1 - 1 = a.length + 1 by omega, List.take_succ_cons, List.take_left]
        rfl
      show Except.ok (9, (((123 : UInt8) :: (a ++ [125])).take (a.length + 1 + 1 - 1)).drop 1, a.length + 1 + 1) = _
      rw [ht]
    exact (told_one ho).good
  · intro g
    have h := g.one []
    have hs : spell 9 a ++ [32] = 123 :: (a ++ [125] ++ [32]) := rfl
    rw [hs, one_action (by rfl) (by rfl)] at h
    unfold actionT at h
    rw [actB_first] at h
    cases e : actB 1 (a ++ [125] ++ [32]) with
    | none => rw [e] at h; cases h
    | some m =>
      rw [e] at h
      simp only [Option.map_some, Except.ok.injEq, Prod.mk.injEq, true_and] at h
      have hm : m = a.length + 1 := by
        have := h.2
        simp [spell] at this
        exact this
      subst hm
      have := actB_shift _ 1 _ _ (Nat.le_refl _) (by decide) e 0 []
      rw [if_pos rfl, List.append_nil] at this
      have ht : (a ++ [125] ++ [32]).take (a.length + 1) = a ++ [125] := by
        rw [List.take_append_of_le_length (by simp), List.take_of_length_le (by simp)]
      rw [ht] at this
      exact this
/-- A good name is no longer than may be. -/
theorem good_short {n : Bs} (g : Good 2 n) : n.length ≤ 40 := by
  have h := g.one []
  have hs : spell 2 n = n := rfl
  rw [hs] at h
  cases h1 : isLt (lookB (n ++ [32]) 0)
  · cases h2 : (lookB (n ++ [32]) 0 == 123)
    · cases h3 : [37, 37].isPrefixOf (n ++ [32])
      · cases h4 : (lookB (n ++ [32]) 0 == 37)
        · cases h5 : isSg (lookB (n ++ [32]) 0)
          · rw [one_none h1 h2 h3 h4 h5] at h; cases h
          · rw [one_sign h1 h2 h3 h4 h5] at h; injection h with h; injection h with h; cases h
        · rw [one_word h1 h2 h3 h4] at h
          unfold wordT at h
          simp only at h
          split at h
          · injection h with h; injection h with h; cases h
          · cases h
      · rw [one_two h1 h2 h3] at h; injection h with h; injection h with h; cases h
    · rw [one_action h1 h2] at h
      unfold actionT at h
      split at h
      · injection h with h; injection h with h; cases h
      · cases h
  · rw [one_name h1] at h
    unfold nameT at h
    simp only at h
    split at h
    · rename_i h40
      injection h with h; injection h with _ h; injection h with h _
      rw [h] at h40
      exact h40
    · cases h
/-- What is told as one name, from its first byte, and nothing beside it, is a name. -/
theorem name_good {s : Bs} {ts : List Tok} (h : tokensT s = .ok ts) (h0 : ts.head? = some ⟨2, s, 0⟩) : Good 2 s := by
  obtain ⟨hl, _⟩ := tokens_tks h
  unfold tokensT at h
  rw [if_neg (by omega)] at h
  have hg := go_keeps (s.length + 1) s 0 [] (by omega) (by omega)
  rw [List.drop_zero, h] at hg
  obtain ⟨us, rfl, _, hgood⟩ := hg
  cases us with
  | nil => simp at h0
  | cons t us =>
    simp at h0
    subst h0
    exact (hgood ⟨2, s, 0⟩ (by simp)).1
theorem good_name_told {s : Bs} (g : Good 2 s) : ∃ ts, tokensT s = .ok ts ∧ ts = [⟨2, s, 0⟩, ⟨7, [], s.length⟩] := by
  have h1 := g.one []
  have hs : spell 2 s = s := rfl
  rw [hs] at h1
  have h2 := one_loc h1 [] (fun _ c hc => by cases hc)
  rw [List.take_left, List.append_nil] at h2
  have h3 := one_head h2 []
  rw [List.append_nil] at h3
  have hk : Tks s [(2, s)] := .cons (n := s.length) (by rw [h3]; exact h2) (by rw [h3, List.drop_length]; exact .nil rfl)
  have hsh := good_short g
  obtain ⟨us, e, h4, h5⟩ := tks_tokens hk (by omega)
  have h6 := h4
  unfold tokensT at h6
  rw [if_neg (by omega)] at h6
  have hg := go_keeps (s.length + 1) s 0 [] (by omega) (by omega)
  rw [List.drop_zero, h6] at hg
  obtain ⟨us2, hus, hl, _⟩ := hg
  have hus2 : us = us2 ∧ e = s.length := by
    rw [List.nil_append] at hus
    have h7 := congrArg List.dropLast hus
    have h8 := congrArg List.getLast? hus
    simp at h7 h8
    exact ⟨h7, h8⟩
  obtain ⟨rfl, rfl⟩ := hus2
  cases us with
  | nil => simp at h5
  | cons t r =>
    simp at h5
    obtain ⟨h51, h52⟩ := h5
    subst h52
    obtain ⟨kd, tx, pl⟩ := t
    simp only [kt, Prod.mk.injEq] at h51
    obtain ⟨rfl, rfl⟩ := h51
    have hp : pl = 0 := by
      have := hl.2.1
      simp only [hs] at this
      omega
    subst hp
    exact ⟨_, h4, rfl⟩
/-- What a text's good tokens are, part by part. -/
theorem good_word {n : Bs} {ws : List Wd} {p : Nat} (g : GoodV (wdV (.mk n ws p))) : Good 2 n ∧ ∀ y ∈ ws, GoodV (wdV y) := by
  rw [wdV, wdsV_map] at g
  refine ⟨good_name g, fun y hy v hv => g.tail v ?_⟩
  exact mem_giv (List.mem_map_of_mem hy) hv
theorem good_alt {a : Al} (g : GoodV (alV a)) : (∀ y ∈ a.words, GoodV (wdV y)) ∧ (a.prec = [] ∨ Good 2 a.prec) ∧ (a.has = true → Good 9 a.action) := by
  unfold alV at g
  refine ⟨fun y hy v hv => g.left v (List.mem_flatten.2 ⟨wdV y, by rw [wdsV_map]; exact List.mem_map_of_mem hy, hv⟩), ?_, fun h => ?_⟩
  · by_cases h : a.prec = []
    · exact .inl h
    · right
      have g2 := g.right.left
      unfold precV at g2
      rw [if_neg h] at g2
      exact good_name (p := none) g2.tail
  · have g3 := g.right.right
    unfold actV at g3
    rw [h] at g3
    exact g3 ((9, a.action), some (a.where_ - 1)) (by simp)
theorem good_rule {r : Ru} (g : GoodV (ruV r)) : Good 2 r.name ∧ (∀ p ∈ r.params, Good 2 p) ∧ ∀ a ∈ r.alts, GoodV (alV a) := by
  unfold ruV at g
  refine ⟨good_name g, fun p hp => ?_, fun a ha v hv => g.tail.right.tail.left v (mem_sep (List.mem_map_of_mem ha) hv)⟩
  exact g.tail.left (noV p) (mem_giv (x := [noV p]) (List.mem_map_of_mem hp) (by simp))
theorem good_decl {d : De} (g : GoodV (deV d)) : (d.type = [] ∨ Good 2 d.type) ∧ ∀ n ∈ d.names, Good 2 n := by
  unfold deV at g
  refine ⟨?_, fun n hn => g.tail.right.left (noV n) (List.mem_map_of_mem hn)⟩
  by_cases h : d.type = []
  · exact .inl h
  · right
    have g2 := g.tail.left
    unfold typV at g2
    rw [if_neg h] at g2
    exact good_name (p := none) g2.tail
theorem good_text {x : Tx} (g : GoodV (txV x)) : (∀ d ∈ x.decls, GoodV (deV d)) ∧ ∀ r ∈ x.rules, GoodV (ruV r) := by
  unfold txV at g
  exact ⟨fun d hd v hv => g.left v (List.mem_flatten.2 ⟨deV d, List.mem_map_of_mem hd, hv⟩), fun r hr v hv => g.right.tail v (List.mem_flatten.2 ⟨ruV r, List.mem_map_of_mem hr, hv⟩)⟩
end LexT
