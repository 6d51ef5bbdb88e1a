/- How much look says of a text; a text in memory, places aside. -/
/- Tokens in memory; the law's fault, awake. -/
/- write's look: its map of names, a name. -/
/- write's look: words, alternatives. -/
/- write's look: rules, declarations, a text. -/
/- write's look: declarations, a text. -/
/- write's look: a text. -/
import Derived.Test.YtngimijiafnheaaGreatMtL
import Derived.Test.YtngimijiafnheaaGreatRdWc
import Derived.Test.YtngimijiafnheaaGreatLexO
import Derived.Deep.CutRange
import Derived.Laws.StructEq
import Derived.WalkKit
import Derived.WalkLawsBesides
import Derived.Test.YtngimijiafnheaaGreatWrA
set_option maxRecDepth 100000
namespace LexT
set_option linter.unusedVariables false
set_option linter.unusedSimpArgs false
def cN (n : Bs) : Nat := n.length + 1
def cP (n : Bs) : Nat := if n = [] then 0 else n.length + 1
def cW (x : Wd) : Nat := (wdW x).length + 1
def cA (a : Al) : Nat := (a.words.map cW).sum + cP a.prec + a.action.length + 3
def cR (r : Ru) : Nat := cN r.name + (r.params.map cN).sum + (r.alts.map cA).sum
def cD (d : De) : Nat := cP d.type + (d.names.map cN).sum
def cT (x : Tx) : Nat := (x.decls.map cD).sum + (x.rules.map cR).sum
theorem sep_said : ∀ xs : List Bs, xs ≠ [] → (xs.map cN).sum ≤ (sepW xs).length + 1
  | [], h => absurd rfl h
  | [x], h => by simp [sepW, cN]
  | x :: y :: r, h => by
    have h2 := sep_said (y :: r) (by simp)
    have e : sepW (x :: y :: r) = x ++ 44 :: 32 :: sepW (y :: r) := rfl
    rw [e, List.map_cons, List.sum_cons, List.length_append, List.length_cons, List.length_cons]
    unfold cN at h2 ⊢
    omega
theorem giv_said (xs : List Bs) : (xs.map cN).sum ≤ (givW xs).length := by
  cases hx : xs with
  | nil => simp
  | cons y r =>
    have h2 := sep_said xs (by rw [hx]; simp)
    have e : givW xs = 40 :: (sepW xs ++ [41]) := by rw [hx]; rfl
    rw [← hx, e, List.length_cons, List.length_append]
    simp only [List.length_singleton]
    omega
theorem word_said (n : Bs) (ws : List Wd) (p : Nat) : cN n + (ws.map cW).sum ≤ cW (.mk n ws p) := by
  have h := giv_said (wdsW ws)
  have e : (wdsW ws).map cN = ws.map cW := by rw [wdsW_map, List.map_map]; rfl
  rw [e] at h
  obtain ⟨m, hm⟩ : ∃ m, (ws.map cW).sum = m := ⟨_, rfl⟩
  rw [hm] at h ⊢
  show n.length + 1 + m ≤ (wdW (.mk n ws p)).length + 1
  rw [wdW, List.length_append]
  omega
theorem words_lenW : ∀ ws : List Wd, ((wdsW ws).map (32 :: ·)).flatten.length = (ws.map cW).sum
  | [] => by simp [wdsW]
  | x :: xs => by rw [wdsW, List.map_cons, List.flatten_cons, List.length_append, words_lenW xs, List.map_cons, List.sum_cons]; rfl
theorem alt_said (a : Al) (h : a.has = false → a.action = []) : cA a ≤ (alW a).length + 3 := by
  unfold cA alW
  rw [List.length_append, List.length_append, words_lenW]
  have h2 : cP a.prec ≤ (precW a.prec).length := by
    unfold cP precW
    split
    · exact Nat.zero_le _
    · rw [List.length_append]; simp only [List.length_cons, List.length_nil]; omega
  have h3 : a.action.length ≤ (actW a).length := by
    unfold actW
    cases hh : a.has
    · rw [h hh]; exact Nat.zero_le _
    · simp only [if_true]
      rw [List.length_append, List.length_append]
      omega
  omega
theorem alts_said : ∀ az : List Al, (∀ a ∈ az, a.has = false → a.action = []) → (az.map cA).sum ≤ (alsW az).length
  | [], h => by simp
  | a :: az, h => by
    have h1 := alt_said a (h a (by simp))
    have h2 := alts_said az (fun b hb => h b (by simp [hb]))
    have e : alsW (a :: az) = [9, 124] ++ (alW a ++ [10]) ++ alsW az := by simp [alsW]
    rw [e, List.map_cons, List.sum_cons, List.length_append, List.length_append, List.length_append]
    simp only [List.length_cons, List.length_nil]
    omega
theorem rule_said (r : Ru) (h : ∀ a ∈ r.alts, a.has = false → a.action = []) : cR r ≤ (ruW r).length := by
  unfold cR ruW
  have h1 := giv_said r.params
  have h2 : (r.alts.map cA).sum ≤ (altsW r.alts).length + 1 := by
    cases hx : r.alts with
    | nil => simp
    | cons a az =>
      have h3 := alt_said a (h a (by rw [hx]; simp))
      have h4 := alts_said az (fun b hb => h b (by rw [hx]; simp [hb]))
      show _ ≤ (58 :: (alW a ++ 10 :: alsW az)).length + 1
      rw [List.map_cons, List.sum_cons, List.length_cons, List.length_append, List.length_cons]
      omega
  rw [List.length_append, List.length_append, List.length_append]
  unfold cN
  simp only [List.length_cons, List.length_nil]
  unfold cN at h1
  omega
theorem names_said : ∀ ns : List Bs, ((ns.map (32 :: ·)).flatten).length = (ns.map cN).sum
  | [] => rfl
  | n :: ns => by rw [List.map_cons, List.flatten_cons, List.length_append, names_said ns, List.map_cons, List.sum_cons]; rfl
theorem decl_said (d : De) : cD d ≤ (deW d).length := by
  unfold cD deW
  rw [List.length_cons, List.length_append, List.length_append, List.length_append, names_said]
  have : cP d.type ≤ (typW d.type).length := by
    unfold cP typW
    split
    · exact Nat.zero_le _
    · rw [List.length_append, List.length_append]; simp only [List.length_cons, List.length_nil]; omega
  omega
theorem flat_said {γ : Type} (c : γ → Nat) (b : γ → Bs) : ∀ ys : List γ, (∀ y ∈ ys, c y ≤ (b y).length) → (ys.map c).sum ≤ (ys.map b).flatten.length
  | [], h => by simp
  | y :: ys, h => by
    have h1 := h y (by simp)
    have h2 := flat_said c b ys (fun z hz => h z (by simp [hz]))
    rw [List.map_cons, List.sum_cons, List.map_cons, List.flatten_cons, List.length_append]
    omega
theorem text_said (x : Tx) (h : ∀ r ∈ x.rules, ∀ a ∈ r.alts, a.has = false → a.action = []) : cT x ≤ (txW x).length := by
  unfold cT txW
  have h1 := flat_said cD deW x.decls (fun d _ => decl_said d)
  have h2 := flat_said cR ruW x.rules (fun r hr => rule_said r (h r hr))
  rw [List.length_append, List.length_append]
  omega
end LexT
namespace LexT
open Go Go.RowKit
set_option linter.unusedVariables false
mutual
/-- A word's value, its place aside. -/
def WdAt (w : World) : Wd → List Value → Prop
  | .mk nm ws _, vs => ∃ (ao : Option Addr) (c : Nat) (q : Int), vs = [.string (mkS nm), .slice ao ws.length c, .int .i64 q] ∧ ws.length ≤ maxLen ∧ (0 < ws.length → ws.length ≤ c) ∧ WdsAt w ao 0 ws
def WdsAt (w : World) (ao : Option Addr) : Nat → List Wd → Prop
  | _, [] => True
  | i, x :: xs => (∃ g vs, ao = some ⟨g, 0, none⟩ ∧ g < w.heap.size ∧ WdAt w x vs ∧ ∀ j u, vs[j]? = some u → w.cell? ⟨g, i * 3 + j, none⟩ = some u) ∧ WdsAt w ao (i + 1) xs
end
/-- A row of things in memory, so many cells each. -/
structure RwAt {α : Type} (w : World) (k : Nat) (P : α → List Value → Prop) (l : List α) (ao : Option Addr) (n c : Nat) : Prop where
  len : n = l.length
  small : n ≤ maxLen
  cap : 0 < n → n ≤ c
  at_ : ∀ i x, l[i]? = some x → ∃ g vs, ao = some ⟨g, 0, none⟩ ∧ g < w.heap.size ∧ P x vs ∧ ∀ j u, vs[j]? = some u → w.cell? ⟨g, i * k + j, none⟩ = some u
theorem WdsAt.get {w : World} {ao : Option Addr} : ∀ (ws : List Wd) (s : Nat), WdsAt w ao s ws → ∀ i x, ws[i]? = some x → ∃ g vs, ao = some ⟨g, 0, none⟩ ∧ g < w.heap.size ∧ WdAt w x vs ∧ ∀ j u, vs[j]? = some u → w.cell? ⟨g, (s + i) * 3 + j, none⟩ = some u
  | [], s, h, i, x, hx => by simp at hx
  | y :: ws, s, h, 0, x, hx => by
    unfold WdsAt at h
    simp at hx; subst hx
    exact h.1
  | y :: ws, s, h, i + 1, x, hx => by
    unfold WdsAt at h
    obtain ⟨g, vs, h1, h2, h3, h4⟩ := WdsAt.get ws (s + 1) h.2 i x (by simpa using hx)
    exact ⟨g, vs, h1, h2, h3, by rw [show s + (i + 1) = s + 1 + i by omega]; exact h4⟩
theorem WdsAt.of {w : World} {ao : Option Addr} : ∀ (ws : List Wd) (s : Nat), (∀ i x, ws[i]? = some x → ∃ g vs, ao = some ⟨g, 0, none⟩ ∧ g < w.heap.size ∧ WdAt w x vs ∧ ∀ j u, vs[j]? = some u → w.cell? ⟨g, (s + i) * 3 + j, none⟩ = some u) → WdsAt w ao s ws
  | [], s, h => by unfold WdsAt; trivial
  | y :: ws, s, h => by
    unfold WdsAt
    refine ⟨h 0 y rfl, WdsAt.of ws (s + 1) fun i x hx => ?_⟩
    have := h (i + 1) x (by simpa using hx)
    rwa [show s + (i + 1) = s + 1 + i by omega] at this
theorem WdAt.parts {w : World} {nm : Bs} {ws : List Wd} {p : Nat} {vs : List Value} (h : WdAt w (.mk nm ws p) vs) : ∃ (ao : Option Addr) (n c : Nat) (q : Int), vs = [.string (mkS nm), .slice ao n c, .int .i64 q] ∧ RwAt w 3 (WdAt w) ws ao n c := by
  unfold WdAt at h
  obtain ⟨ao, c, v, h1, h2, h3, h4⟩ := h
  refine ⟨ao, _, c, v, h1, rfl, h2, h3, fun i x hx => ?_⟩
  have := h4.get _ _ i x hx
  rwa [Nat.zero_add] at this
theorem WdAt.of {w : World} {nm : Bs} {ws : List Wd} {p : Nat} {ao : Option Addr} {n c : Nat} {v : Int} (h : RwAt w 3 (WdAt w) ws ao n c) : WdAt w (.mk nm ws p) [.string (mkS nm), .slice ao n c, .int .i64 v] := by
  obtain ⟨rfl, h2, h3, h4⟩ := h
  unfold WdAt
  exact ⟨ao, c, v, rfl, h2, h3, WdsAt.of _ _ fun i x hx => by rw [Nat.zero_add]; exact h4 i x hx⟩
def StAt (s : Bs) (vs : List Value) : Prop := vs = [.string (mkS s)]
def AlAt (w : World) (a : Al) (vs : List Value) : Prop := ∃ (ao : Option Addr) (n c : Nat) (u v : Int), vs = [.slice ao n c, .string (mkS a.prec), .bool a.has, .string (mkS a.action), .int .i64 u, .int .i64 v] ∧ RwAt w 3 (WdAt w) a.words ao n c
def RuAt (w : World) (r : Ru) (vs : List Value) : Prop := ∃ (ao : Option Addr) (n c : Nat) (bo : Option Addr) (m d : Nat) (v : Int), vs = [.string (mkS r.name), .slice ao n c, .slice bo m d, .int .i64 v] ∧ RwAt w 1 StAt r.params ao n c ∧ RwAt w 6 (AlAt w) r.alts bo m d
def DeAt (w : World) (d : De) (vs : List Value) : Prop := ∃ (ao : Option Addr) (n c : Nat) (v : Int), vs = [.string (mkS d.kind), .string (mkS d.type), .slice ao n c, .int .i64 v] ∧ RwAt w 1 StAt d.names ao n c
def TxAt (w : World) (x : Tx) (vs : List Value) : Prop := ∃ ao n c bo m d, vs = [.slice ao n c, .slice bo m d] ∧ RwAt w 4 (DeAt w) x.decls ao n c ∧ RwAt w 4 (RuAt w) x.rules bo m d
theorem rw_of {α : Type} {w : World} {T : TypeId} {k : Nat} {f : α → List Cell} {P : α → List Value → Prop} {l : List α} {S : List Nat} {ao : Option Addr} {n c : Nat} (hk : 0 < k) (hf : ∀ x, (f x).length = k) (h : At w (.row T k (l.flatMap f)) S (.slice ao n c)) (hp : ∀ x ∈ l, ∀ S vs, AtL w (f x) S vs → P x vs) : RwAt w k P l ao n c := by
  have hl := h.count
  rw [flat_length f k hf] at hl
  have hn : n = l.length := Nat.eq_of_mul_eq_mul_right hk hl.symm
  refine ⟨hn, h.small, fun h0 => ?_, fun i x hx => ?_⟩
  · obtain ⟨g, xs, Si, h1, h2, _⟩ := h.elem 0 h0
    exact h2
  · have hi : i < n := by rw [hn]; exact (List.getElem?_eq_some_iff.1 hx).1
    obtain ⟨g, xs, Si, h1, h2, h3, h4, h5⟩ := h.elem i hi
    rw [flat_elem f k hf l i x hx] at h4
    exact ⟨g, xs, h1, h3, hp x (List.mem_of_getElem? hx) Si xs h4, h5⟩
theorem wd_of {w : World} {T : TypeId} : ∀ (x : Wd) (S : List Nat) (vs : List Value), AtL w (wdC T x) S vs → WdAt w x vs
  | .mk nm ws p, S, vs, h => by
    obtain ⟨ao, n, c, Sa, rfl, h2⟩ := wordParts h
    exact WdAt.of (rw_of (by decide) (wdC_length T) h2 (fun y hy S vs h => wd_of y S vs h))
  termination_by x => SizeOf.sizeOf x
  decreasing_by
    have := List.sizeOf_lt_of_mem hy
    simp
    omega
end LexT
namespace Go.Proofs.YtngimijiafnheaaGreat
open Go.Instr Go.RowKit LexT
set_option linter.unusedVariables false
theorem al_of {w : World} (a : Al) (S : List Nat) (vs : List Value) (h : AtL w (altC a) S vs) : AlAt w a vs := by
  obtain ⟨ao, n, c, Sa, rfl, h2⟩ := altParts h
  exact ⟨ao, n, c, _, _, rfl, rw_of (by decide) (wdC_length 50) h2 (fun y _ S vs h => wd_of y S vs h)⟩
theorem str_of {w : World} {xs : List Bs} {S : List Nat} {ao : Option Addr} {n c : Nat} (h : At w (.row 9 1 (xs.map strC)) S (.slice ao n c)) : RwAt w 1 StAt xs ao n c := by
  rw [strs_flat] at h
  refine rw_of (by decide) (fun _ => rfl) h (fun y _ S vs h => ?_)
  obtain ⟨S1, S2, x1, xs1, rfl, rfl, h1, h⟩ := h.uncons
  obtain rfl := h.unnil
  obtain rfl := At.unplain h1
  rfl
theorem ru_of {w : World} (r : Ru) (S : List Nat) (vs : List Value) (h : AtL w (ruleC r) S vs) : RuAt w r vs := by
  obtain ⟨ao, n, c, Sa, bo, m, d, Sb, rfl, h1, h2⟩ := ruleParts h
  exact ⟨ao, n, c, bo, m, d, _, rfl, str_of h1, rw_of (by decide) (fun _ => rfl) h2 (fun y _ S vs h => al_of y S vs h)⟩
theorem de_of {w : World} (x : De) (S : List Nat) (vs : List Value) (h : AtL w (declC x) S vs) : DeAt w x vs := by
  obtain ⟨ao, n, c, Sa, rfl, h1⟩ := declParts h
  exact ⟨ao, n, c, _, rfl, str_of h1⟩
theorem tx_of {w : World} (x : Tx) (S : List Nat) (vs : List Value) (h : AtL w (textC x) S vs) : TxAt w x vs := by
  obtain ⟨ao, n, c, Sa, bo, m, d, Sb, rfl, h1, h2⟩ := textParts h
  exact ⟨ao, n, c, bo, m, d, rfl, rw_of (by decide) (fun _ => rfl) h1 (fun y _ S vs h => de_of y S vs h), rw_of (by decide) (fun _ => rfl) h2 (fun y _ S vs h => ru_of y S vs h)⟩
end Go.Proofs.YtngimijiafnheaaGreat
namespace LexT
open Go Go.RowKit
set_option linter.unusedVariables false
/-- Tokens that lie in memory. -/
structure ToksAt (w : World) (ao : Option Addr) (c : Nat) (ts : List Tok) : Prop where
  len : ts.length ≤ c
  cap : c ≤ maxLen
  at_ : ∀ (i : Nat) (t : Tok), ts[i]? = some t → ∃ g, ao = some ⟨g, 0, none⟩ ∧ g < w.heap.size ∧ w.cell? ⟨g, i * 3, none⟩ = some (.int .u8 (t.kind : Int)) ∧ w.cell? ⟨g, i * 3 + 1, none⟩ = some (.string (mkS t.text)) ∧ w.cell? ⟨g, i * 3 + 2, none⟩ = some (.int .i64 (t.place : Int))
theorem ToksAt.under {w w' : World} {ao : Option Addr} {c : Nat} {ts : List Tok} (h : ToksAt w ao c ts) (hb : Below w.heap.size w w') : ToksAt w' ao c ts := by
  refine ⟨h.len, h.cap, fun i t hi => ?_⟩
  obtain ⟨g, h1, h2, h3, h4, h5⟩ := h.at_ i t hi
  exact ⟨g, h1, Nat.lt_of_lt_of_le h2 hb.size, (hb.cell (p := ⟨g, i * 3, none⟩) h2).trans h3, (hb.cell (p := ⟨g, i * 3 + 1, none⟩) h2).trans h4, (hb.cell (p := ⟨g, i * 3 + 2, none⟩) h2).trans h5⟩
theorem toks_of_own {w : World} {base : Nat} {e : TypeId} {v : Value} {ts : List Tok} (h : w.ownsRow base e 3 v ts.length (tcells ts)) : ∃ ao c, v = .slice ao ts.length c ∧ ToksAt w ao c ts := by
  rcases h.2 with ⟨hv, h0⟩ | ⟨g, cap, cur, hv, hb, hg, hnc, hcm, _⟩
  · have : ts = [] := List.eq_nil_of_length_eq_zero h0
    subst this
    exact ⟨none, 0, hv, by simp, by simp [maxLen], by simp⟩
  · subst hv
    refine ⟨_, _, rfl, hnc, hcm, fun i t hi => ⟨g, rfl, (Array.getElem?_eq_some_iff.1 hg).1, ?_⟩⟩
    have key : ∀ (j : Nat) (u : Value), (tcs t)[j]? = some u → w.cell? ⟨g, i * 3 + j, none⟩ = some u := by
      intro j u hj
      have := h.cells (g := g) rfl (i * 3 + j) u (tcells_at ts i j t u hi hj)
      have hadd : (⟨g, 0, none⟩ : Addr).add (i * 3 + j) = ⟨g, i * 3 + j, none⟩ := by unfold Addr.add; split <;> simp_all
      rw [hadd] at this
      exact this
    exact ⟨by simpa using key 0 _ rfl, key 1 _ rfl, key 2 _ rfl⟩
theorem toks_new (w : World) (T : TypeId) (ts : List Tok) (hl : ts.length ≤ 1000) : ToksAt (w.alloc (.cells (tcells ts).toArray T)) (some ⟨w.heap.size, 0, none⟩) ts.length ts := by
  refine ⟨Nat.le_refl _, by unfold maxLen; omega, fun i t hi => ⟨w.heap.size, rfl, by simp, ?_⟩⟩
  have key : ∀ (j : Nat) (u : Value), (tcs t)[j]? = some u → (w.alloc (.cells (tcells ts).toArray T)).cell? ⟨w.heap.size, i * 3 + j, none⟩ = some u := by
    intro j u hj
    rw [World.cell?_alloc_new]
    simpa using tcells_at ts i j t u hi hj
  exact ⟨by simpa using key 0 _ rfl, key 1 _ rfl, key 2 _ rfl⟩
theorem mkS_appendP (a b : Bs) : mkS a ++ mkS b = mkS (a ++ b) := by
  apply ByteArray.ext
  simp [mkS, ByteArray.data_append]
end LexT
namespace Go
open Go.Instr
section
variable {P : Program}

theorem run_checkKey_string_succ (b : Bool) (n : Nat) (K : TypeId) (w : World) (s : ByteArray) (hK : P.underlying K = some .string) :
    (checkKey b (n + 1) K (.string s)).run P w = .ok () w := by
  simp [checkKey, run_underlying hK]
theorem run_checkKey_string (b : Bool) (K : TypeId) (w : World) (s : ByteArray) (hK : P.underlying K = some .string) :
    (checkKey b 10000 K (.string s)).run P w = .ok () w := run_checkKey_string_succ b 9999 K w s hK
theorem run_findKey_now (K : TypeId) (w : World) (k : Value) (es : List MapEntry) (r : Option (Nat × Value)) (d : TypeDesc) (hK : P.underlying K = some d)
    (hn : findNow d k es 0 = some r) : (findKey K k es).run P w = .ok r w := by
  simp [findKey, run_underlying hK, hn]

theorem run_getObj_last (w : World) (es : Array MapEntry) (c : Nat) : (getObj w.heap.size).run P (w.alloc (.map es c)) = .ok (.map es c) (w.alloc (.map es c)) := by
  have h : (w.alloc (.map es c)).heap[w.heap.size]? = some (.map es c) := (MapKept.heap_alloc w _).1
  simp only [getObj, Sem.run, h]
theorem run_setObj_last (w : World) (es : Array MapEntry) (c : Nat) (o' : Obj) : (setObj w.heap.size o').run P (w.alloc (.map es c)) = .ok () (w.alloc o') := by
  have h : (w.alloc (.map es c)).heap[w.heap.size]? = some (.map es c) := (MapKept.heap_alloc w _).1
  have e : (w.heap.push (.map es c)).setIfInBounds w.heap.size o' = w.heap.push o' := by
    apply Array.ext
    · simp
    · intro i h1 h2
      simp only [Array.size_setIfInBounds, Array.size_push] at h1
      by_cases hi : i = w.heap.size
      · subst hi; simp
      · rw [Array.getElem_setIfInBounds_ne (by simpa using h1) (by omega)]; simp [Array.getElem_push, show i < w.heap.size by omega]
  simp only [setObj, Sem.run, h]
  show Result.ok () { w.alloc (.map es c) with heap := (w.heap.push (.map es c)).setIfInBounds w.heap.size o' } = _
  rw [e]; rfl

/-- A literal's next entry, under a key that is not there yet: the map is the newest block. -/
theorem run_mapUpdate_lit (T K E : TypeId) (w : World) (es : Array MapEntry) (c : Nat) (s : ByteArray) (v : Value)
    (hT : P.underlying T = some (.map K E)) (hK : P.underlying K = some .string)
    (hn : findNow .string (.string s) es.toList 0 = some none) :
    (mapUpdate T (.map (some w.heap.size)) (.string s) v).run P (w.alloc (.map es c)) =
      .ok () (w.alloc (.map (es.push { key := .string s, val := v, born := c }) (c + 1))) := by
  have h1 := run_checkKey_string (P := P) false K (w.alloc (.map es c)) s hK
  have h2 := run_findKey_now (P := P) K (w.alloc (.map es c)) (.string s) es.toList none _ hK hn
  have h3 := run_getObj_last (P := P) w es c
  have h4 := run_setObj_last (P := P) w es c (.map (es.push { key := .string s, val := v, born := c }) (c + 1))
  unfold mapUpdate
  simp only [Sem.run_bind, run_underlying hT, h1, h2, h3, h4, Result.andThen]

/-- 'v, ok := m[k]' in such a map, the key there. -/
theorem run_lookup_ok_there (T K E : TypeId) (w : World) (b : Nat) (es : Array MapEntry) (c : Nat) (s : ByteArray) (i : Nat) (v : Value)
    (hT : P.underlying T = some (.map K E)) (hK : P.underlying K = some .string) (hb : w.heap[b]? = some (.map es c))
    (hn : findNow .string (.string s) es.toList 0 = some (some (i, v))) :
    (lookup T (.map (some b)) (.string s) true).run P w = .ok (.tuple #[v, .bool true]) w := by
  have h1 := fun bb => run_checkKey_string (P := P) bb K w s hK
  have h2 := run_findKey_now (P := P) K w (.string s) es.toList _ _ hK hn
  have h3 : (getObj b).run P w = .ok (.map es c) w := by simp [getObj, Sem.run, hb]
  unfold lookup
  simp only [Sem.run_bind, run_underlying hT, h1, h2, h3, Result.andThen, Sem.run_pure]
  rfl
theorem run_lookup_ok_not (T K E : TypeId) (w : World) (b : Nat) (es : Array MapEntry) (c : Nat) (s : ByteArray) (z : Value)
    (hT : P.underlying T = some (.map K E)) (hK : P.underlying K = some .string) (hb : w.heap[b]? = some (.map es c))
    (hz : (zeroValue E).run P w = .ok z w)
    (hn : findNow .string (.string s) es.toList 0 = some none) :
    (lookup T (.map (some b)) (.string s) true).run P w = .ok (.tuple #[z, .bool false]) w := by
  have h1 := fun bb => run_checkKey_string (P := P) bb K w s hK
  have h2 := run_findKey_now (P := P) K w (.string s) es.toList _ _ hK hn
  have h3 : (getObj b).run P w = .ok (.map es c) w := by simp [getObj, Sem.run, hb]
  unfold lookup
  simp only [Sem.run_bind, run_underlying hT, h1, h2, h3, hz, Result.andThen, Sem.run_pure]
  rfl
end
end Go
set_option linter.unusedSimpArgs false
namespace LexT
open Go Go.RowKit Go.Instr
set_option linter.unusedVariables false
/-- Keys that are good names. -/
def NmMap (es : Array MapEntry) : Prop := ∀ e ∈ es.toList, ∃ n, e.key = .string (mkS n) ∧ Good 2 n
theorem find_names : ∀ (l : List MapEntry) (i : Nat) (n : Bs), (∀ e ∈ l, ∃ n, e.key = .string (mkS n) ∧ Good 2 n) → (∃ j v, findNow .string (.string (mkS n)) l i = some (some (j, v)) ∧ ∃ e ∈ l, e.val = v) ∨ findNow .string (.string (mkS n)) l i = some none
  | [], i, n, h => .inr rfl
  | e :: l, i, n, h => by
    obtain ⟨m, hm, hg⟩ := h e (by simp)
    unfold findNow
    rw [hm]
    simp only [sameNow]
    cases hs : (mkS n == mkS m)
    · rcases find_names l (i + 1) n (fun e he => h e (by simp [he])) with ⟨j, v, h1, e', h2, h3⟩ | h1
      · exact .inl ⟨j, v, h1, e', by simp [h2], h3⟩
      · exact .inr h1
    · exact .inl ⟨i, e.val, rfl, e, by simp, rfl⟩
def putMap (w : World) (g : Nat) (o : Obj) : World := { w with heap := w.heap.setIfInBounds g o }
theorem putMap_size (w : World) (g : Nat) (o : Obj) : (putMap w g o).heap.size = w.heap.size := by simp [putMap]
theorem putMap_other (w : World) (g : Nat) (o : Obj) (k : Nat) (h : k ≠ g) : (putMap w g o).heap[k]? = w.heap[k]? := by
  show (w.heap.setIfInBounds g o)[k]? = _
  rw [Array.getElem?_setIfInBounds_ne (by omega)]
theorem putMap_same (w : World) (g : Nat) (o : Obj) (h : g < w.heap.size) : (putMap w g o).heap[g]? = some o := by
  show (w.heap.setIfInBounds g o)[g]? = _
  simp [h]
theorem putMap_below (B : Nat) (w : World) (g : Nat) (o : Obj) (h : B ≤ g) : Below B w (putMap w g o) :=
  ⟨rfl, rfl, rfl, by rw [putMap_size]; exact Nat.le_refl _, fun k hk => putMap_other w g o k (by omega)⟩
theorem run_mapUpdate_new {P : Program} (T K E : TypeId) (w : World) (g : Nat) (es : Array MapEntry) (c : Nat) (s : ByteArray) (v : Value)
    (hT : P.underlying T = some (.map K E)) (hK : P.underlying K = some .string) (hg : w.heap[g]? = some (.map es c))
    (hn : findNow .string (.string s) es.toList 0 = some none) :
    (mapUpdate T (.map (some g)) (.string s) v).run P w = .ok () (putMap w g (.map (es.push { key := .string s, val := v, born := c }) (c + 1))) := by
  have h1 := run_checkKey_string (P := P) false K w s hK
  have h2 := run_findKey_now (P := P) K w (.string s) es.toList none _ hK hn
  have h3 : (getObj g).run P w = .ok (.map es c) w := by simp [getObj, Sem.run, hg]
  have h4 : (setObj g (.map (es.push { key := .string s, val := v, born := c }) (c + 1))).run P w = .ok () (putMap w g (.map (es.push { key := .string s, val := v, born := c }) (c + 1))) := by
    simp only [setObj, Sem.run, hg]
    rfl
  unfold mapUpdate
  simp only [Sem.run_bind, run_underlying hT, h1, h2, h3, h4, Result.andThen]
/-- Nothing but look's own two blocks is changed. -/
structure Fl (b g : Nat) (w w' : World) : Prop where
  os : w'.os = w.os
  tape : w'.tape = w.tape
  output : w'.output = w.output
  size : w.heap.size ≤ w'.heap.size
  block : ∀ k, k < w.heap.size → k ≠ b → k ≠ g → w'.heap[k]? = w.heap[k]?
theorem Fl.refl (b g : Nat) (w : World) : Fl b g w w := ⟨rfl, rfl, rfl, Nat.le_refl _, fun _ _ _ _ => rfl⟩
theorem Fl.trans {b g : Nat} {w w1 w2 : World} (h : Fl b g w w1) (h' : Fl b g w1 w2) : Fl b g w w2 :=
  ⟨h'.os.trans h.os, h'.tape.trans h.tape, h'.output.trans h.output, Nat.le_trans h.size h'.size, fun k h1 h2 h3 => (h'.block k (Nat.lt_of_lt_of_le h1 h.size) h2 h3).trans (h.block k h1 h2 h3)⟩
theorem Fl.of {b g : Nat} {w w' : World} (h : Below w.heap.size w w') : Fl b g w w' := ⟨h.os, h.tape, h.output, h.size, fun k h1 _ _ => h.block k h1⟩
theorem Fl.below {b g B : Nat} {w w' : World} (h : Fl b g w w') (hb : B ≤ b) (hg : B ≤ g) (hs : B ≤ w.heap.size) : Below B w w' := ⟨h.os, h.tape, h.output, h.size, fun k hk => h.block k (by omega) (by omega) (by omega)⟩
theorem Fl.set {b g : Nat} (w : World) (i : Nat) (v : Value) : Fl b g w (w.setCell ⟨b, i, none⟩ v) := by
  have h := (Below.refl b w).setCell (p := ⟨b, i, none⟩) (Nat.le_refl _) v
  exact ⟨h.os, h.tape, h.output, h.size, fun k _ h2 _ => Below.heap_setCell _ _ _ _ h2⟩
theorem Fl.put {b g : Nat} (w : World) (o : Obj) : Fl b g w (putMap w g o) := ⟨rfl, rfl, rfl, by rw [putMap_size]; exact Nat.le_refl _, fun k _ _ h3 => putMap_other _ _ _ _ h3⟩
/-- look's own cells: what is known to be a name, how much was said. -/
structure Lks (Tl : TypeId) (B b g s : Nat) (w : World) : Prop where
  lob : B ≤ b
  log : B ≤ g
  ne : g ≠ b
  cells : w.heap[b]? = some (.cells #[.map (some g), .int .i64 (s : Int)] Tl (0, 0))
  map : ∃ es c, w.heap[g]? = some (.map es c) ∧ NmMap es ∧ ∀ e ∈ es.toList, e.val = .agg #[]
theorem Lks.keep {Tl : TypeId} {B b g s : Nat} {w w' : World} (h : Lks Tl B b g s w) (hb : Below w.heap.size w w') : Lks Tl B b g s w' := by
  obtain ⟨h1, h2, h3, h4, es, c, h5, h6⟩ := h
  exact ⟨h1, h2, h3, (hb.block b (Array.getElem?_eq_some_iff.1 h4).1).trans h4, es, c, (hb.block g (Array.getElem?_eq_some_iff.1 h5).1).trans h5, h6⟩
theorem Lks.blt {Tl : TypeId} {B b g s : Nat} {w : World} (h : Lks Tl B b g s w) : b < w.heap.size := (Array.getElem?_eq_some_iff.1 h.cells).1
theorem Lks.glt {Tl : TypeId} {B b g s : Nat} {w : World} (h : Lks Tl B b g s w) : g < w.heap.size := by obtain ⟨es, c, h, _⟩ := h.map; exact (Array.getElem?_eq_some_iff.1 h).1
theorem Lks.said {Tl : TypeId} {B b g s : Nat} {w : World} (h : Lks Tl B b g s w) (s' : Nat) : Lks Tl B b g s' (w.setCell ⟨b, 1, none⟩ (.int .i64 (s' : Int))) := by
  obtain ⟨h1, h2, h3, h4, es, c, h5, h6⟩ := h
  exact ⟨h1, h2, h3, heap_setCell_same _ _ _ _ _ _ h4, es, c, (Below.heap_setCell _ _ _ _ h3).trans h5, h6⟩
theorem Lks.put {Tl : TypeId} {B b g s : Nat} {w : World} (h : Lks Tl B b g s w) {es : Array MapEntry} {c : Nat} (hm : w.heap[g]? = some (.map es c)) {n : Bs} (hn : Good 2 n) (c2 c3 : Nat) :
    Lks Tl B b g s (putMap w g (.map (es.push { key := .string (mkS n), val := .agg #[], born := c2 }) c3)) := by
  have hl := h.glt
  obtain ⟨h1, h2, h3, h4, es', c', h5, h6, h7⟩ := h
  rw [h5] at hm
  injection hm with hm
  injection hm with hm1 hm2
  subst hm1
  refine ⟨h1, h2, h3, (putMap_other _ _ _ _ (Ne.symm h3)).trans h4, _, _, putMap_same _ _ _ hl, ?_, ?_⟩
  · intro e he
    simp at he
    rcases he with he | rfl
    · exact h6 e (by simpa using he)
    · exact ⟨n, rfl, hn⟩
  · intro e he
    simp at he
    rcases he with he | rfl
    · exact h7 e (by simpa using he)
    · rfl
end LexT
namespace Go.Proofs.YtngimijiafnheaaGreat
open Go.Instr Go.RowKit LexT
set_option linter.unusedVariables false
/-- A name that is known. -/
theorem look_known (w : World) (b g s B : Nat) (n : Bs) (h : Lks 54 B b g s w) : (∃ es c, w.heap[g]? = some (.map es c) ∧ findNow .string (.string (mkS n)) es.toList 0 = some none ∧ (lookup 52 (.map (some g)) (.string (mkS n)) true).run Tryz.prog w = .ok (.tuple #[.agg #[], .bool false]) w) ∨ (lookup 52 (.map (some g)) (.string (mkS n)) true).run Tryz.prog w = .ok (.tuple #[.agg #[], .bool true]) w := by
  obtain ⟨es, c, h5, h6, h7⟩ := h.map
  rcases find_names es.toList 0 n h6 with ⟨j, v, h1, e, he, hv⟩ | h1
  · right
    have := run_lookup_ok_there (P := Tryz.prog) 52 9 121 w g es c (mkS n) j v Tryz.underlying52 Tryz.underlying9 h5 h1
    rw [this, ← hv, h7 e he]
  · left
    exact ⟨es, c, h5, h1, run_lookup_ok_not (P := Tryz.prog) 52 9 121 w g es c (mkS n) (.agg #[]) Tryz.underlying52 Tryz.underlying9 h5 (by kernel_rfl) h1⟩
set_option maxHeartbeats 4000000 in
theorem name_yes (n : Bs) (w : World) (b g s B : Nat) (h : Lks 54 B b g s w) (hn : LexT.Good 2 n) (hs : s + cN n ≤ 2147483647) :
    Calls Tryz.prog 43 #[.pointer (some ⟨b, 0, none⟩), .string (mkS n)] w fun e w' => e = .returned (.tuple #[]) ∧ Lks 54 B b g (s + cN n) w' ∧ Fl b g w w' := by
  have hsz : (mkS n).size = n.length := mkS_size n
  have hsh := good_short hn
  have hblt := h.blt
  have hne := h.ne
  have HL := Lib.hid h
  have c0 : w.cell? ⟨b, 0, none⟩ = some (.map (some g)) := by rw [cell_of_row w b 0 _ 54 (0, 0) h.cells]; rfl
  have hw1 : wrap64 ((n.length : Int) + 1) = (n.length : Int) + 1 := by unfold wrap64; omega
  have hnb : ¬ b = w.heap.size := by omega
  have HS : Hid (∀ ww s, Lks 54 B b g s ww → s + cN n ≤ 2147483647 → Calls Tryz.prog 73 #[.pointer (some ⟨b, 0, none⟩), .int .i64 ((n.length : Int) + 1)] ww fun e w' => e = .returned (.tuple #[]) ∧ Lks 54 B b g (s + cN n) w' ∧ Fl b g ww w') := by
    intro ww s hk hs
    have e1 : ((n.length : Int) + 1) = ((cN n : Nat) : Int) := by unfold cN; omega
    rw [e1]
    refine (says_yes ww b s (cN n) (by rw [cell_of_row ww b 1 _ 54 (0, 0) hk.cells]; rfl) (by simp [World.frozen?, hk.cells]) hs).mono ?_
    rintro e w' ⟨rfl, rfl⟩
    exact ⟨rfl, hk.said _, Fl.set _ _ _⟩
  obtain ⟨S, hS⟩ : ∃ S, mkS n = S := ⟨_, rfl⟩
  rcases look_known w b g s B n h with ⟨es, c, hm, hf, hlk⟩ | hlk
  · have HF := Lib.hid (And.intro hm hf)
    obtain ⟨ts, ht1, ht2⟩ := good_name_told hn
    have HT := Lib.hid (fun ww => Tokens_any (mkS n) ww (by rw [mkS_size]; unfold maxLen; omega))
    rw [mkS_list, ht1] at HT
    have HM := Lib.hid (fun ww => wmust_yes ww)
    have HSN := Lib.hid (And.intro hs hn)
    rw [hS] at hsz hlk HT HF ⊢
    have HSS := Lib.hid hS
    clear h hm hf hsh hS hs
    go_enter Tryz.func43, Tryz.ntmps43
    go_wp2_with fail
    refine (HT.out _).mono ?_
    rintro e w1 (⟨out, tv, hR, rfl, ho, hl, hb⟩ | ⟨c1, q1, hR, _⟩)
    case inr => cases hR
    injection hR with hR
    subst hR
    subst ht2
    obtain ⟨ao, c2, rfl, tk⟩ := toks_of_own ho
    obtain ⟨g2, rfl, hg2, k0, k1, k2⟩ := tk.at_ 0 _ rfl
    simp only [Nat.zero_mul] at k0 k1 k2
    have hc2 := tk.len
    have hc3 := tk.cap
    have hs1 := hb.size
    rw [World.size_alloc] at hs1
    have HB1 : Hid (Below w.heap.size w w1) := ((Below.refl _ _).alloc (Nat.le_refl _) _).trans (hb.mono (by rw [World.size_alloc]; omega))
    have hq : (Value.string (mkS n)) = .string S := by rw [HSS.out]
    simp only [hq] at k1
    have HG2 := Lib.hid hg2
    have ng : ¬ g2 = w1.heap.size := by omega
    simp only [List.length_cons, List.length_nil] at hc2
    have hc4 : (0 : Int) < 2 := by decide
    clear ho hb tk hl hc3 hq
    go_wp2_with fail
    refine (HM.out _).mono ?_
    rintro e w3 ⟨rfl, hw3⟩
    have HB3 : Hid (Below w.heap.size w w3) := by rw [hw3]; exact HB1.out.alloc HB1.out.size _
    clear hw3 k0 k1 k2 hg2 ng
    have hk3 := HL.out.keep HB3.out
    have c3 : w3.cell? ⟨b, 0, none⟩ = some (.map (some g)) := by rw [cell_of_row w3 b 0 _ 54 (0, 0) hk3.cells]; rfl
    have hm3 := (HB3.out.block g HL.out.glt).trans HF.out.1
    have HUP := Lib.hid (run_mapUpdate_new (P := Tryz.prog) 52 9 121 w3 g es c S (.agg #[]) Tryz.underlying52 Tryz.underlying9 hm3 HF.out.2)
    have hup := HUP.out
    have HK4 := Lib.hid (hk3.put hm3 HSN.out.2 c (c + 1))
    rw [HSS.out] at HK4
    have HB4 : Hid (Fl b g w (putMap w3 g (.map (es.push { key := .string S, val := .agg #[], born := c }) (c + 1)))) := (Fl.of HB3.out).trans (Fl.put _ _)
    clear hk3 hm3
    go_wp2_with fail
    generalize putMap w3 g (.map (es.push { key := .string S, val := .agg #[], born := c }) (c + 1)) = w4 at *
    refine (HS.out _ s HK4.out HSN.out.1).mono ?_
    rintro e w5 ⟨rfl, hk5, hb5⟩
    have HK5 := Lib.hid (And.intro hk5 hb5)
    clear hk5 hb5
    go_wp2_with fail
    go_end0
    exact ⟨rfl, HK5.out.1, HB4.out.trans HK5.out.2⟩
  · have HSN := Lib.hid (And.intro hs hn)
    rw [hS] at hsz hlk ⊢
    have HSS := Lib.hid hS
    clear h hsh hS hs
    go_enter Tryz.func43, Tryz.ntmps43
    go_wp2_with fail
    have hba : Below w.heap.size w (w.alloc (.cells #[] 121)) := (Below.refl _ _).alloc (Nat.le_refl _) _
    refine (HS.out _ s (HL.out.keep hba) HSN.out.1).mono ?_
    rintro e w3 ⟨rfl, hk3, hb3⟩
    have HK3 := Lib.hid (And.intro hk3 ((Fl.of hba).trans hb3))
    clear hk3 hb3 hba
    go_wp2_with fail
    go_end0
    exact ⟨rfl, HK3.out.1, HK3.out.2⟩
end Go.Proofs.YtngimijiafnheaaGreat
set_option linter.unusedSimpArgs false
namespace LexT
open Go Go.RowKit
set_option linter.unusedVariables false
theorem sum_drop {α : Type} (c : α → Nat) : ∀ (l : List α) (i : Nat) (x : α), l[i]? = some x → ((l.drop i).map c).sum = c x + ((l.drop (i + 1)).map c).sum
  | [], i, x, h => by simp at h
  | y :: l, 0, x, h => by simp at h; subst h; simp
  | y :: l, i + 1, x, h => by simpa using sum_drop c l i x (by simpa using h)
end LexT
namespace Go.Proofs.YtngimijiafnheaaGreat
open Go.Instr Go.RowKit LexT
set_option linter.unusedVariables false
theorem perhaps_yes (n : Bs) (w : World) (b g s B : Nat) (h : Lks 54 B b g s w) (hn : n = [] ∨ LexT.Good 2 n) (hs : s + cP n ≤ 2147483647) :
    Calls Tryz.prog 42 #[.pointer (some ⟨b, 0, none⟩), .string (mkS n)] w fun e w' => e = .returned (.tuple #[]) ∧ Lks 54 B b g (s + cP n) w' ∧ Fl b g w w' := by
  obtain ⟨S, hS⟩ : ∃ S, mkS n = S := ⟨_, rfl⟩
  by_cases h0 : n = []
  · have he : (!S.toList.isEmpty) = false := by rw [← hS, Lib.toList_data, mkS_list, h0]; rfl
    have hc : cP n = 0 := by unfold cP; rw [if_pos h0]
    rw [hS, hc]
    have HL := Lib.hid h
    clear h hS hn hs
    go_enter Tryz.func42, Tryz.ntmps42
    go_wp2_with fail
    go_end0
    exact ⟨rfl, HL.out, Fl.refl _ _ _⟩
  · have he : (!S.toList.isEmpty) = true := by
      rw [← hS, Lib.toList_data, mkS_list]
      cases n with
      | nil => exact absurd rfl h0
      | cons c r => rfl
    have hc : cP n = cN n := by unfold cP cN; rw [if_neg h0]
    have HN := Lib.hid (name_yes n w b g s B h (hn.resolve_left h0) (by rw [← hc]; exact hs))
    rw [hS] at HN
    rw [hS, hc]
    clear h hS hn hs
    go_enter Tryz.func42, Tryz.ntmps42
    go_wp2_with fail
    refine HN.out.mono ?_
    rintro e w1 ⟨rfl, hk, hf⟩
    have HK := Lib.hid (And.intro hk hf)
    clear hk hf
    go_wp2_with fail
    go_end0
    exact ⟨rfl, HK.out.1, HK.out.2⟩
/-- What look.words does with good words. -/
def WsY (w0 : World) (B b g k : Nat) (ws : List Wd) : Prop := ∀ (ao : Option Addr) (n c : Nat) (w : World) (s : Nat), RwAt w0 3 (WdAt w0) ws ao n c → Below w0.heap.size w0 w → Lks 54 B b g s w → wfWs k ws → (∀ y ∈ ws, GoodV (wdV y)) → s + (ws.map cW).sum ≤ 2147483647 →
  Calls Tryz.prog 74 #[.pointer (some ⟨b, 0, none⟩), .slice ao n c, .int .i64 (k : Int)] w fun e w' => e = .returned (.tuple #[]) ∧ (∃ s', s' ≤ s + (ws.map cW).sum ∧ Lks 54 B b g s' w') ∧ Fl b g w w'
set_option maxHeartbeats 4000000 in
theorem lwords_step (w0 : World) (B b g k : Nat) (hB : w0.heap.size ≤ B) (ws : List Wd) (hrec : ∀ nm args p, Wd.mk nm args p ∈ ws → WsY w0 B b g (k + 1) args) : WsY w0 B b g k ws := by
  intro ao n c w s hr hb hl hw hg hs
  have hlen := hr.len
  have hsm := hr.small
  unfold maxLen at hsm
  have hblt := hl.blt
  have hglt := hl.glt
  have hlob := hl.lob
  have hlog := hl.log
  have HM := Lib.hid (fun ww => wmust_yes ww)
  have HX := Lib.hid (And.intro hr (And.intro hb (And.intro hl (And.intro hw (And.intro hg (And.intro hs hrec))))))
  have hk : n = 0 ∨ k ≤ 60 := by
    cases ws with
    | nil => left; exact hlen
    | cons x xs =>
      right
      cases x
      exact hw.1.1
  have hd : decide ((k : Int) ≤ 60) = true ∨ n = 0 := by rcases hk with h | h; exact .inr h; exact .inl (by simp; omega)
  have HLN := Lib.hid hlen
  clear hr hb hl hw hg hs hrec hk hlen
  obtain ⟨T, hT⟩ : ∃ T, (ws.map cW).sum = T := ⟨_, rfl⟩
  have HT := Lib.hid hT
  rw [hT]
  by_cases hn0 : n = 0
  · have e0 : ((n : Int) == 0) = true := by rw [hn0]; rfl
    have i1 : ¬ ((0 : Int) < (n : Int)) := by omega
    clear hd
    go_enter Tryz.func74, Tryz.ntmps74
    go_wp2_with fail
    refine (HM.out _).mono ?_
    rintro e w1 ⟨rfl, hw1⟩
    rw [hw1]
    clear hw1
    go_wp2_with fail
    go_loopg [18] 0 (fun gg v wr => v = .int .i64 0 ∧ wr = w)
    case atStart => exact ⟨rfl, rfl⟩
    case round =>
      obtain ⟨rfl, rfl⟩ := hrel
      go_wp2_with fail
      go_end0
      exact ⟨rfl, ⟨s, by omega, HX.out.2.2.1⟩, Fl.refl _ _ _⟩
  · have e0 : ((n : Int) == 0) = false := by simp; omega
    have hd1 : decide ((k : Int) ≤ 60) = true := hd.resolve_right hn0
    have hd2 : (k : Int) ≤ 60 := by simpa using hd1
    have hwk : wrap64 ((k : Int) + 1) = ((k + 1 : Nat) : Int) := by unfold wrap64; omega
    clear hd
    go_enter Tryz.func74, Tryz.ntmps74
    go_wp2_with fail
    refine (HM.out _).mono ?_
    rintro e w1 ⟨rfl, hw1⟩
    rw [hw1]
    clear hw1
    go_wp2_with fail
    go_loopg [18] n (fun gg v wr => ∃ i s', i ≤ n ∧ gg = n - i ∧ v = .int .i64 i ∧ s' + ((ws.drop i).map cW).sum ≤ s + T ∧ Lks 54 B b g s' wr ∧ Fl b g w wr)
    case atStart => exact ⟨0, s, by omega, rfl, rfl, by rw [List.drop_zero, HT.out]; exact Nat.le_refl _, HX.out.2.2.1, Fl.refl _ _ _⟩
    case round =>
      obtain ⟨i, s1, hi, hgi, rfl, hsum, hlk, hfl⟩ := hrel
      have HR := Lib.hid (And.intro hgi (And.intro hsum (And.intro hlk hfl)))
      have hb0 : Below w0.heap.size w0 wr := HX.out.2.1.trans (hfl.below (by omega) (by omega) HX.out.2.1.size)
      have hwsz := hfl.size
      clear hgi hsum hlk hfl
      by_cases hlt : i < n
      · obtain ⟨x, hx⟩ : ∃ x, ws[i]? = some x := ⟨_, List.getElem?_eq_getElem (by have := HLN.out; omega)⟩
        have hmem : x ∈ ws := List.mem_of_getElem? hx
        obtain ⟨ga, vs, rfl, hga, hwd, hca⟩ := HX.out.1.at_ i x hx
        have hcap := HX.out.1.cap (by omega)
        have hsd := sum_drop cW ws i x hx
        obtain ⟨nm, args, p⟩ := x
        obtain ⟨ao2, n2, c2, v, rfl, hra⟩ := hwd.parts
        have ka0 : wr.cell? ⟨ga, i * 3, none⟩ = some (.string (mkS nm)) := (hb0.cell (p := ⟨ga, i * 3, none⟩) hga).trans (by have := hca 0 _ rfl; simpa using this)
        have ka1 : wr.cell? ⟨ga, i * 3 + 1, none⟩ = some (.slice ao2 n2 c2) := (hb0.cell (p := ⟨ga, i * 3 + 1, none⟩) hga).trans (hca 1 _ rfl)
        have ka2 : wr.cell? ⟨ga, i * 3 + 2, none⟩ = some (.int .i64 v) := (hb0.cell (p := ⟨ga, i * 3 + 2, none⟩) hga).trans (hca 2 _ rfl)
        obtain ⟨gw1, gw2⟩ := good_word (HX.out.2.2.2.2.1 _ hmem)
        have hws := word_said nm args p
        have hsT : s1 + (cW (.mk nm args p) + ((ws.drop (i + 1)).map cW).sum) ≤ s + T := by rw [← hsd]; exact HR.out.2.1
        have hTs : s + T ≤ 2147483647 := by rw [← HT.out]; exact HX.out.2.2.2.2.2.1
        have HSS := Lib.hid (And.intro hws (And.intro hsT hTs))
        have hwf : wfWs (k + 1) args := by
          have : wfW k (.mk nm args p) := wfWs_mem _ _ HX.out.2.2.2.1 _ hmem
          exact this.2.2
        have HN := Lib.hid (fun ww hk => name_yes nm ww b g s1 B hk gw1 (by omega))
        have HW := Lib.hid (fun ww s2 hbb hk hs => HX.out.2.2.2.2.2.2 nm args p hmem ao2 n2 c2 ww s2 hra hbb hk hwf gw2 hs)
        have i1 : (i : Int) < (n : Int) := by omega
        have i0 : (0 : Int) ≤ (i : Int) := by omega
        have hga' : ga < wr.heap.size := Nat.lt_of_lt_of_le hga hb0.size
        have HB0 := Lib.hid hb0
        obtain ⟨S, hS⟩ : ∃ S, mkS nm = S := ⟨_, rfl⟩
        rw [hS] at ka0 HN
        clear hca hwd hx hmem hsd hws hsT hTs hwf gw1 gw2 hra hga hb0 hS
        go_upto_region 4 with fail
        obtain ⟨W, hW⟩ : ∃ V, V = wr.alloc (.cells #[.string S, .slice ao2 n2 c2, .int .i64 v] 50) := ⟨_, rfl⟩
        rw [← hW]
        have hk5 : W.heap[wr.heap.size]? = some (.cells #[.string S, .slice ao2 n2 c2, .int .i64 v] 50 (0, 0)) := by rw [hW]; exact heap_alloc_new wr _
        have HBW : Hid (Below wr.heap.size wr W) := by rw [hW]; exact (Below.refl _ _).alloc (Nat.le_refl _) _
        have hWs : W.heap.size = wr.heap.size + 1 := by rw [hW]; simp
        have HK5 := Lib.hid (And.intro hk5 hWs)
        have t0 : W.cell? ⟨wr.heap.size, 0, none⟩ = some (.string S) := by rw [cell_of_row W _ 0 _ 50 (0, 0) hk5]; rfl
        have hlk := HR.out.2.2.1.keep HBW.out
        have HNN := Lib.hid (HN.out W hlk)
        clear hW hk5 hWs ka0 ka1 ka2 hlk
        go_wp2_with fail
        refine HNN.out.mono ?_
        rintro e w2 ⟨rfl, hk2, hf2⟩
        have hb2 : w2.heap[wr.heap.size]? = some (.cells #[.string S, .slice ao2 n2 c2, .int .i64 v] 50 (0, 0)) := (hf2.block _ (by have := HK5.out.2; omega) (by have := HR.out.2.2.1.blt; omega) (by have := HR.out.2.2.1.glt; omega)).trans HK5.out.1
        have t1 : w2.cell? ⟨wr.heap.size, 1, none⟩ = some (.slice ao2 n2 c2) := by rw [cell_of_row w2 _ 1 _ 50 (0, 0) hb2]; rfl
        have HF2 : Hid (Fl b g wr w2) := (Fl.of HBW.out).trans hf2
        have hbb : Below w0.heap.size w0 w2 := HB0.out.trans (HF2.out.below (by omega) (by omega) HB0.out.size)
        have HWW := Lib.hid (HW.out w2 _ hbb hk2 (by have := HSS.out; omega))
        clear hk2 hf2 hb2 t0 hbb
        go_wp2_with fail
        refine HWW.out.mono ?_
        rintro e w3 ⟨rfl, ⟨s3, hs3, hk3⟩, hf3⟩
        have HK3 := Lib.hid (And.intro hs3 (And.intro hk3 (HF2.out.trans hf3)))
        clear hs3 hk3 hf3 t1
        go_wp2_with fail
        go_roundg (n - (i + 1))
        case rel =>
          refine ⟨i + 1, s3, by omega, rfl, by go_num, ?_, HK3.out.2.1, HR.out.2.2.2.trans HK3.out.2.2⟩
          have h1 := HSS.out
          have h2 := HK3.out.1
          omega
        case measure => rw [HR.out.1]; omega
      · have i1 : ¬ (i : Int) < (n : Int) := by omega
        go_wp2_with fail
        go_end0
        exact ⟨rfl, ⟨s1, by have := HR.out.2.1; omega, HR.out.2.2.1⟩, HR.out.2.2.2⟩
theorem lwords_yes (w0 : World) (B b g : Nat) (hB : w0.heap.size ≤ B) : ∀ (ws : List Wd) (k : Nat), WsY w0 B b g k ws
  | ws, k => lwords_step w0 B b g k hB ws (fun nm args p hmem => lwords_yes w0 B b g hB args (k + 1))
  termination_by ws => SizeOf.sizeOf ws
  decreasing_by
    have := List.sizeOf_lt_of_mem hmem
    simp at this
    omega
set_option maxHeartbeats 4000000 in
theorem alt_yes (w0 : World) (B b g : Nat) (hB : w0.heap.size ≤ B) (m : Int) (hm : w0.cell? ⟨0, 0, none⟩ = some (.int .i64 m)) (a : Al) (vs : List Value) (ha : AlAt w0 a vs) (hwf : wfA a) (hg : GoodV (alV a)) (w : World) (s : Nat) (hb : Below w0.heap.size w0 w) (hl : Lks 54 B b g s w) (hs : s + cA a ≤ 2147483647) :
    Calls Tryz.prog 45 #[.pointer (some ⟨b, 0, none⟩), .agg vs.toArray] w fun e w' => e = .returned (.tuple #[]) ∧ (∃ s', s' ≤ s + cA a ∧ Lks 54 B b g s' w') ∧ Fl b g w w' := by
  obtain ⟨aw, ap, ah, aa, awh, aat⟩ := a
  obtain ⟨ao, n, c, u, v, rfl, hr⟩ := ha
  obtain ⟨g1, g2, g3⟩ := good_alt hg
  have hblt := hl.blt
  have hglt := hl.glt
  have hlob := hl.lob
  have hlog := hl.log
  have hc0 : (0 : Nat) < w0.heap.size := World.block_lt_of_cell? _ _ hm
  dsimp only at hr g1 g2 g3
  have hca : cA ⟨aw, ap, ah, aa, awh, aat⟩ = (aw.map cW).sum + cP ap + aa.length + 3 := rfl
  rw [hca] at hs ⊢
  obtain ⟨T, hT⟩ : ∃ T, (aw.map cW).sum = T := ⟨_, rfl⟩
  obtain ⟨Sp, hSp⟩ : ∃ S, mkS ap = S := ⟨_, rfl⟩
  obtain ⟨Sa, hSa⟩ : ∃ S, mkS aa = S := ⟨_, rfl⟩
  have hsa : Sa.size = aa.length := by rw [← hSa]; exact mkS_size aa
  have hsal : Sa.data.toList = aa := by rw [← hSa]; exact mkS_list aa
  have HWS := Lib.hid (fun ww s2 hbb hk hs => lwords_yes w0 B b g hB aw 0 ao n c ww s2 hr hbb hk hwf.1 g1 hs)
  have HPN := Lib.hid (fun ww s2 hk hs => perhaps_yes ap ww b g s2 B hk g2 hs)
  rw [hT] at HWS hs ⊢
  have HT := Lib.hid hs
  have HL := Lib.hid (And.intro hb hl)
  have HM := Lib.hid (fun ww => wmust_yes ww)
  have HSY := Lib.hid (fun ww s2 (hk : Lks 54 B b g s2 ww) (hs : s2 + (3 + aa.length) ≤ 2147483647) => says_yes ww b s2 (3 + aa.length) (by rw [cell_of_row ww b 1 _ 54 (0, 0) hk.cells]; rfl) (by simp [World.frozen?, hk.cells]) hs)
  have HAY : Hid (ah = true → ∀ ww, ww.cell? ⟨0, 0, none⟩ = some (.int .i64 m) → Calls Tryz.prog 75 #[.string Sa] ww fun e w' => e = .returned (.tuple #[]) ∧ Below ww.heap.size ww w') := by
    intro h ww hmm
    have hok := (actOK_good aa).2 (g3 h)
    unfold actOK at hok
    exact act_yes hia Sa ww m hmm (by omega) (by rw [hsa, hsal]; exact hok)
  have HNA := Lib.hid hwf.2.1
  dsimp only at HNA
  have hWs9 : ∀ V, V = w.alloc (.cells #[.slice ao n c, .string Sp, .bool ah, .string Sa, .int .i64 u, .int .i64 v] 47) → V.heap[w.heap.size]? = some (.cells #[.slice ao n c, .string Sp, .bool ah, .string Sa, .int .i64 u, .int .i64 v] 47 (0, 0)) ∧ V.heap.size = w.heap.size + 1 ∧ Below w.heap.size w V := by
    rintro V rfl
    exact ⟨heap_alloc_new w _, by simp, (Below.refl _ _).alloc (Nat.le_refl _) _⟩
  have HV := Lib.hid hWs9
  have HIS := Lib.hid (And.intro hsal hm)
  rw [hSa]
  have h3w : wrap64 (3 + (aa.length : Int)) = ((3 + aa.length : Nat) : Int) := by unfold wrap64; omega
  clear hwf hg hr g1 g2 g3 hs hb hl hWs9 hca hsal hSa hm
  rw [hSp] at HPN ⊢
  clear hSp hT
  go_enter Tryz.func45, Tryz.ntmps45
  go_upto_region 1 with fail
  obtain ⟨W, hW⟩ : ∃ V, V = w.alloc (.cells #[.slice ao n c, .string Sp, .bool ah, .string Sa, .int .i64 u, .int .i64 v] 47) := ⟨_, rfl⟩
  rw [← hW]
  obtain ⟨hk5, hWs, hBW⟩ := HV.out W hW
  have HBOX : Hid (∀ ww, Fl b g W ww → ww.heap[w.heap.size]? = some (.cells #[.slice ao n c, .string Sp, .bool ah, .string Sa, .int .i64 u, .int .i64 v] 47 (0, 0))) := fun ww hf => (hf.block _ (by omega) (by have := HL.out.2.blt; omega) (by have := HL.out.2.glt; omega)).trans hk5
  have HB0 : Hid (∀ ww, Fl b g W ww → Below w0.heap.size w0 ww) := fun ww hf => (HL.out.1.trans (hBW.mono HL.out.1.size)).trans (hf.below (by omega) (by omega) (by have := HL.out.1.size; omega))
  have HFW : Hid (Fl b g w W) := Fl.of hBW
  have HLW : Hid (Lks 54 B b g s W) := HL.out.2.keep hBW
  clear hW hWs hBW
  obtain ⟨⟨t0, t1, t2, t3, t4, t5⟩, _⟩ := six_facts hk5
  clear t1 t2 t3 t4 t5 hk5
  have HW1 := Lib.hid (HWS.out W s (HB0.out W (Fl.refl _ _ _)) HLW.out (by have := HT.out; omega))
  go_wp2_with fail
  refine HW1.out.mono ?_
  rintro e w1 ⟨rfl, ⟨s1, hs1, hk1⟩, hf1⟩
  have HF1 := Lib.hid (And.intro hs1 (And.intro hk1 hf1))
  clear t0
  obtain ⟨⟨t0, t1, t2, t3, t4, t5⟩, _⟩ := six_facts (HBOX.out w1 hf1)
  clear t0 t2 t3 t4 t5 hs1 hk1 hf1
  have HP1 := Lib.hid (HPN.out w1 s1 HF1.out.2.1 (by have := HF1.out.1; have := HT.out; omega))
  go_wp2_with fail
  refine HP1.out.mono ?_
  rintro e w2 ⟨rfl, hk2, hf2⟩
  have HF2 := Lib.hid (And.intro hk2 (HF1.out.2.2.trans hf2))
  clear t1
  obtain ⟨⟨t0, t1, t2, t3, t4, t5⟩, _⟩ := six_facts (HBOX.out w2 HF2.out.2)
  clear t0 t1 t4 t5 hk2 hf2
  have HFIN : Hid (∀ w3, Fl b g w2 w3 → Lks 54 B b g (s1 + cP ap) w3 → ∃ hx : w3.heap[w.heap.size]? = some (.cells #[.slice ao n c, .string Sp, .bool ah, .string Sa, .int .i64 u, .int .i64 v] 47 (0, 0)), Calls Tryz.prog 73 #[.pointer (some ⟨b, 0, none⟩), .int .i64 ((3 + aa.length : Nat) : Int)] w3 fun e w' => e = .returned (.tuple #[]) ∧ (∃ s', s' ≤ s + (T + cP ap + aa.length + 3) ∧ Lks 54 B b g s' w') ∧ Fl b g w w') := by
    intro w3 hf hk
    refine ⟨HBOX.out w3 (HF2.out.2.trans hf), (HSY.out w3 _ hk (by have := HF1.out.1; have := HT.out; omega)).mono ?_⟩
    rintro e w' ⟨rfl, rfl⟩
    exact ⟨rfl, ⟨_, by have := HF1.out.1; omega, hk.said _⟩, (HFW.out.trans (HF2.out.2.trans hf)).trans (Fl.set _ _ _)⟩
  cases ah
  · have haa : aa = [] := (HNA.out rfl).1
    have hse : Sa.toList.isEmpty = true := by rw [Lib.toList_data, HIS.out.1, haa]; rfl
    obtain ⟨hx, hcall⟩ := HFIN.out w2 (Fl.refl _ _ _) HF2.out.1
    have HCALL := Lib.hid hcall
    clear hx hcall haa
    go_wp2_with fail
    refine (HM.out _).mono ?_
    rintro e w3 ⟨rfl, hw3⟩
    rw [hw3]
    clear hw3
    go_wp2_with fail
    refine HCALL.out.mono ?_
    rintro e w4 ⟨rfl, hx, hf⟩
    have HXX := Lib.hid (And.intro hx hf)
    clear hx hf
    go_wp2_with fail
    go_end0
    exact ⟨rfl, HXX.out.1, HXX.out.2⟩
  · have hmm : w2.cell? ⟨0, 0, none⟩ = some (.int .i64 m) := ((HB0.out w2 HF2.out.2).cell (p := ⟨0, 0, none⟩) hc0).trans HIS.out.2
    have HA1 := Lib.hid (HAY.out rfl w2 hmm)
    clear hmm
    go_wp2_with fail
    refine HA1.out.mono ?_
    rintro e w3 ⟨rfl, hb3⟩
    obtain ⟨hx, hcall⟩ := HFIN.out w3 (Fl.of hb3) (HF2.out.1.keep hb3)
    have HCALL := Lib.hid hcall
    clear t2 t3
    obtain ⟨⟨t0, t1, t2, t3, t4, t5⟩, _⟩ := six_facts hx
    clear hx hcall hb3 t0 t1 t2 t4 t5
    go_wp2_with fail
    refine HCALL.out.mono ?_
    rintro e w4 ⟨rfl, hx, hf⟩
    have HXX := Lib.hid (And.intro hx hf)
    clear hx hf
    go_wp2_with fail
    go_end0
    exact ⟨rfl, HXX.out.1, HXX.out.2⟩
end Go.Proofs.YtngimijiafnheaaGreat
set_option linter.unusedSimpArgs false
namespace LexT
open Go Go.RowKit
set_option linter.unusedVariables false
theorem six_new {w : World} {T : TypeId} {a0 a1 a2 a3 a4 a5 : Value} {V : World} (h : V = w.alloc (.cells #[a0, a1, a2, a3, a4, a5] T)) : V.heap[w.heap.size]? = some (.cells #[a0, a1, a2, a3, a4, a5] T (0, 0)) ∧ V.heap.size = w.heap.size + 1 ∧ Below w.heap.size w V := by
  subst h; exact ⟨heap_alloc_new w _, by simp, (Below.refl _ _).alloc (Nat.le_refl _) _⟩
theorem four_new {w : World} {T : TypeId} {a0 a1 a2 a3 : Value} {V : World} (h : V = w.alloc (.cells #[a0, a1, a2, a3] T)) : V.heap[w.heap.size]? = some (.cells #[a0, a1, a2, a3] T (0, 0)) ∧ V.heap.size = w.heap.size + 1 ∧ Below w.heap.size w V := by
  subst h; exact ⟨heap_alloc_new w _, by simp, (Below.refl _ _).alloc (Nat.le_refl _) _⟩
theorem two_new {w : World} {T : TypeId} {a0 a1 : Value} {V : World} (h : V = w.alloc (.cells #[a0, a1] T)) : V.heap[w.heap.size]? = some (.cells #[a0, a1] T (0, 0)) ∧ V.heap.size = w.heap.size + 1 ∧ Below w.heap.size w V := by
  subst h; exact ⟨heap_alloc_new w _, by simp, (Below.refl _ _).alloc (Nat.le_refl _) _⟩
end LexT
namespace Go.Proofs.YtngimijiafnheaaGreat
open Go.Instr Go.RowKit LexT
set_option linter.unusedVariables false
set_option maxHeartbeats 4000000 in
theorem lrule_yes (w0 : World) (B b g : Nat) (hB : w0.heap.size ≤ B) (m : Int) (hm : w0.cell? ⟨0, 0, none⟩ = some (.int .i64 m)) (r : Ru) (vs : List Value) (ha : RuAt w0 r vs) (hwf : wfR r) (hg : GoodV (ruV r)) (w : World) (s : Nat) (hb : Below w0.heap.size w0 w) (hl : Lks 54 B b g s w) (hs : s + cR r ≤ 2147483647) :
    Calls Tryz.prog 26 #[.pointer (some ⟨b, 0, none⟩), .agg vs.toArray] w fun e w' => e = .returned (.tuple #[]) ∧ (∃ s', s' ≤ s + cR r ∧ Lks 54 B b g s' w') ∧ Fl b g w w' := by
  obtain ⟨nm, ps, als, p⟩ := r
  obtain ⟨ao, n, c, bo, mm, d, v, rfl, hp, hr⟩ := ha
  obtain ⟨g1, g2, g3⟩ := good_rule hg
  have hblt := hl.blt
  have hglt := hl.glt
  have hlob := hl.lob
  have hlog := hl.log
  dsimp only at hp hr g1 g2 g3
  have hcr : cR ⟨nm, ps, als, p⟩ = cN nm + (ps.map cN).sum + (als.map cA).sum := rfl
  rw [hcr] at hs ⊢
  obtain ⟨Tp, hTp⟩ : ∃ T, (ps.map cN).sum = T := ⟨_, rfl⟩
  obtain ⟨Ta, hTa⟩ : ∃ T, (als.map cA).sum = T := ⟨_, rfl⟩
  rw [hTp, hTa] at hs ⊢
  have HTT := Lib.hid (And.intro hTp hTa)
  obtain ⟨C, hC⟩ : ∃ C, cN nm = C := ⟨_, rfl⟩
  have HN1 := Lib.hid (fun ww s2 hk hs => name_yes nm ww b g s2 B hk g1 hs)
  rw [hC] at HN1 hs ⊢
  obtain ⟨S, hS⟩ : ∃ S, mkS nm = S := ⟨_, rfl⟩
  rw [hS] at HN1 ⊢
  have hn := hp.len
  have hns := hp.small
  have hm1 := hr.len
  have hms := hr.small
  unfold maxLen at hns hms
  have HLEN := Lib.hid (And.intro hn hm1)
  have HP := Lib.hid hp
  have HR := Lib.hid hr
  have HT := Lib.hid hs
  have HL := Lib.hid (And.intro hb hl)
  have HM := Lib.hid (fun ww => wmust_yes ww)
  have HAL := Lib.hid (fun a ha vs hat hg ww s2 hbb hk hs => alt_yes w0 B b g hB m hm a vs hat (hwf.2.2.2 a ha) hg ww s2 hbb hk hs)
  have HG := Lib.hid (And.intro g2 g3)
  have hm0 : 0 < mm := by
    have : als ≠ [] := hwf.2.2.1
    rw [hm1]; exact List.length_pos_iff.2 this
  clear hwf hg hp hr g1 g2 g3 hs hb hl hcr hm hTp hTa hC hS hn hm1
  go_enter Tryz.func26, Tryz.ntmps26
  go_upto_region 1 with fail
  obtain ⟨W, hW⟩ : ∃ V, V = w.alloc (.cells #[.string S, .slice ao n c, .slice bo mm d, .int .i64 v] 44) := ⟨_, rfl⟩
  rw [← hW]
  obtain ⟨hk5, hWs, hBW⟩ := four_new hW
  have HBOX : Hid (∀ ww, Fl b g W ww → ww.heap[w.heap.size]? = some (.cells #[.string S, .slice ao n c, .slice bo mm d, .int .i64 v] 44 (0, 0))) := fun ww hf => (hf.block _ (by omega) (by have := HL.out.2.blt; omega) (by have := HL.out.2.glt; omega)).trans hk5
  have HB0 : Hid (∀ ww, Fl b g W ww → Below w0.heap.size w0 ww) := fun ww hf => (HL.out.1.trans (hBW.mono HL.out.1.size)).trans (hf.below (by omega) (by omega) (by have := HL.out.1.size; omega))
  have HFW : Hid (Fl b g w W) := Fl.of hBW
  have HLW : Hid (Lks 54 B b g s W) := HL.out.2.keep hBW
  clear hW hWs hBW
  obtain ⟨⟨t0, t1, t2, t3⟩, _⟩ := four_facts hk5
  clear t1 t2 t3 hk5
  have HW1 := Lib.hid (HN1.out W s HLW.out (by have := HT.out; omega))
  go_wp2_with fail
  refine HW1.out.mono ?_
  rintro e w1 ⟨rfl, hk1, hf1⟩
  have HF1 := Lib.hid (And.intro hk1 hf1)
  clear t0
  obtain ⟨⟨t0, t1, t2, t3⟩, _⟩ := four_facts (HBOX.out w1 hf1)
  clear t0 t2 t3 hk1 hf1
  go_wp2_with fail
  go_loopg [15] n (fun gg v wr => ∃ i s', i ≤ n ∧ gg = n - i ∧ v = .int .i64 i ∧ s' + ((ps.drop i).map cN).sum ≤ s + C + Tp ∧ Lks 54 B b g s' wr ∧ Fl b g W wr)
  case atStart => exact ⟨0, _, by omega, rfl, rfl, by rw [List.drop_zero, HTT.out.1]; exact Nat.le_refl _, HF1.out.1, HF1.out.2⟩
  case round =>
    obtain ⟨i, s2, hi, hgi, rfl, hsum, hlk, hfl⟩ := hrel
    have HRR := Lib.hid (And.intro hgi (And.intro hsum (And.intro hlk hfl)))
    have hb0 := HB0.out wr hfl
    clear hgi hsum hlk t1
    by_cases hlt : i < n
    · obtain ⟨x, hx⟩ : ∃ x, ps[i]? = some x := ⟨_, List.getElem?_eq_getElem (by have := HLEN.out.1; omega)⟩
      obtain ⟨ga, vs, rfl, hga, hwd, hca⟩ := HP.out.at_ i x hx
      have hcap := HP.out.cap (by omega)
      have hsd := sum_drop cN ps i x hx
      have hwd : vs = [.string (mkS x)] := hwd
      subst hwd
      have ka0 : wr.cell? ⟨ga, i, none⟩ = some (.string (mkS x)) := (hb0.cell (p := ⟨ga, i, none⟩) hga).trans (by have := hca 0 _ rfl; simpa using this)
      have hga' : ga < wr.heap.size := Nat.lt_of_lt_of_le hga hb0.size
      have hgx := HG.out.1 x (List.mem_of_getElem? hx)
      have hsT : s2 + (cN x + ((ps.drop (i + 1)).map cN).sum) ≤ s + C + Tp := by rw [← hsd]; exact HRR.out.2.1
      have HST := Lib.hid hsT
      have HN := Lib.hid (name_yes x wr b g s2 B HRR.out.2.2.1 hgx (by have := HT.out; omega))
      obtain ⟨X, hX⟩ : ∃ S, mkS x = S := ⟨_, rfl⟩
      rw [hX] at ka0 HN
      have i1 : (i : Int) < (n : Int) := by omega
      have i0 : (0 : Int) ≤ (i : Int) := by omega
      clear hca hx hsd hgx hsT hX hb0 hfl hga
      go_wp2_with fail
      refine HN.out.mono ?_
      rintro e w2 ⟨rfl, hk2, hf2⟩
      have HF2 := Lib.hid (And.intro hk2 hf2)
      clear hk2 hf2 ka0
      go_wp2_with fail
      go_roundg (n - (i + 1))
      case rel =>
        refine ⟨i + 1, _, by omega, rfl, by go_num, ?_, HF2.out.1, HRR.out.2.2.2.trans HF2.out.2⟩
        have := HST.out
        omega
      case measure => rw [HRR.out.1]; omega
    · have i1 : ¬ (i : Int) < (n : Int) := by omega
      obtain ⟨⟨t0, t1, t2, t3⟩, _⟩ := four_facts (HBOX.out wr hfl)
      have hm3 : decide ((mm : Int) > 0) = true := by simp; omega
      have hm4 : (0 : Int) < (mm : Int) := by omega
      clear hfl t0 t1 t3 hb0 hi
      go_wp2_with fail
      refine (HM.out _).mono ?_
      rintro e w3 ⟨rfl, hw3⟩
      rw [hw3]
      clear hw3
      obtain ⟨wq, rfl⟩ : ∃ V, V = wr := ⟨_, rfl⟩
      go_wp2_with fail
      go_loopg [31] mm (fun gg v wr => ∃ j s', j ≤ mm ∧ gg = mm - j ∧ v = .int .i64 j ∧ s' + ((als.drop j).map cA).sum ≤ s + C + Tp + Ta ∧ Lks 54 B b g s' wr ∧ Fl b g W wr)
      case atStart => exact ⟨0, s2, by omega, rfl, rfl, by have := HRR.out.2.1; rw [List.drop_zero, HTT.out.2]; omega, HRR.out.2.2.1, HRR.out.2.2.2⟩
      case round =>
        obtain ⟨j, s3, hj, hgj, rfl, hsum, hlk, hfl⟩ := hrel
        have HR2 := Lib.hid (And.intro hgj (And.intro hsum (And.intro hlk hfl)))
        have hb0 := HB0.out wr hfl
        have hbl3 := hlk.blt
        have hgl3 := hlk.glt
        clear hgj hsum hlk t2
        by_cases hlt2 : j < mm
        · obtain ⟨x, hx⟩ : ∃ x, als[j]? = some x := ⟨_, List.getElem?_eq_getElem (by have := HLEN.out.2; omega)⟩
          obtain ⟨ga, vs, rfl, hga, hwd, hca⟩ := HR.out.at_ j x hx
          have hcap := HR.out.cap (by omega)
          have hsd := sum_drop cA als j x hx
          have hmem := List.mem_of_getElem? hx
          have hwd0 := hwd
          obtain ⟨ao2, n2, c2, u2, v2, hvs, _⟩ := hwd
          have hsT : s3 + (cA x + ((als.drop (j + 1)).map cA).sum) ≤ s + C + Tp + Ta := by rw [← hsd]; exact HR2.out.2.1
          have HST := Lib.hid hsT
          have HCL := Lib.hid (fun ww hbb hk => HAL.out x hmem vs hwd0 (HG.out.2 x hmem) ww s3 hbb hk (by have := HT.out; omega))
          subst hvs
          obtain ⟨Sp, hSp⟩ : ∃ S, mkS x.prec = S := ⟨_, rfl⟩
          obtain ⟨Sa, hSa⟩ : ∃ S, mkS x.action = S := ⟨_, rfl⟩
          obtain ⟨xh, hxh⟩ : ∃ S, x.has = S := ⟨_, rfl⟩
          rw [hSp, hSa, hxh] at hca HCL
          have hcells : ∀ k u, [Value.slice ao2 n2 c2, .string Sp, .bool xh, .string Sa, .int .i64 u2, .int .i64 v2][k]? = some u → wr.cell? ⟨ga, j * 6 + k, none⟩ = some u := fun k u hu => (hb0.cell (p := ⟨ga, j * 6 + k, none⟩) hga).trans (hca k u hu)
          have z0 : wr.cell? ⟨ga, j * 6, none⟩ = some (.slice ao2 n2 c2) := by have := hcells 0 _ rfl; simpa using this
          have z1 := hcells 1 _ rfl
          have z2 := hcells 2 _ rfl
          have z3 := hcells 3 _ rfl
          have z4 := hcells 4 _ rfl
          have z5 := hcells 5 _ rfl
          have hga' : ga < wr.heap.size := Nat.lt_of_lt_of_le hga hb0.size
          have i1 : (j : Int) < (mm : Int) := by omega
          have i0 : (0 : Int) ≤ (j : Int) := by omega
          clear hca hx hsd hsT hcells hSp hSa hxh hfl hga hwd0 hmem
          go_upto_region 11 with fail
          obtain ⟨W2, hW2⟩ : ∃ V, V = wr.alloc (.cells #[.slice ao2 n2 c2, .string Sp, .bool xh, .string Sa, .int .i64 u2, .int .i64 v2] 47) := ⟨_, rfl⟩
          rw [← hW2]
          obtain ⟨hk6, hWs6, hBW6⟩ := six_new hW2
          obtain ⟨⟨y0, y1, y2, y3, y4, y5⟩, _⟩ := six_facts hk6
          have HF3 : Hid (Fl b g W W2) := HR2.out.2.2.2.trans (Fl.of hBW6)
          have HCC := Lib.hid (HCL.out W2 (HB0.out W2 HF3.out) (HR2.out.2.2.1.keep hBW6))
          clear hW2 hk6 hWs6 hBW6 z0 z1 z2 z3 z4 z5 hb0
          go_wp2_with fail
          refine HCC.out.mono ?_
          rintro e w4 ⟨rfl, ⟨s4, hs4, hk4⟩, hf4⟩
          have HF4 := Lib.hid (And.intro hs4 (And.intro hk4 (HF3.out.trans hf4)))
          clear hs4 hk4 hf4 y0 y1 y2 y3 y4 y5
          go_wp2_with fail
          go_roundg (mm - (j + 1))
          case rel =>
            refine ⟨j + 1, s4, by omega, rfl, by go_num, ?_, HF4.out.2.1, HF4.out.2.2⟩
            have h1 := HST.out
            have h2 := HF4.out.1
            omega
          case measure => rw [HR2.out.1]; omega
        · have i1 : ¬ (j : Int) < (mm : Int) := by omega
          clear hfl
          go_wp2_with fail
          go_end0
          exact ⟨rfl, ⟨s3, by have := HR2.out.2.1; omega, HR2.out.2.2.1⟩, HFW.out.trans HR2.out.2.2.2⟩
end Go.Proofs.YtngimijiafnheaaGreat
set_option linter.unusedSimpArgs false
namespace Go.Proofs.YtngimijiafnheaaGreat
open Go.Instr Go.RowKit LexT
set_option linter.unusedVariables false
/-- A kind's bytes held against a word's. -/
theorem kind_eq (a b : Bs) {S : ByteArray} (h : mkS a = S) : (S.toList == b) = (a == b) := by rw [← h, Lib.toList_data, mkS_list]
set_option maxHeartbeats 16000000 in
theorem ldecl_yes (w0 : World) (B b g : Nat) (hB : w0.heap.size ≤ B) (x : De) (vs : List Value) (ha : DeAt w0 x vs) (hwf : wfD x) (hg : GoodV (deV x)) (w : World) (s : Nat) (hb : Below w0.heap.size w0 w) (hl : Lks 54 B b g s w) (hs : s + cD x ≤ 2147483647) :
    Calls Tryz.prog 25 #[.pointer (some ⟨b, 0, none⟩), .agg vs.toArray] w fun e w' => e = .returned (.tuple #[]) ∧ (∃ s', s' ≤ s + cD x ∧ Lks 54 B b g s' w') ∧ Fl b g w w' := by
  obtain ⟨kd, ty, ns, p⟩ := x
  obtain ⟨ao, n, c, v, rfl, hp⟩ := ha
  obtain ⟨g1, g2⟩ := good_decl hg
  have hblt := hl.blt
  have hglt := hl.glt
  have hlob := hl.lob
  have hlog := hl.log
  dsimp only at hp g1 g2
  have hcd : cD ⟨kd, ty, ns, p⟩ = cP ty + (ns.map cN).sum := rfl
  rw [hcd] at hs ⊢
  obtain ⟨Tn, hTn⟩ : ∃ T, (ns.map cN).sum = T := ⟨_, rfl⟩
  rw [hTn] at hs ⊢
  have HTT := Lib.hid hTn
  obtain ⟨C, hC⟩ : ∃ C, cP ty = C := ⟨_, rfl⟩
  have HPN := Lib.hid (fun ww s2 hk hs => perhaps_yes ty ww b g s2 B hk g1 hs)
  have HN1 : Hid (ty ≠ [] → ∀ ww s2, Lks 54 B b g s2 ww → s2 + C ≤ 2147483647 → Calls Tryz.prog 43 #[.pointer (some ⟨b, 0, none⟩), .string (mkS ty)] ww fun e w' => e = .returned (.tuple #[]) ∧ Lks 54 B b g (s2 + C) w' ∧ Fl b g ww w') := by
    intro h ww s2 hk hs
    have e : C = cN ty := by rw [← hC]; unfold cP cN; rw [if_neg h]
    rw [e] at hs ⊢
    exact name_yes ty ww b g s2 B hk (g1.resolve_left h) hs
  have HC0 : Hid (ty = [] → C = 0) := fun h => by rw [← hC]; unfold cP; rw [if_pos h]
  rw [hC] at HPN hs ⊢
  obtain ⟨St, hSt⟩ : ∃ S, mkS ty = S := ⟨_, rfl⟩
  have HEM : Hid (ty = [] → St.toList.isEmpty = true) := fun h => by rw [← hSt, Lib.toList_data, mkS_list, h]; rfl
  rw [hSt] at HPN HN1 ⊢
  have hn := hp.len
  have hns := hp.small
  unfold maxLen at hns
  have HLEN := Lib.hid hn
  have HP := Lib.hid hp
  have HT := Lib.hid hs
  have HL := Lib.hid (And.intro hb hl)
  have HM := Lib.hid (fun ww => wmust_yes ww)
  have HG := Lib.hid g2
  have HWF := Lib.hid hwf
  have hm0 : 0 < n := by
    have : ns ≠ [] := hwf.2.2.2.1
    rw [hn]; exact List.length_pos_iff.2 this
  have hm3 : decide ((n : Int) > 0) = true := by simp; omega
  have hm4 : (0 : Int) < (n : Int) := by omega
  have hkd : kd ∈ kinds := hwf.1
  clear hwf hg hp g1 g2 hs hb hl hcd hTn hC hSt hn
  have hkd : kd = [116, 111, 107, 101, 110] ∨ kd = [116, 121, 112, 101] ∨ kd = [108, 101, 102, 116] ∨ kd = [114, 105, 103, 104, 116] ∨ kd = [110, 111, 110, 97, 115, 115, 111, 99] ∨ kd = [115, 116, 97, 114, 116] := by simpa [kinds] using hkd
  obtain ⟨Sk, hSk⟩ : ∃ S, mkS kd = S := ⟨_, rfl⟩
  rw [hSk]
  rcases hkd with rfl | rfl | rfl | rfl | rfl | rfl
  · have e0 : (Sk.toList == [116, 111, 107, 101, 110]) = true := (kind_eq [116, 111, 107, 101, 110] [116, 111, 107, 101, 110] hSk).trans (by decide)
    clear hSk
    go_enter Tryz.func25, Tryz.ntmps25
    go_upto_region 1 with fail
    obtain ⟨W, hW⟩ : ∃ V, V = w.alloc (.cells #[.string Sk, .string St, .slice ao n c, .int .i64 v] 41) := ⟨_, rfl⟩
    rw [← hW]
    obtain ⟨hk5, hWs, hBW⟩ := four_new hW
    have HBOX : Hid (∀ ww, Fl b g W ww → ww.heap[w.heap.size]? = some (.cells #[.string Sk, .string St, .slice ao n c, .int .i64 v] 41 (0, 0))) := fun ww hf => (hf.block _ (by omega) (by have := HL.out.2.blt; omega) (by have := HL.out.2.glt; omega)).trans hk5
    have HB0 : Hid (∀ ww, Fl b g W ww → Below w0.heap.size w0 ww) := fun ww hf => (HL.out.1.trans (hBW.mono HL.out.1.size)).trans (hf.below (by omega) (by omega) (by have := HL.out.1.size; omega))
    have HFW : Hid (Fl b g w W) := Fl.of hBW
    have HLW : Hid (Lks 54 B b g s W) := HL.out.2.keep hBW
    clear hW hWs hBW
    obtain ⟨⟨t0, t1, t2, t3⟩, _⟩ := four_facts hk5
    clear t2 t3 hk5
    have HW1 := Lib.hid (HPN.out W s HLW.out (by have := HT.out; omega))
    go_wp2_with fail
    refine HW1.out.mono ?_
    rintro e w1 ⟨rfl, hk1, hf1⟩
    have HF1 := Lib.hid (And.intro hk1 hf1)
    clear t0 t1 hk1 hf1
    obtain ⟨⟨t0, t1, t2, t3⟩, _⟩ := four_facts (HBOX.out w1 HF1.out.2)
    clear t0 t1 t3
    go_wp2_with fail
    refine (HM.out _).mono ?_
    rintro e w9 ⟨rfl, hw9⟩
    rw [hw9]
    clear hw9
    go_wp2_with fail
    go_loopg [38] n (fun gg v wr => ∃ i s', i ≤ n ∧ gg = n - i ∧ v = .int .i64 i ∧ s' + ((ns.drop i).map cN).sum ≤ s + (C + Tn) ∧ Lks 54 B b g s' wr ∧ Fl b g W wr)
    case atStart => exact ⟨0, _, by omega, rfl, rfl, by rw [List.drop_zero, HTT.out]; omega, HF1.out.1, HF1.out.2⟩
    case round =>
      obtain ⟨i, s2, hi, hgi, rfl, hsum, hlk, hfl⟩ := hrel
      have HRR := Lib.hid (And.intro hgi (And.intro hsum (And.intro hlk hfl)))
      have hb0 := HB0.out wr hfl
      clear hgi hsum hlk t2
      by_cases hlt : i < n
      · obtain ⟨x, hx⟩ : ∃ x, ns[i]? = some x := ⟨_, List.getElem?_eq_getElem (by have := HLEN.out; omega)⟩
        obtain ⟨ga, vs, rfl, hga, hwd, hca⟩ := HP.out.at_ i x hx
        have hcap := HP.out.cap (by omega)
        have hsd := sum_drop cN ns i x hx
        have hwd : vs = [.string (mkS x)] := hwd
        subst hwd
        have ka0 : wr.cell? ⟨ga, i, none⟩ = some (.string (mkS x)) := (hb0.cell (p := ⟨ga, i, none⟩) hga).trans (by have := hca 0 _ rfl; simpa using this)
        have hga' : ga < wr.heap.size := Nat.lt_of_lt_of_le hga hb0.size
        have hgx := HG.out x (List.mem_of_getElem? hx)
        have hsT : s2 + (cN x + ((ns.drop (i + 1)).map cN).sum) ≤ s + (C + Tn) := by rw [← hsd]; exact HRR.out.2.1
        have HST := Lib.hid hsT
        have HN := Lib.hid (name_yes x wr b g s2 B HRR.out.2.2.1 hgx (by have := HT.out; omega))
        obtain ⟨X, hX⟩ : ∃ S, mkS x = S := ⟨_, rfl⟩
        rw [hX] at ka0 HN
        have i1 : (i : Int) < (n : Int) := by omega
        have i0 : (0 : Int) ≤ (i : Int) := by omega
        clear hca hx hsd hgx hsT hX hb0 hfl hga
        go_wp2_with fail
        refine HN.out.mono ?_
        rintro e w2 ⟨rfl, hk2, hf2⟩
        have HF2 := Lib.hid (And.intro hk2 hf2)
        clear hk2 hf2 ka0
        go_wp2_with fail
        go_roundg (n - (i + 1))
        case rel =>
          refine ⟨i + 1, _, by omega, rfl, by go_num, ?_, HF2.out.1, HRR.out.2.2.2.trans HF2.out.2⟩
          have := HST.out
          omega
        case measure => rw [HRR.out.1]; omega
      · have i1 : ¬ (i : Int) < (n : Int) := by omega
        clear hfl hb0 hi
        go_wp2_with fail
        go_end0
        exact ⟨rfl, ⟨s2, by have := HRR.out.2.1; omega, HRR.out.2.2.1⟩, HFW.out.trans HRR.out.2.2.2⟩
  · have e0 : (Sk.toList == [116, 111, 107, 101, 110]) = false := (kind_eq [116, 121, 112, 101] [116, 111, 107, 101, 110] hSk).trans (by decide)
    have e1 : (Sk.toList == [116, 121, 112, 101]) = true := (kind_eq [116, 121, 112, 101] [116, 121, 112, 101] hSk).trans (by decide)
    have hty : ty ≠ [] := HWF.out.2.1 rfl
    clear hSk
    go_enter Tryz.func25, Tryz.ntmps25
    go_upto_region 1 with fail
    obtain ⟨W, hW⟩ : ∃ V, V = w.alloc (.cells #[.string Sk, .string St, .slice ao n c, .int .i64 v] 41) := ⟨_, rfl⟩
    rw [← hW]
    obtain ⟨hk5, hWs, hBW⟩ := four_new hW
    have HBOX : Hid (∀ ww, Fl b g W ww → ww.heap[w.heap.size]? = some (.cells #[.string Sk, .string St, .slice ao n c, .int .i64 v] 41 (0, 0))) := fun ww hf => (hf.block _ (by omega) (by have := HL.out.2.blt; omega) (by have := HL.out.2.glt; omega)).trans hk5
    have HB0 : Hid (∀ ww, Fl b g W ww → Below w0.heap.size w0 ww) := fun ww hf => (HL.out.1.trans (hBW.mono HL.out.1.size)).trans (hf.below (by omega) (by omega) (by have := HL.out.1.size; omega))
    have HFW : Hid (Fl b g w W) := Fl.of hBW
    have HLW : Hid (Lks 54 B b g s W) := HL.out.2.keep hBW
    clear hW hWs hBW
    obtain ⟨⟨t0, t1, t2, t3⟩, _⟩ := four_facts hk5
    clear t2 t3 hk5
    have HW1 := Lib.hid (HN1.out hty W s HLW.out (by have := HT.out; omega))
    go_wp2_with fail
    refine HW1.out.mono ?_
    rintro e w1 ⟨rfl, hk1, hf1⟩
    have HF1 := Lib.hid (And.intro hk1 hf1)
    clear t0 t1 hk1 hf1
    obtain ⟨⟨t0, t1, t2, t3⟩, _⟩ := four_facts (HBOX.out w1 HF1.out.2)
    clear t0 t1 t3
    go_wp2_with fail
    refine (HM.out _).mono ?_
    rintro e w9 ⟨rfl, hw9⟩
    rw [hw9]
    clear hw9
    go_wp2_with fail
    go_loopg [38] n (fun gg v wr => ∃ i s', i ≤ n ∧ gg = n - i ∧ v = .int .i64 i ∧ s' + ((ns.drop i).map cN).sum ≤ s + (C + Tn) ∧ Lks 54 B b g s' wr ∧ Fl b g W wr)
    case atStart => exact ⟨0, _, by omega, rfl, rfl, by rw [List.drop_zero, HTT.out]; omega, HF1.out.1, HF1.out.2⟩
    case round =>
      obtain ⟨i, s2, hi, hgi, rfl, hsum, hlk, hfl⟩ := hrel
      have HRR := Lib.hid (And.intro hgi (And.intro hsum (And.intro hlk hfl)))
      have hb0 := HB0.out wr hfl
      clear hgi hsum hlk t2
      by_cases hlt : i < n
      · obtain ⟨x, hx⟩ : ∃ x, ns[i]? = some x := ⟨_, List.getElem?_eq_getElem (by have := HLEN.out; omega)⟩
        obtain ⟨ga, vs, rfl, hga, hwd, hca⟩ := HP.out.at_ i x hx
        have hcap := HP.out.cap (by omega)
        have hsd := sum_drop cN ns i x hx
        have hwd : vs = [.string (mkS x)] := hwd
        subst hwd
        have ka0 : wr.cell? ⟨ga, i, none⟩ = some (.string (mkS x)) := (hb0.cell (p := ⟨ga, i, none⟩) hga).trans (by have := hca 0 _ rfl; simpa using this)
        have hga' : ga < wr.heap.size := Nat.lt_of_lt_of_le hga hb0.size
        have hgx := HG.out x (List.mem_of_getElem? hx)
        have hsT : s2 + (cN x + ((ns.drop (i + 1)).map cN).sum) ≤ s + (C + Tn) := by rw [← hsd]; exact HRR.out.2.1
        have HST := Lib.hid hsT
        have HN := Lib.hid (name_yes x wr b g s2 B HRR.out.2.2.1 hgx (by have := HT.out; omega))
        obtain ⟨X, hX⟩ : ∃ S, mkS x = S := ⟨_, rfl⟩
        rw [hX] at ka0 HN
        have i1 : (i : Int) < (n : Int) := by omega
        have i0 : (0 : Int) ≤ (i : Int) := by omega
        clear hca hx hsd hgx hsT hX hb0 hfl hga
        go_wp2_with fail
        refine HN.out.mono ?_
        rintro e w2 ⟨rfl, hk2, hf2⟩
        have HF2 := Lib.hid (And.intro hk2 hf2)
        clear hk2 hf2 ka0
        go_wp2_with fail
        go_roundg (n - (i + 1))
        case rel =>
          refine ⟨i + 1, _, by omega, rfl, by go_num, ?_, HF2.out.1, HRR.out.2.2.2.trans HF2.out.2⟩
          have := HST.out
          omega
        case measure => rw [HRR.out.1]; omega
      · have i1 : ¬ (i : Int) < (n : Int) := by omega
        clear hfl hb0 hi
        go_wp2_with fail
        go_end0
        exact ⟨rfl, ⟨s2, by have := HRR.out.2.1; omega, HRR.out.2.2.1⟩, HFW.out.trans HRR.out.2.2.2⟩
  · have e0 : (Sk.toList == [116, 111, 107, 101, 110]) = false := (kind_eq [108, 101, 102, 116] [116, 111, 107, 101, 110] hSk).trans (by decide)
    have e1 : (Sk.toList == [116, 121, 112, 101]) = false := (kind_eq [108, 101, 102, 116] [116, 121, 112, 101] hSk).trans (by decide)
    have e2 : (Sk.toList == [108, 101, 102, 116]) = true := (kind_eq [108, 101, 102, 116] [108, 101, 102, 116] hSk).trans (by decide)
    have hty : ty = [] := HWF.out.2.2.1 (by show [108, 101, 102, 116] ≠ [116, 121, 112, 101]; decide) (by show [108, 101, 102, 116] ≠ [116, 111, 107, 101, 110]; decide)
    have hC0 := HC0.out hty
    have hem := HEM.out hty
    clear hSk
    go_enter Tryz.func25, Tryz.ntmps25
    go_upto_region 1 with fail
    obtain ⟨W, hW⟩ : ∃ V, V = w.alloc (.cells #[.string Sk, .string St, .slice ao n c, .int .i64 v] 41) := ⟨_, rfl⟩
    rw [← hW]
    obtain ⟨hk5, hWs, hBW⟩ := four_new hW
    have HBOX : Hid (∀ ww, Fl b g W ww → ww.heap[w.heap.size]? = some (.cells #[.string Sk, .string St, .slice ao n c, .int .i64 v] 41 (0, 0))) := fun ww hf => (hf.block _ (by omega) (by have := HL.out.2.blt; omega) (by have := HL.out.2.glt; omega)).trans hk5
    have HB0 : Hid (∀ ww, Fl b g W ww → Below w0.heap.size w0 ww) := fun ww hf => (HL.out.1.trans (hBW.mono HL.out.1.size)).trans (hf.below (by omega) (by omega) (by have := HL.out.1.size; omega))
    have HFW : Hid (Fl b g w W) := Fl.of hBW
    have HLW : Hid (Lks 54 B b g s W) := HL.out.2.keep hBW
    clear hW hWs hBW
    obtain ⟨⟨t0, t1, t2, t3⟩, _⟩ := four_facts hk5
    clear t2 t3 hk5
    go_wp2_with fail
    refine (HM.out _).mono ?_
    rintro e w8 ⟨rfl, hw8⟩
    rw [hw8]
    clear hw8
    obtain ⟨w1, hw1⟩ : ∃ V, V = W := ⟨_, rfl⟩
    have HF1 : Hid (Lks 54 B b g (s + C) w1 ∧ Fl b g W w1) := by rw [hw1, hC0]; exact ⟨HLW.out, Fl.refl _ _ _⟩
    rw [← hw1]
    clear t0 t1 hw1
    obtain ⟨⟨t0, t1, t2, t3⟩, _⟩ := four_facts (HBOX.out w1 HF1.out.2)
    clear t0 t1 t3
    go_wp2_with fail
    refine (HM.out _).mono ?_
    rintro e w9 ⟨rfl, hw9⟩
    rw [hw9]
    clear hw9
    go_wp2_with fail
    go_loopg [38] n (fun gg v wr => ∃ i s', i ≤ n ∧ gg = n - i ∧ v = .int .i64 i ∧ s' + ((ns.drop i).map cN).sum ≤ s + (C + Tn) ∧ Lks 54 B b g s' wr ∧ Fl b g W wr)
    case atStart => exact ⟨0, _, by omega, rfl, rfl, by rw [List.drop_zero, HTT.out]; omega, HF1.out.1, HF1.out.2⟩
    case round =>
      obtain ⟨i, s2, hi, hgi, rfl, hsum, hlk, hfl⟩ := hrel
      have HRR := Lib.hid (And.intro hgi (And.intro hsum (And.intro hlk hfl)))
      have hb0 := HB0.out wr hfl
      clear hgi hsum hlk t2
      by_cases hlt : i < n
      · obtain ⟨x, hx⟩ : ∃ x, ns[i]? = some x := ⟨_, List.getElem?_eq_getElem (by have := HLEN.out; omega)⟩
        obtain ⟨ga, vs, rfl, hga, hwd, hca⟩ := HP.out.at_ i x hx
        have hcap := HP.out.cap (by omega)
        have hsd := sum_drop cN ns i x hx
        have hwd : vs = [.string (mkS x)] := hwd
        subst hwd
        have ka0 : wr.cell? ⟨ga, i, none⟩ = some (.string (mkS x)) := (hb0.cell (p := ⟨ga, i, none⟩) hga).trans (by have := hca 0 _ rfl; simpa using this)
        have hga' : ga < wr.heap.size := Nat.lt_of_lt_of_le hga hb0.size
        have hgx := HG.out x (List.mem_of_getElem? hx)
        have hsT : s2 + (cN x + ((ns.drop (i + 1)).map cN).sum) ≤ s + (C + Tn) := by rw [← hsd]; exact HRR.out.2.1
        have HST := Lib.hid hsT
        have HN := Lib.hid (name_yes x wr b g s2 B HRR.out.2.2.1 hgx (by have := HT.out; omega))
        obtain ⟨X, hX⟩ : ∃ S, mkS x = S := ⟨_, rfl⟩
        rw [hX] at ka0 HN
        have i1 : (i : Int) < (n : Int) := by omega
        have i0 : (0 : Int) ≤ (i : Int) := by omega
        clear hca hx hsd hgx hsT hX hb0 hfl hga
        go_wp2_with fail
        refine HN.out.mono ?_
        rintro e w2 ⟨rfl, hk2, hf2⟩
        have HF2 := Lib.hid (And.intro hk2 hf2)
        clear hk2 hf2 ka0
        go_wp2_with fail
        go_roundg (n - (i + 1))
        case rel =>
          refine ⟨i + 1, _, by omega, rfl, by go_num, ?_, HF2.out.1, HRR.out.2.2.2.trans HF2.out.2⟩
          have := HST.out
          omega
        case measure => rw [HRR.out.1]; omega
      · have i1 : ¬ (i : Int) < (n : Int) := by omega
        clear hfl hb0 hi
        go_wp2_with fail
        go_end0
        exact ⟨rfl, ⟨s2, by have := HRR.out.2.1; omega, HRR.out.2.2.1⟩, HFW.out.trans HRR.out.2.2.2⟩
  · have e0 : (Sk.toList == [116, 111, 107, 101, 110]) = false := (kind_eq [114, 105, 103, 104, 116] [116, 111, 107, 101, 110] hSk).trans (by decide)
    have e1 : (Sk.toList == [116, 121, 112, 101]) = false := (kind_eq [114, 105, 103, 104, 116] [116, 121, 112, 101] hSk).trans (by decide)
    have e2 : (Sk.toList == [108, 101, 102, 116]) = false := (kind_eq [114, 105, 103, 104, 116] [108, 101, 102, 116] hSk).trans (by decide)
    have e3 : (Sk.toList == [114, 105, 103, 104, 116]) = true := (kind_eq [114, 105, 103, 104, 116] [114, 105, 103, 104, 116] hSk).trans (by decide)
    have hty : ty = [] := HWF.out.2.2.1 (by show [114, 105, 103, 104, 116] ≠ [116, 121, 112, 101]; decide) (by show [114, 105, 103, 104, 116] ≠ [116, 111, 107, 101, 110]; decide)
    have hC0 := HC0.out hty
    have hem := HEM.out hty
    clear hSk
    go_enter Tryz.func25, Tryz.ntmps25
    go_upto_region 1 with fail
    obtain ⟨W, hW⟩ : ∃ V, V = w.alloc (.cells #[.string Sk, .string St, .slice ao n c, .int .i64 v] 41) := ⟨_, rfl⟩
    rw [← hW]
    obtain ⟨hk5, hWs, hBW⟩ := four_new hW
    have HBOX : Hid (∀ ww, Fl b g W ww → ww.heap[w.heap.size]? = some (.cells #[.string Sk, .string St, .slice ao n c, .int .i64 v] 41 (0, 0))) := fun ww hf => (hf.block _ (by omega) (by have := HL.out.2.blt; omega) (by have := HL.out.2.glt; omega)).trans hk5
    have HB0 : Hid (∀ ww, Fl b g W ww → Below w0.heap.size w0 ww) := fun ww hf => (HL.out.1.trans (hBW.mono HL.out.1.size)).trans (hf.below (by omega) (by omega) (by have := HL.out.1.size; omega))
    have HFW : Hid (Fl b g w W) := Fl.of hBW
    have HLW : Hid (Lks 54 B b g s W) := HL.out.2.keep hBW
    clear hW hWs hBW
    obtain ⟨⟨t0, t1, t2, t3⟩, _⟩ := four_facts hk5
    clear t2 t3 hk5
    go_wp2_with fail
    refine (HM.out _).mono ?_
    rintro e w8 ⟨rfl, hw8⟩
    rw [hw8]
    clear hw8
    obtain ⟨w1, hw1⟩ : ∃ V, V = W := ⟨_, rfl⟩
    have HF1 : Hid (Lks 54 B b g (s + C) w1 ∧ Fl b g W w1) := by rw [hw1, hC0]; exact ⟨HLW.out, Fl.refl _ _ _⟩
    rw [← hw1]
    clear t0 t1 hw1
    obtain ⟨⟨t0, t1, t2, t3⟩, _⟩ := four_facts (HBOX.out w1 HF1.out.2)
    clear t0 t1 t3
    go_wp2_with fail
    refine (HM.out _).mono ?_
    rintro e w9 ⟨rfl, hw9⟩
    rw [hw9]
    clear hw9
    go_wp2_with fail
    go_loopg [38] n (fun gg v wr => ∃ i s', i ≤ n ∧ gg = n - i ∧ v = .int .i64 i ∧ s' + ((ns.drop i).map cN).sum ≤ s + (C + Tn) ∧ Lks 54 B b g s' wr ∧ Fl b g W wr)
    case atStart => exact ⟨0, _, by omega, rfl, rfl, by rw [List.drop_zero, HTT.out]; omega, HF1.out.1, HF1.out.2⟩
    case round =>
      obtain ⟨i, s2, hi, hgi, rfl, hsum, hlk, hfl⟩ := hrel
      have HRR := Lib.hid (And.intro hgi (And.intro hsum (And.intro hlk hfl)))
      have hb0 := HB0.out wr hfl
      clear hgi hsum hlk t2
      by_cases hlt : i < n
      · obtain ⟨x, hx⟩ : ∃ x, ns[i]? = some x := ⟨_, List.getElem?_eq_getElem (by have := HLEN.out; omega)⟩
        obtain ⟨ga, vs, rfl, hga, hwd, hca⟩ := HP.out.at_ i x hx
        have hcap := HP.out.cap (by omega)
        have hsd := sum_drop cN ns i x hx
        have hwd : vs = [.string (mkS x)] := hwd
        subst hwd
        have ka0 : wr.cell? ⟨ga, i, none⟩ = some (.string (mkS x)) := (hb0.cell (p := ⟨ga, i, none⟩) hga).trans (by have := hca 0 _ rfl; simpa using this)
        have hga' : ga < wr.heap.size := Nat.lt_of_lt_of_le hga hb0.size
        have hgx := HG.out x (List.mem_of_getElem? hx)
        have hsT : s2 + (cN x + ((ns.drop (i + 1)).map cN).sum) ≤ s + (C + Tn) := by rw [← hsd]; exact HRR.out.2.1
        have HST := Lib.hid hsT
        have HN := Lib.hid (name_yes x wr b g s2 B HRR.out.2.2.1 hgx (by have := HT.out; omega))
        obtain ⟨X, hX⟩ : ∃ S, mkS x = S := ⟨_, rfl⟩
        rw [hX] at ka0 HN
        have i1 : (i : Int) < (n : Int) := by omega
        have i0 : (0 : Int) ≤ (i : Int) := by omega
        clear hca hx hsd hgx hsT hX hb0 hfl hga
        go_wp2_with fail
        refine HN.out.mono ?_
        rintro e w2 ⟨rfl, hk2, hf2⟩
        have HF2 := Lib.hid (And.intro hk2 hf2)
        clear hk2 hf2 ka0
        go_wp2_with fail
        go_roundg (n - (i + 1))
        case rel =>
          refine ⟨i + 1, _, by omega, rfl, by go_num, ?_, HF2.out.1, HRR.out.2.2.2.trans HF2.out.2⟩
          have := HST.out
          omega
        case measure => rw [HRR.out.1]; omega
      · have i1 : ¬ (i : Int) < (n : Int) := by omega
        clear hfl hb0 hi
        go_wp2_with fail
        go_end0
        exact ⟨rfl, ⟨s2, by have := HRR.out.2.1; omega, HRR.out.2.2.1⟩, HFW.out.trans HRR.out.2.2.2⟩
  · have e0 : (Sk.toList == [116, 111, 107, 101, 110]) = false := (kind_eq [110, 111, 110, 97, 115, 115, 111, 99] [116, 111, 107, 101, 110] hSk).trans (by decide)
    have e1 : (Sk.toList == [116, 121, 112, 101]) = false := (kind_eq [110, 111, 110, 97, 115, 115, 111, 99] [116, 121, 112, 101] hSk).trans (by decide)
    have e2 : (Sk.toList == [108, 101, 102, 116]) = false := (kind_eq [110, 111, 110, 97, 115, 115, 111, 99] [108, 101, 102, 116] hSk).trans (by decide)
    have e3 : (Sk.toList == [114, 105, 103, 104, 116]) = false := (kind_eq [110, 111, 110, 97, 115, 115, 111, 99] [114, 105, 103, 104, 116] hSk).trans (by decide)
    have e4 : (Sk.toList == [110, 111, 110, 97, 115, 115, 111, 99]) = true := (kind_eq [110, 111, 110, 97, 115, 115, 111, 99] [110, 111, 110, 97, 115, 115, 111, 99] hSk).trans (by decide)
    have hty : ty = [] := HWF.out.2.2.1 (by show [110, 111, 110, 97, 115, 115, 111, 99] ≠ [116, 121, 112, 101]; decide) (by show [110, 111, 110, 97, 115, 115, 111, 99] ≠ [116, 111, 107, 101, 110]; decide)
    have hC0 := HC0.out hty
    have hem := HEM.out hty
    clear hSk
    go_enter Tryz.func25, Tryz.ntmps25
    go_upto_region 1 with fail
    obtain ⟨W, hW⟩ : ∃ V, V = w.alloc (.cells #[.string Sk, .string St, .slice ao n c, .int .i64 v] 41) := ⟨_, rfl⟩
    rw [← hW]
    obtain ⟨hk5, hWs, hBW⟩ := four_new hW
    have HBOX : Hid (∀ ww, Fl b g W ww → ww.heap[w.heap.size]? = some (.cells #[.string Sk, .string St, .slice ao n c, .int .i64 v] 41 (0, 0))) := fun ww hf => (hf.block _ (by omega) (by have := HL.out.2.blt; omega) (by have := HL.out.2.glt; omega)).trans hk5
    have HB0 : Hid (∀ ww, Fl b g W ww → Below w0.heap.size w0 ww) := fun ww hf => (HL.out.1.trans (hBW.mono HL.out.1.size)).trans (hf.below (by omega) (by omega) (by have := HL.out.1.size; omega))
    have HFW : Hid (Fl b g w W) := Fl.of hBW
    have HLW : Hid (Lks 54 B b g s W) := HL.out.2.keep hBW
    clear hW hWs hBW
    obtain ⟨⟨t0, t1, t2, t3⟩, _⟩ := four_facts hk5
    clear t2 t3 hk5
    go_wp2_with fail
    refine (HM.out _).mono ?_
    rintro e w8 ⟨rfl, hw8⟩
    rw [hw8]
    clear hw8
    obtain ⟨w1, hw1⟩ : ∃ V, V = W := ⟨_, rfl⟩
    have HF1 : Hid (Lks 54 B b g (s + C) w1 ∧ Fl b g W w1) := by rw [hw1, hC0]; exact ⟨HLW.out, Fl.refl _ _ _⟩
    rw [← hw1]
    clear t0 t1 hw1
    obtain ⟨⟨t0, t1, t2, t3⟩, _⟩ := four_facts (HBOX.out w1 HF1.out.2)
    clear t0 t1 t3
    go_wp2_with fail
    refine (HM.out _).mono ?_
    rintro e w9 ⟨rfl, hw9⟩
    rw [hw9]
    clear hw9
    go_wp2_with fail
    go_loopg [38] n (fun gg v wr => ∃ i s', i ≤ n ∧ gg = n - i ∧ v = .int .i64 i ∧ s' + ((ns.drop i).map cN).sum ≤ s + (C + Tn) ∧ Lks 54 B b g s' wr ∧ Fl b g W wr)
    case atStart => exact ⟨0, _, by omega, rfl, rfl, by rw [List.drop_zero, HTT.out]; omega, HF1.out.1, HF1.out.2⟩
    case round =>
      obtain ⟨i, s2, hi, hgi, rfl, hsum, hlk, hfl⟩ := hrel
      have HRR := Lib.hid (And.intro hgi (And.intro hsum (And.intro hlk hfl)))
      have hb0 := HB0.out wr hfl
      clear hgi hsum hlk t2
      by_cases hlt : i < n
      · obtain ⟨x, hx⟩ : ∃ x, ns[i]? = some x := ⟨_, List.getElem?_eq_getElem (by have := HLEN.out; omega)⟩
        obtain ⟨ga, vs, rfl, hga, hwd, hca⟩ := HP.out.at_ i x hx
        have hcap := HP.out.cap (by omega)
        have hsd := sum_drop cN ns i x hx
        have hwd : vs = [.string (mkS x)] := hwd
        subst hwd
        have ka0 : wr.cell? ⟨ga, i, none⟩ = some (.string (mkS x)) := (hb0.cell (p := ⟨ga, i, none⟩) hga).trans (by have := hca 0 _ rfl; simpa using this)
        have hga' : ga < wr.heap.size := Nat.lt_of_lt_of_le hga hb0.size
        have hgx := HG.out x (List.mem_of_getElem? hx)
        have hsT : s2 + (cN x + ((ns.drop (i + 1)).map cN).sum) ≤ s + (C + Tn) := by rw [← hsd]; exact HRR.out.2.1
        have HST := Lib.hid hsT
        have HN := Lib.hid (name_yes x wr b g s2 B HRR.out.2.2.1 hgx (by have := HT.out; omega))
        obtain ⟨X, hX⟩ : ∃ S, mkS x = S := ⟨_, rfl⟩
        rw [hX] at ka0 HN
        have i1 : (i : Int) < (n : Int) := by omega
        have i0 : (0 : Int) ≤ (i : Int) := by omega
        clear hca hx hsd hgx hsT hX hb0 hfl hga
        go_wp2_with fail
        refine HN.out.mono ?_
        rintro e w2 ⟨rfl, hk2, hf2⟩
        have HF2 := Lib.hid (And.intro hk2 hf2)
        clear hk2 hf2 ka0
        go_wp2_with fail
        go_roundg (n - (i + 1))
        case rel =>
          refine ⟨i + 1, _, by omega, rfl, by go_num, ?_, HF2.out.1, HRR.out.2.2.2.trans HF2.out.2⟩
          have := HST.out
          omega
        case measure => rw [HRR.out.1]; omega
      · have i1 : ¬ (i : Int) < (n : Int) := by omega
        clear hfl hb0 hi
        go_wp2_with fail
        go_end0
        exact ⟨rfl, ⟨s2, by have := HRR.out.2.1; omega, HRR.out.2.2.1⟩, HFW.out.trans HRR.out.2.2.2⟩
  · have e0 : (Sk.toList == [116, 111, 107, 101, 110]) = false := (kind_eq [115, 116, 97, 114, 116] [116, 111, 107, 101, 110] hSk).trans (by decide)
    have e1 : (Sk.toList == [116, 121, 112, 101]) = false := (kind_eq [115, 116, 97, 114, 116] [116, 121, 112, 101] hSk).trans (by decide)
    have e2 : (Sk.toList == [108, 101, 102, 116]) = false := (kind_eq [115, 116, 97, 114, 116] [108, 101, 102, 116] hSk).trans (by decide)
    have e3 : (Sk.toList == [114, 105, 103, 104, 116]) = false := (kind_eq [115, 116, 97, 114, 116] [114, 105, 103, 104, 116] hSk).trans (by decide)
    have e4 : (Sk.toList == [110, 111, 110, 97, 115, 115, 111, 99]) = false := (kind_eq [115, 116, 97, 114, 116] [110, 111, 110, 97, 115, 115, 111, 99] hSk).trans (by decide)
    have e5 : (Sk.toList == [115, 116, 97, 114, 116]) = true := (kind_eq [115, 116, 97, 114, 116] [115, 116, 97, 114, 116] hSk).trans (by decide)
    have hty : ty = [] := HWF.out.2.2.1 (by show [115, 116, 97, 114, 116] ≠ [116, 121, 112, 101]; decide) (by show [115, 116, 97, 114, 116] ≠ [116, 111, 107, 101, 110]; decide)
    have hC0 := HC0.out hty
    have hem := HEM.out hty
    clear hSk
    go_enter Tryz.func25, Tryz.ntmps25
    go_upto_region 1 with fail
    obtain ⟨W, hW⟩ : ∃ V, V = w.alloc (.cells #[.string Sk, .string St, .slice ao n c, .int .i64 v] 41) := ⟨_, rfl⟩
    rw [← hW]
    obtain ⟨hk5, hWs, hBW⟩ := four_new hW
    have HBOX : Hid (∀ ww, Fl b g W ww → ww.heap[w.heap.size]? = some (.cells #[.string Sk, .string St, .slice ao n c, .int .i64 v] 41 (0, 0))) := fun ww hf => (hf.block _ (by omega) (by have := HL.out.2.blt; omega) (by have := HL.out.2.glt; omega)).trans hk5
    have HB0 : Hid (∀ ww, Fl b g W ww → Below w0.heap.size w0 ww) := fun ww hf => (HL.out.1.trans (hBW.mono HL.out.1.size)).trans (hf.below (by omega) (by omega) (by have := HL.out.1.size; omega))
    have HFW : Hid (Fl b g w W) := Fl.of hBW
    have HLW : Hid (Lks 54 B b g s W) := HL.out.2.keep hBW
    clear hW hWs hBW
    obtain ⟨⟨t0, t1, t2, t3⟩, _⟩ := four_facts hk5
    clear t2 t3 hk5
    go_wp2_with fail
    refine (HM.out _).mono ?_
    rintro e w8 ⟨rfl, hw8⟩
    rw [hw8]
    clear hw8
    obtain ⟨w1, hw1⟩ : ∃ V, V = W := ⟨_, rfl⟩
    have HF1 : Hid (Lks 54 B b g (s + C) w1 ∧ Fl b g W w1) := by rw [hw1, hC0]; exact ⟨HLW.out, Fl.refl _ _ _⟩
    rw [← hw1]
    clear t0 t1 hw1
    obtain ⟨⟨t0, t1, t2, t3⟩, _⟩ := four_facts (HBOX.out w1 HF1.out.2)
    clear t0 t1 t3
    go_wp2_with fail
    refine (HM.out _).mono ?_
    rintro e w9 ⟨rfl, hw9⟩
    rw [hw9]
    clear hw9
    go_wp2_with fail
    go_loopg [38] n (fun gg v wr => ∃ i s', i ≤ n ∧ gg = n - i ∧ v = .int .i64 i ∧ s' + ((ns.drop i).map cN).sum ≤ s + (C + Tn) ∧ Lks 54 B b g s' wr ∧ Fl b g W wr)
    case atStart => exact ⟨0, _, by omega, rfl, rfl, by rw [List.drop_zero, HTT.out]; omega, HF1.out.1, HF1.out.2⟩
    case round =>
      obtain ⟨i, s2, hi, hgi, rfl, hsum, hlk, hfl⟩ := hrel
      have HRR := Lib.hid (And.intro hgi (And.intro hsum (And.intro hlk hfl)))
      have hb0 := HB0.out wr hfl
      clear hgi hsum hlk t2
      by_cases hlt : i < n
      · obtain ⟨x, hx⟩ : ∃ x, ns[i]? = some x := ⟨_, List.getElem?_eq_getElem (by have := HLEN.out; omega)⟩
        obtain ⟨ga, vs, rfl, hga, hwd, hca⟩ := HP.out.at_ i x hx
        have hcap := HP.out.cap (by omega)
        have hsd := sum_drop cN ns i x hx
        have hwd : vs = [.string (mkS x)] := hwd
        subst hwd
        have ka0 : wr.cell? ⟨ga, i, none⟩ = some (.string (mkS x)) := (hb0.cell (p := ⟨ga, i, none⟩) hga).trans (by have := hca 0 _ rfl; simpa using this)
        have hga' : ga < wr.heap.size := Nat.lt_of_lt_of_le hga hb0.size
        have hgx := HG.out x (List.mem_of_getElem? hx)
        have hsT : s2 + (cN x + ((ns.drop (i + 1)).map cN).sum) ≤ s + (C + Tn) := by rw [← hsd]; exact HRR.out.2.1
        have HST := Lib.hid hsT
        have HN := Lib.hid (name_yes x wr b g s2 B HRR.out.2.2.1 hgx (by have := HT.out; omega))
        obtain ⟨X, hX⟩ : ∃ S, mkS x = S := ⟨_, rfl⟩
        rw [hX] at ka0 HN
        have i1 : (i : Int) < (n : Int) := by omega
        have i0 : (0 : Int) ≤ (i : Int) := by omega
        clear hca hx hsd hgx hsT hX hb0 hfl hga
        go_wp2_with fail
        refine HN.out.mono ?_
        rintro e w2 ⟨rfl, hk2, hf2⟩
        have HF2 := Lib.hid (And.intro hk2 hf2)
        clear hk2 hf2 ka0
        go_wp2_with fail
        go_roundg (n - (i + 1))
        case rel =>
          refine ⟨i + 1, _, by omega, rfl, by go_num, ?_, HF2.out.1, HRR.out.2.2.2.trans HF2.out.2⟩
          have := HST.out
          omega
        case measure => rw [HRR.out.1]; omega
      · have i1 : ¬ (i : Int) < (n : Int) := by omega
        clear hfl hb0 hi
        go_wp2_with fail
        go_end0
        exact ⟨rfl, ⟨s2, by have := HRR.out.2.1; omega, HRR.out.2.2.1⟩, HFW.out.trans HRR.out.2.2.2⟩
end Go.Proofs.YtngimijiafnheaaGreat
set_option linter.unusedSimpArgs false
namespace Go.Proofs.YtngimijiafnheaaGreat
open Go.Instr Go.RowKit LexT
set_option linter.unusedVariables false
set_option maxHeartbeats 8000000 in
theorem ltext_yes (w0 : World) (B b g : Nat) (hB : w0.heap.size ≤ B) (m : Int) (hm : w0.cell? ⟨0, 0, none⟩ = some (.int .i64 m)) (x : Tx) (vs : List Value) (ha : TxAt w0 x vs) (hwf : wfT x) (hg : GoodV (txV x)) (w : World) (s : Nat) (hb : Below w0.heap.size w0 w) (hl : Lks 54 B b g s w) (hs : s + cT x ≤ 2147483647) :
    Calls Tryz.prog 15 #[.pointer (some ⟨b, 0, none⟩), .agg vs.toArray] w fun e w' => e = .returned (.tuple #[]) ∧ (∃ s', s' ≤ s + cT x ∧ Lks 54 B b g s' w') ∧ Fl b g w w' := by
  obtain ⟨ds, rs⟩ := x
  obtain ⟨ao, n, c, bo, mm, d, rfl, hp, hr⟩ := ha
  obtain ⟨g1, g2⟩ := good_text hg
  have hblt := hl.blt
  have hglt := hl.glt
  have hlob := hl.lob
  have hlog := hl.log
  dsimp only at hp hr g1 g2
  have hcr : cT ⟨ds, rs⟩ = (ds.map cD).sum + (rs.map cR).sum := rfl
  rw [hcr] at hs ⊢
  obtain ⟨Tp, hTp⟩ : ∃ T, (ds.map cD).sum = T := ⟨_, rfl⟩
  obtain ⟨Ta, hTa⟩ : ∃ T, (rs.map cR).sum = T := ⟨_, rfl⟩
  rw [hTp, hTa] at hs ⊢
  have HTT := Lib.hid (And.intro hTp hTa)
  have hn := hp.len
  have hns := hp.small
  have hm1 := hr.len
  have hms := hr.small
  unfold maxLen at hns hms
  have HLEN := Lib.hid (And.intro hn hm1)
  have HP := Lib.hid hp
  have HR := Lib.hid hr
  have HT := Lib.hid hs
  have HL := Lib.hid (And.intro hb hl)
  have HAD := Lib.hid (fun d hd vs hat hg ww s2 hbb hk hs => ldecl_yes w0 B b g hB d vs hat (hwf.1 d hd) hg ww s2 hbb hk hs)
  have HAR := Lib.hid (fun r hd vs hat hg ww s2 hbb hk hs => lrule_yes w0 B b g hB m hm r vs hat (hwf.2 r hd) hg ww s2 hbb hk hs)
  have HG := Lib.hid (And.intro g1 g2)
  clear hwf hg hp hr g1 g2 hs hb hl hcr hm hTp hTa hn hm1
  go_enter Tryz.func15, Tryz.ntmps15
  go_upto_region 1 with fail
  obtain ⟨W, hW⟩ : ∃ V, V = w.alloc (.cells #[.slice ao n c, .slice bo mm d] 25) := ⟨_, rfl⟩
  rw [← hW]
  obtain ⟨hk5, hWs, hBW⟩ := two_new hW
  have HBOX : Hid (∀ ww, Fl b g W ww → ww.heap[w.heap.size]? = some (.cells #[.slice ao n c, .slice bo mm d] 25 (0, 0))) := fun ww hf => (hf.block _ (by omega) (by have := HL.out.2.blt; omega) (by have := HL.out.2.glt; omega)).trans hk5
  have HB0 : Hid (∀ ww, Fl b g W ww → Below w0.heap.size w0 ww) := fun ww hf => (HL.out.1.trans (hBW.mono HL.out.1.size)).trans (hf.below (by omega) (by omega) (by have := HL.out.1.size; omega))
  have HFW : Hid (Fl b g w W) := Fl.of hBW
  have HLW : Hid (Lks 54 B b g s W) := HL.out.2.keep hBW
  clear hW hWs hBW
  obtain ⟨⟨t0, t1⟩, _⟩ := two_facts hk5
  clear t1 hk5
  go_wp2_with fail
  go_loopg [11] n (fun gg v wr => ∃ i s', i ≤ n ∧ gg = n - i ∧ v = .int .i64 i ∧ s' + ((ds.drop i).map cD).sum ≤ s + Tp ∧ Lks 54 B b g s' wr ∧ Fl b g W wr)
  case atStart => exact ⟨0, _, by omega, rfl, rfl, by rw [List.drop_zero, HTT.out.1]; exact Nat.le_refl _, HLW.out, Fl.refl _ _ _⟩
  case round =>
    obtain ⟨i, s2, hi, hgi, rfl, hsum, hlk, hfl⟩ := hrel
    have HRR := Lib.hid (And.intro hgi (And.intro hsum (And.intro hlk hfl)))
    have hb0 := HB0.out wr hfl
    have hbl2 := hlk.blt
    have hgl2 := hlk.glt
    clear hgi hsum hlk t0
    by_cases hlt : i < n
    · obtain ⟨x, hx⟩ : ∃ x, ds[i]? = some x := ⟨_, List.getElem?_eq_getElem (by have := HLEN.out.1; omega)⟩
      obtain ⟨ga, vs, rfl, hga, hwd, hca⟩ := HP.out.at_ i x hx
      have hcap := HP.out.cap (by omega)
      have hsd := sum_drop cD ds i x hx
      have hmem := List.mem_of_getElem? hx
      have hwd0 := hwd
      obtain ⟨ao2, n2, c2, v2, hvs, _⟩ := hwd
      have hsT : s2 + (cD x + ((ds.drop (i + 1)).map cD).sum) ≤ s + Tp := by rw [← hsd]; exact HRR.out.2.1
      have HST := Lib.hid hsT
      have HCL := Lib.hid (fun ww hbb hk => HAD.out x hmem vs hwd0 (HG.out.1 x hmem) ww s2 hbb hk (by have := HT.out; omega))
      subst hvs
      obtain ⟨Sp, hSp⟩ : ∃ S, mkS x.kind = S := ⟨_, rfl⟩
      obtain ⟨Sa, hSa⟩ : ∃ S, mkS x.type = S := ⟨_, rfl⟩
      rw [hSp, hSa] at hca HCL
      have hcells : ∀ k u, [Value.string Sp, .string Sa, .slice ao2 n2 c2, .int .i64 v2][k]? = some u → wr.cell? ⟨ga, i * 4 + k, none⟩ = some u := fun k u hu => (hb0.cell (p := ⟨ga, i * 4 + k, none⟩) hga).trans (hca k u hu)
      have z0 : wr.cell? ⟨ga, i * 4, none⟩ = some (.string Sp) := by have := hcells 0 _ rfl; simpa using this
      have z1 := hcells 1 _ rfl
      have z2 := hcells 2 _ rfl
      have z3 := hcells 3 _ rfl
      have hga' : ga < wr.heap.size := Nat.lt_of_lt_of_le hga hb0.size
      have i1 : (i : Int) < (n : Int) := by omega
      have i0 : (0 : Int) ≤ (i : Int) := by omega
      clear hca hx hsd hsT hcells hSp hSa hfl hga hwd0 hmem
      go_upto_region 4 with fail
      obtain ⟨W2, hW2⟩ : ∃ V, V = wr.alloc (.cells #[.string Sp, .string Sa, .slice ao2 n2 c2, .int .i64 v2] 41) := ⟨_, rfl⟩
      rw [← hW2]
      obtain ⟨hk6, hWs6, hBW6⟩ := four_new hW2
      obtain ⟨⟨y0, y1, y2, y3⟩, _⟩ := four_facts hk6
      have HF3 : Hid (Fl b g W W2) := HRR.out.2.2.2.trans (Fl.of hBW6)
      have HCC := Lib.hid (HCL.out W2 (HB0.out W2 HF3.out) (HRR.out.2.2.1.keep hBW6))
      clear hW2 hk6 hWs6 hBW6 z0 z1 z2 z3 hb0
      go_wp2_with fail
      refine HCC.out.mono ?_
      rintro e w4 ⟨rfl, ⟨s4, hs4, hk4⟩, hf4⟩
      have HF4 := Lib.hid (And.intro hs4 (And.intro hk4 (HF3.out.trans hf4)))
      clear hs4 hk4 hf4 y0 y1 y2 y3
      go_wp2_with fail
      go_roundg (n - (i + 1))
      case rel =>
        refine ⟨i + 1, s4, by omega, rfl, by go_num, ?_, HF4.out.2.1, HF4.out.2.2⟩
        have h1 := HST.out
        have h2 := HF4.out.1
        omega
      case measure => rw [HRR.out.1]; omega
    · have i1 : ¬ (i : Int) < (n : Int) := by omega
      obtain ⟨⟨t0, t1⟩, _⟩ := two_facts (HBOX.out wr hfl)
      clear hfl t0 hb0 hi
      obtain ⟨wq, rfl⟩ : ∃ V, V = wr := ⟨_, rfl⟩
      go_wp2_with fail
      go_loopg [22] mm (fun gg v wr => ∃ j s', j ≤ mm ∧ gg = mm - j ∧ v = .int .i64 j ∧ s' + ((rs.drop j).map cR).sum ≤ s + Tp + Ta ∧ Lks 54 B b g s' wr ∧ Fl b g W wr)
      case atStart => exact ⟨0, s2, by omega, rfl, rfl, by have := HRR.out.2.1; rw [List.drop_zero, HTT.out.2]; omega, HRR.out.2.2.1, HRR.out.2.2.2⟩
      case round =>
        obtain ⟨j, s3, hj, hgj, rfl, hsum, hlk, hfl⟩ := hrel
        have HR2 := Lib.hid (And.intro hgj (And.intro hsum (And.intro hlk hfl)))
        have hb0 := HB0.out wr hfl
        have hbl3 := hlk.blt
        have hgl3 := hlk.glt
        clear hgj hsum hlk t1
        by_cases hlt2 : j < mm
        · obtain ⟨x, hx⟩ : ∃ x, rs[j]? = some x := ⟨_, List.getElem?_eq_getElem (by have := HLEN.out.2; omega)⟩
          obtain ⟨ga, vs, rfl, hga, hwd, hca⟩ := HR.out.at_ j x hx
          have hcap := HR.out.cap (by omega)
          have hsd := sum_drop cR rs j x hx
          have hmem := List.mem_of_getElem? hx
          have hwd0 := hwd
          obtain ⟨ao2, n2, c2, bo2, m2, d2, v2, hvs, _⟩ := hwd
          have hsT : s3 + (cR x + ((rs.drop (j + 1)).map cR).sum) ≤ s + Tp + Ta := by rw [← hsd]; exact HR2.out.2.1
          have HST := Lib.hid hsT
          have HCL := Lib.hid (fun ww hbb hk => HAR.out x hmem vs hwd0 (HG.out.2 x hmem) ww s3 hbb hk (by have := HT.out; omega))
          subst hvs
          obtain ⟨Sp, hSp⟩ : ∃ S, mkS x.name = S := ⟨_, rfl⟩
          rw [hSp] at hca HCL
          have hcells : ∀ k u, [Value.string Sp, .slice ao2 n2 c2, .slice bo2 m2 d2, .int .i64 v2][k]? = some u → wr.cell? ⟨ga, j * 4 + k, none⟩ = some u := fun k u hu => (hb0.cell (p := ⟨ga, j * 4 + k, none⟩) hga).trans (hca k u hu)
          have z0 : wr.cell? ⟨ga, j * 4, none⟩ = some (.string Sp) := by have := hcells 0 _ rfl; simpa using this
          have z1 := hcells 1 _ rfl
          have z2 := hcells 2 _ rfl
          have z3 := hcells 3 _ rfl
          have hga' : ga < wr.heap.size := Nat.lt_of_lt_of_le hga hb0.size
          have i1 : (j : Int) < (mm : Int) := by omega
          have i0 : (0 : Int) ≤ (j : Int) := by omega
          clear hca hx hsd hsT hcells hSp hfl hga hwd0 hmem
          go_upto_region 9 with fail
          obtain ⟨W2, hW2⟩ : ∃ V, V = wr.alloc (.cells #[.string Sp, .slice ao2 n2 c2, .slice bo2 m2 d2, .int .i64 v2] 44) := ⟨_, rfl⟩
          rw [← hW2]
          obtain ⟨hk6, hWs6, hBW6⟩ := four_new hW2
          obtain ⟨⟨y0, y1, y2, y3⟩, _⟩ := four_facts hk6
          have HF3 : Hid (Fl b g W W2) := HR2.out.2.2.2.trans (Fl.of hBW6)
          have HCC := Lib.hid (HCL.out W2 (HB0.out W2 HF3.out) (HR2.out.2.2.1.keep hBW6))
          clear hW2 hk6 hWs6 hBW6 z0 z1 z2 z3 hb0
          go_wp2_with fail
          refine HCC.out.mono ?_
          rintro e w4 ⟨rfl, ⟨s4, hs4, hk4⟩, hf4⟩
          have HF4 := Lib.hid (And.intro hs4 (And.intro hk4 (HF3.out.trans hf4)))
          clear hs4 hk4 hf4 y0 y1 y2 y3
          go_wp2_with fail
          go_roundg (mm - (j + 1))
          case rel =>
            refine ⟨j + 1, s4, by omega, rfl, by go_num, ?_, HF4.out.2.1, HF4.out.2.2⟩
            have h1 := HST.out
            have h2 := HF4.out.1
            omega
          case measure => rw [HR2.out.1]; omega
        · have i1 : ¬ (j : Int) < (mm : Int) := by omega
          clear hfl
          go_wp2_with fail
          go_end0
          exact ⟨rfl, ⟨s3, by have := HR2.out.2.1; omega, HR2.out.2.2.1⟩, HFW.out.trans HR2.out.2.2.2⟩
end Go.Proofs.YtngimijiafnheaaGreat
