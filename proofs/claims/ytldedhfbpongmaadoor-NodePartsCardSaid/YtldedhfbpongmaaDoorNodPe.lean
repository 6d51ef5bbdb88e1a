/- The trees that NodeParts knows: the given one, a copy with its places moved, both without places. -/
/- NodeParts: a tree with one kid alone, with two kids changed about, with one kid left out, in memory. -/
import Derived.Test.YtldedhfbpongmaaDoorNodPd
import Derived.Deep.MidRow
import Derived.Deep.Upon
set_option maxRecDepth 100000
namespace Go.Proofs.YtldedhfbpongmaaDoor
open Go.Instr Go.RowKit NodT
set_option linter.unusedVariables false
/-- Pick: x as a number from nought to below n. -/
theorem Pick_any (x n : Int) (w : World) (hx : -9223372036854775808 ≤ x ∧ x ≤ 9223372036854775807) (hn : 1 ≤ n ∧ n ≤ 9223372036854775807) : Calls Tryd.prog 8 #[.int .i64 x, .int .i64 n] w fun e w' => e = .returned (.int .i64 (x % n)) ∧ Below w.heap.size w w' := by
  have n0 : ¬ n < 1 := by omega
  have e1 : x.tmod n = if x % n = 0 then 0 else if x < 0 then x % n - n else x % n := by
    have h1 := Int.tmod_eq_emod (a := x) (b := n)
    rw [h1]
    have h2 : n ∣ x ↔ x % n = 0 := Int.dvd_iff_emod_eq_zero
    have h3 : (n.natAbs : Int) = n := by omega
    simp only [h2]
    split
    · rename_i hh
      rcases hh with hh | hh
      · rw [if_neg (c := x < 0) (by omega)]
        split <;> omega
      · rw [if_pos hh]; omega
    · rename_i hh
      rw [if_neg (by omega), if_pos (by omega)]
      omega
  have b1 := Int.emod_nonneg x (show n ≠ 0 by omega)
  have b2 := Int.emod_lt_of_pos x (show 0 < n by omega)
  generalize hm : x % n = m at e1 b1 b2 ⊢
  have e2 : x.tmod n = m ∨ (x.tmod n = m - n ∧ m - n < 0) := by
    rw [e1]
    split
    · left; omega
    · split
      · right; omega
      · left; rfl
  clear e1 hm
  rcases e2 with e2 | ⟨e2, e3⟩
  · have h0 : ¬ m < 0 := by omega
    go_enter Tryd.func8, Tryd.ntmps8
    go_wp2_with fail
    go_ret
    exact ⟨rfl, Below.refl _ _⟩
  · have h1 : m - n + n = m := by omega
    go_enter Tryd.func8, Tryd.ntmps8
    go_wp2_with fail
    go_ret
    exact ⟨by simp, Below.refl _ _⟩
end Go.Proofs.YtldedhfbpongmaaDoor
namespace NodT
open Go Go.RowKit
set_option linter.unusedVariables false
def TP (t u : Nd) (B0 B1 : Nat) : Nat → Nd → World → Prop
  | 0, x, w => x = t ∧ In w B0 t ∧ B0 ≤ w.heap.size
  | 1, x, w => x = u ∧ In w B1 u ∧ B1 ≤ w.heap.size
  | 2, x, w => same t x = true ∧ zero x = true ∧ In w w.heap.size x
  | 3, x, w => same u x = true ∧ zero x = true ∧ In w w.heap.size x
  | _, _, _ => False
theorem TP.mono (t u : Nd) (B0 B1 : Nat) : ∀ i x w w', TP t u B0 B1 i x w → Below w.heap.size w w' → TP t u B0 B1 i x w' := by
  intro i x w w' h hb
  match i, h with
  | 0, ⟨h1, h2, h3⟩ => exact ⟨h1, h2.under (hb.mono h3), Nat.le_trans h3 hb.size⟩
  | 1, ⟨h1, h2, h3⟩ => exact ⟨h1, h2.under (hb.mono h3), Nat.le_trans h3 hb.size⟩
  | 2, ⟨h1, h0, h2⟩ => exact ⟨h1, h0, (h2.under hb).more hb.size⟩
  | 3, ⟨h1, h0, h2⟩ => exact ⟨h1, h0, (h2.under hb).more hb.size⟩
theorem TP.in_ {t u : Nd} {B0 B1 i : Nat} {x : Nd} {w : World} (h : TP t u B0 B1 i x w) : In w w.heap.size x := by
  match i, h with
  | 0, ⟨h1, h2, h3⟩ => subst h1; exact h2.more h3
  | 1, ⟨h1, h2, h3⟩ => subst h1; exact h2.more h3
  | 2, ⟨h1, h0, h2⟩ => exact h2
  | 3, ⟨h1, h0, h2⟩ => exact h2
theorem gAll_one' {tn : TypeId} {base : Nat} {T : Nat → Nd → World → Prop} {s : Sg} {vs : List Value} {w : World} (h : gAll tn base T [s] vs w) : ∃ v, vs = [v] ∧ Dg tn base T s v w := by
  match vs, h with
  | [v], h => exact ⟨v, rfl, h.1⟩
theorem gAll_two' {tn : TypeId} {base : Nat} {T : Nat → Nd → World → Prop} {s s' : Sg} {vs : List Value} {w : World} (h : gAll tn base T [s, s'] vs w) : ∃ v v', vs = [v, v'] ∧ Dg tn base T s v w ∧ Dg tn base T s' v' w := by
  match vs, h with
  | [v, v'], h => exact ⟨v, v', rfl, h.1, h.2.1⟩
end NodT
namespace Go.Proofs.YtldedhfbpongmaaDoor
open Go.Instr Go.RowKit NodT
set_option linter.unusedVariables false
def pExt (rv : Bool) (f : FuncId) (shs : List Sg) : Option Sg :=
  if f = 9 then match shs with | [.nd 0, .nd 1] => some (.lit (.bool true)) | [.nd 1, .nd 0] => some (.lit (.bool true)) | _ => none
  else if f = 10 then match shs with | [.nd 0] => some (.num 0) | [.nd 1] => some (.num 0) | _ => none
  else if f = 12 then match shs with | [.nd 0] => some (.nd 2) | [.nd 1] => some (.nd 3) | _ => none
  else if f = 11 then match shs with | [.nd 2, .nd 3] => some (.lit (.bool true)) | _ => none
  else if f = 13 then match shs with | [.nd 0] => some (.lit (.bool rv)) | [.nd 1] => if rv then some (.lit (.bool true)) else none | [.nd 2] => if rv then some (.lit (.bool true)) else none | _ => none
  else none
theorem pExt_ok (t u : Nd) (B0 B1 base : Nat) (Inv : World → Prop) (hI : ∀ w, Inv w → OpsAt 0 w) (mt : many t ≤ 1000000) (hs : same t u = true) (hp : Ez.posP u = true) (h00 : ∃ w0 : World, In w0 B0 t ∧ B0 ≤ w0.heap.size) : GExtOK 25 base (TP t u B0 B1) Tryd.prog Inv (pExt (rightB t)) := by
  have mu : many u ≤ 1000000 := by rw [Ez.many_same hs]; exact mt
  have hs' := Ez.same_symm _ _ hs
  intro f shs s h
  unfold pExt at h
  split at h
  · rename_i hf
    subst hf
    refine ⟨enters_of Tryd.func9 (by kernel_rfl) rfl, fun vs w hd hi => ?_⟩
    split at h
    · injection h with h; subst h
      obtain ⟨v, v', rfl, ⟨x, rfl, hx⟩, ⟨y, rfl, hy⟩⟩ := gAll_two' hd
      have hx' := TP.in_ (t := t) (u := u) (B0 := B0) (B1 := B1) (i := 0) hx
      have hy' := TP.in_ (t := t) (u := u) (B0 := B0) (B1 := B1) (i := 1) hy
      obtain ⟨rfl, _, _⟩ := hx
      obtain ⟨rfl, _, _⟩ := hy
      refine (Same_any x y w _ hx' hy' (Nat.le_refl _) mt).mono ?_
      rintro e w' ⟨rfl, hb⟩
      exact ⟨_, rfl, by rw [hs]; rfl, hb⟩
    · injection h with h; subst h
      obtain ⟨v, v', rfl, ⟨x, rfl, hx⟩, ⟨y, rfl, hy⟩⟩ := gAll_two' hd
      have hx' := TP.in_ (t := t) (u := u) (B0 := B0) (B1 := B1) (i := 1) hx
      have hy' := TP.in_ (t := t) (u := u) (B0 := B0) (B1 := B1) (i := 0) hy
      obtain ⟨rfl, _, _⟩ := hx
      obtain ⟨rfl, _, _⟩ := hy
      refine (Same_any x y w _ hx' hy' (Nat.le_refl _) mu).mono ?_
      rintro e w' ⟨rfl, hb⟩
      exact ⟨_, rfl, by rw [hs']; rfl, hb⟩
    · cases h
  · split at h
    · rename_i hf
      subst hf
      refine ⟨enters_of Tryd.func10 (by kernel_rfl) rfl, fun vs w hd hi => ?_⟩
      split at h
      · injection h with h; subst h
        obtain ⟨v, rfl, x, rfl, hx⟩ := gAll_one' hd
        have hx' := TP.in_ (t := t) (u := u) (B0 := B0) (B1 := B1) (i := 0) hx
        have hx0 := hx
        obtain ⟨rfl, _, _⟩ := hx
        refine (Deep_any x w _ hx' (Nat.le_refl _) mt).mono ?_
        rintro e w' ⟨rfl, hb⟩
        refine ⟨_, rfl, ⟨⟨x, w, hx0⟩, ?_⟩, hb⟩
        rintro y w2 ⟨rfl, _, _⟩
        rfl
      · injection h with h; subst h
        obtain ⟨v, rfl, x, rfl, hx⟩ := gAll_one' hd
        have hx' := TP.in_ (t := t) (u := u) (B0 := B0) (B1 := B1) (i := 1) hx
        obtain ⟨rfl, _, _⟩ := hx
        refine (Deep_any x w _ hx' (Nat.le_refl _) mu).mono ?_
        rintro e w' ⟨rfl, hb⟩
        obtain ⟨w0, h1, h2⟩ := h00
        refine ⟨_, rfl, ⟨⟨t, w0, rfl, h1, h2⟩, ?_⟩, hb⟩
        rintro y w2 ⟨rfl, _, _⟩
        rw [Ez.deep_same hs]
      · cases h
    · split at h
      · rename_i hf
        subst hf
        refine ⟨enters_of Tryd.func12 (by kernel_rfl) rfl, fun vs w hd hi => ?_⟩
        split at h
        · injection h with h; subst h
          obtain ⟨v, rfl, x, rfl, hx⟩ := gAll_one' hd
          have hx' := TP.in_ (t := t) (u := u) (B0 := B0) (B1 := B1) (i := 0) hx
          obtain ⟨rfl, _, _⟩ := hx
          refine (Bare_any x w _ hx' (Nat.le_refl _) mt).mono ?_
          rintro e w' ⟨y, rfl, hy, hsm, hz, hb⟩
          exact ⟨_, rfl, ⟨y, rfl, hsm, hz, hy⟩, hb⟩
        · injection h with h; subst h
          obtain ⟨v, rfl, x, rfl, hx⟩ := gAll_one' hd
          have hx' := TP.in_ (t := t) (u := u) (B0 := B0) (B1 := B1) (i := 1) hx
          obtain ⟨rfl, _, _⟩ := hx
          refine (Bare_any x w _ hx' (Nat.le_refl _) mu).mono ?_
          rintro e w' ⟨y, rfl, hy, hsm, hz, hb⟩
          exact ⟨_, rfl, ⟨y, rfl, hsm, hz, hy⟩, hb⟩
        · cases h
      · split at h
        · rename_i hf
          subst hf
          refine ⟨enters_of Tryd.func11 (by kernel_rfl) rfl, fun vs w hd hi => ?_⟩
          split at h
          · injection h with h; subst h
            obtain ⟨v, v', rfl, ⟨x, rfl, hx⟩, ⟨y, rfl, hy⟩⟩ := gAll_two' hd
            have hx' := TP.in_ (t := t) (u := u) (B0 := B0) (B1 := B1) (i := 2) hx
            have hy' := TP.in_ (t := t) (u := u) (B0 := B0) (B1 := B1) (i := 3) hy
            obtain ⟨a1, a2, _⟩ := hx
            obtain ⟨b1, b2, _⟩ := hy
            have hlk : like x y = true := Ez.like_zero x y (Ez.same_trans (Ez.same_symm _ _ a1) (Ez.same_trans hs b1)) a2 b2
            refine (SameNode_any x y w _ hx' hy' (Nat.le_refl _)).mono ?_
            rintro e w' ⟨rfl, hb⟩
            exact ⟨_, rfl, by rw [hlk]; rfl, hb⟩
          · cases h
        · split at h
          · rename_i hf
            subst hf
            refine ⟨enters_of Tryd.func13 (by kernel_rfl) rfl, fun vs w hd hi => ?_⟩
            split at h
            · injection h with h; subst h
              obtain ⟨v, rfl, x, rfl, hx⟩ := gAll_one' hd
              have hx' := TP.in_ (t := t) (u := u) (B0 := B0) (B1 := B1) (i := 0) hx
              obtain ⟨rfl, _, _⟩ := hx
              refine (Right_any x w _ hx' (Nat.le_refl _) mt (hI w hi)).mono ?_
              rintro e w' ⟨rfl, hb⟩
              exact ⟨_, rfl, rfl, hb⟩
            · split at h
              · rename_i hrv
                injection h with h; subst h
                obtain ⟨v, rfl, x, rfl, hx⟩ := gAll_one' hd
                have hx' := TP.in_ (t := t) (u := u) (B0 := B0) (B1 := B1) (i := 1) hx
                obtain ⟨rfl, _, _⟩ := hx
                refine (Right_any x w _ hx' (Nat.le_refl _) mu (hI w hi)).mono ?_
                rintro e w' ⟨rfl, hb⟩
                exact ⟨_, rfl, by rw [Ez.right_same hrv hs hp]; rfl, hb⟩
              · cases h
            · split at h
              · rename_i hrv
                injection h with h; subst h
                obtain ⟨v, rfl, x, rfl, hx⟩ := gAll_one' hd
                have hx' := TP.in_ (t := t) (u := u) (B0 := B0) (B1 := B1) (i := 2) hx
                obtain ⟨a1, a2, _⟩ := hx
                have hmx : many x ≤ 1000000 := by rw [Ez.many_same a1]; exact mt
                refine (Right_any x w _ hx' (Nat.le_refl _) hmx (hI w hi)).mono ?_
                rintro e w' ⟨rfl, hb⟩
                exact ⟨_, rfl, by rw [Ez.right_same hrv a1 (Ez.pos_zero x a2)]; rfl, hb⟩
              · cases h
            · cases h
          · cases h
end Go.Proofs.YtldedhfbpongmaaDoor
namespace NodT
open Go Go.RowKit
set_option linter.unusedVariables false
theorem arr_cut {n m x : Nat} {A : Array Value} {L : List Value} (hs : A.size = n) (hL : L.length = n) (hmx : m ≤ x) (hx : x < n) (h : ∀ d, d < n → ¬ (m ≤ d ∧ d ≤ x) → A[d]? = L[d]?) :
    ∃ us : List Value, us.length = x + 1 - m ∧ (∀ d, m ≤ d → d ≤ x → us[d - m]? = A[d]?) ∧ A.toList = L.take m ++ us ++ L.drop (x + 1) := by
  have hs' : A.toList.length = n := by simpa using hs
  refine ⟨(A.toList.drop m).take (x + 1 - m), by simp [hs]; omega, fun d h1 h2 => ?_, ?_⟩
  · rw [List.getElem?_take_of_lt (by omega), List.getElem?_drop]
    simp [show m + (d - m) = d by omega]
  · refine List.ext_getElem? fun d => ?_
    by_cases hd : d < n
    · by_cases hdm : d < m
      · rw [List.append_assoc, List.getElem?_append_left (by simp; omega), List.getElem?_take_of_lt hdm, ← h d hd (by omega)]
        simp
      · by_cases hdx : d ≤ x
        · rw [List.append_assoc, List.getElem?_append_right (by simp; omega), List.getElem?_append_left (by simp [hs]; omega), List.getElem?_take_of_lt (by simp; omega), List.getElem?_drop]
          simp [show min m L.length = m by omega, show m + (d - m) = d by omega]
        · rw [List.getElem?_append_right (by simp [hs]; omega), List.getElem?_drop]
          have e : x + 1 + (d - (L.take m ++ (A.toList.drop m).take (x + 1 - m)).length) = d := by simp [hs]; omega
          rw [e, ← h d hd (by omega)]
          simp
    · rw [List.getElem?_eq_none (by omega), List.getElem?_eq_none (by simp [hs]; omega)]
theorem like_same : ∀ t x : Nd, like t x = true → same t x = true := by
  refine Nd.rose fun t ih x h => ?_
  obtain ⟨h1, h2, h3, h4, h5⟩ := like_parts h
  rw [same_eq]
  obtain ⟨hl, ha⟩ := (likeL_iff _ _).1 h5
  have : sameL t.kids x.kids = true := (sameL_iff _ _).2 ⟨hl, fun i a b hta hxb => ih a (List.mem_of_getElem? hta) b (ha i a b hta hxb)⟩
  simp [h1, h2, h3, this]
theorem pos_like : ∀ t x : Nd, like t x = true → Ez.posP t = true → Ez.posP x = true := by
  refine Nd.rose fun t ih x h hp => ?_
  obtain ⟨h1, h2, h3, h4, h5⟩ := like_parts h
  rw [Ez.posP_eq, Ez.posPL_all, Bool.and_eq_true, List.all_eq_true] at hp ⊢
  obtain ⟨hl, ha⟩ := (likeL_iff _ _).1 h5
  refine ⟨by rw [← h4]; exact hp.1, fun u hu => ?_⟩
  obtain ⟨i, hi⟩ := List.getElem?_of_mem hu
  have hit : i < t.kids.length := by have := (List.getElem?_eq_some_iff.1 hi).1; omega
  have hti := List.getElem?_eq_getElem hit
  exact ih _ (List.mem_of_getElem? hti) u (ha i _ u hti hi) (hp.2 _ (List.mem_of_getElem? hti))
theorem right_like {t x : Nd} (h : like t x = true) (hr : rightB t = true) : rightB x = true := Ez.right_same hr (like_same t x h) (pos_like t x h (Ez.right_pos hr))
/-- The tree with one of its kids alone. -/
def one (t u : Nd) (b o k : Nat) : Nd := .mk t.kind t.text t.num t.place (some ⟨b, o + k * 5, none⟩) (t.cap - k) [u]
theorem one_in {w : World} {B : Nat} {t u : Nd} {k b o : Nat} (h : In w B t) (hk : t.kids[k]? = some u) (ha : t.addr = some ⟨b, o, none⟩) : In w B (one t u b o k) := by
  have hl := (List.getElem?_eq_some_iff.1 hk).1
  have h1 := h.fits.len
  have h2 := h.fits.cap
  refine .mk _ ⟨h.fits.kind, h.fits.text, h.fits.num, h.fits.place, by show 1 ≤ t.cap - k; omega, by show t.cap - k ≤ maxLen; omega, fun h => by cases h⟩ ?_ ?_
  · intro _
    obtain ⟨b', o', ha', hb, hc⟩ := h.rows (by omega)
    rw [ha] at ha'
    obtain ⟨rfl, rfl⟩ : b = b' ∧ o = o' := by simpa using ha'
    refine ⟨b, o + k * 5, rfl, hb, fun i x hx j v hv => ?_⟩
    have hx' : [u][i]? = some x := hx
    match i, hx' with
    | 0, hx' =>
      obtain rfl : u = x := by simpa using hx'
      have := hc k u hk j v hv
      rw [show o + k * 5 + 0 * 5 + j = o + k * 5 + j by omega]
      exact this
  · intro i x hx
    have hx' : [u][i]? = some x := hx
    match i, hx' with
    | 0, hx' =>
      obtain rfl : u = x := by simpa using hx'
      exact h.kid hk
theorem right_one {t u : Nd} {b o k : Nat} (h : rightB t = true) (hu : u ∈ t.kids) : rightB (one t u b o k) = true :=
  Ez.right_kids h rfl rfl rfl rfl (fun x hx => by obtain rfl := List.mem_singleton.1 hx; exact hu) (Ez.manyL_one hu)
theorem many_one {t u : Nd} {b o k : Nat} (hu : u ∈ t.kids) : many (one t u b o k) ≤ many t := by
  rw [many_eq, many_eq]
  have := Ez.manyL_one hu
  show 1 + manyL [u] ≤ _
  omega
/-- Two kids changed about. -/
def about (x a b : Nd) (i k : Nat) : Nd := .mk x.kind x.text x.num x.place x.addr x.cap ((x.kids.set i b).set k a)
theorem own_about {w : World} {T : TypeId} {lo g i k : Nat} {x a b : Nd} (h : Own w T lo x) (hn : (blks x).Nodup) (hg : x.addr = some ⟨g, 0, none⟩) (hi : x.kids[i]? = some a) (hk : x.kids[k]? = some b) :
    Own (putN (putN w g (i * 5) b) g (k * 5) a) T lo (about x a b i k) := by
  have li := (List.getElem?_eq_some_iff.1 hi).1
  have lk := (List.getElem?_eq_some_iff.1 hk).1
  have hf := h.fits
  have hr := h.row
  rw [hg] at hr
  have hlen : ((x.kids.set i b).set k a).length = x.kids.length := by simp
  rw [blks_eq, hg] at hn
  obtain ⟨n1, n2, n3⟩ := List.nodup_append.1 hn
  have hgu : g ∉ blksL x.kids := fun e => n3 g (by simp) g e rfl
  refine .mk _ ⟨hf.kind, hf.text, hf.num, hf.place, by show ((x.kids.set i b).set k a).length ≤ x.cap; rw [hlen]; exact hf.len, hf.cap, fun e => by rw [show (about x a b i k).addr = x.addr from rfl, hg] at e; cases e⟩ ?_ ?_
  · show World.ownsRow _ lo T 5 (.slice x.addr ((x.kids.set i b).set k a).length x.cap) ((x.kids.set i b).set k a).length (cells ((x.kids.set i b).set k a))
    rw [hlen, hg]
    exact own_put (own_put hr li b) (by simpa using lk) a
  · intro u hu
    have hu' : u ∈ (x.kids.set i b).set k a := hu
    have hm := Ez.mem_swap x.kids i k a b hi hk u hu'
    refine (h.kid hm).keep fun c hc => ?_
    have hcg : c ≠ g := fun e => hgu (by rw [← e]; exact blksL_mem.2 ⟨u, hm, hc⟩)
    rw [putYtldedhfbpongmaaDoorheap _ _ _ _ _ hcg, putYtldedhfbpongmaaDoorheap _ _ _ _ _ hcg]
theorem right_about {t x a b : Nd} {i k : Nat} (h : rightB x = true) (hi : x.kids[i]? = some a) (hk : x.kids[k]? = some b) : rightB (about x a b i k) = true :=
  Ez.right_kids h rfl rfl rfl rfl (fun u hu => Ez.mem_swap x.kids i k a b hi hk u hu) (Nat.le_of_eq (Ez.manyL_swap x.kids i k a b hi hk))
theorem many_about {x a b : Nd} {i k : Nat} (hi : x.kids[i]? = some a) (hk : x.kids[k]? = some b) : many (about x a b i k) = many x := by
  rw [many_eq, many_eq]
  have := Ez.manyL_swap x.kids i k a b hi hk
  show 1 + manyL ((x.kids.set i b).set k a) = _
  omega
/-- One kid left out. -/
def less (x : Nd) (i : Nat) : Nd := .mk x.kind x.text x.num x.place x.addr x.cap (x.kids.take i ++ x.kids.drop (i + 1))
theorem less_length (x : Nd) (i : Nat) (hi : i < x.kids.length) : (less x i).kids.length = i + (x.kids.length - (i + 1)) := by
  show (x.kids.take i ++ x.kids.drop (i + 1)).length = _
  simp
  omega
theorem less_at (x : Nd) (i j : Nat) (hi : i < x.kids.length) : (less x i).kids[j]? = if j < i then x.kids[j]? else x.kids[j + 1]? := by
  show (x.kids.take i ++ x.kids.drop (i + 1))[j]? = _
  split
  · rw [List.getElem?_append_left (by simp; omega), List.getElem?_take_of_lt (by assumption)]
  · rw [List.getElem?_append_right (by simp; omega), List.getElem?_drop]
    congr 1
    simp
    omega
theorem drop_cells (ks : List Nd) (i : Nat) : (cells ks).drop (i * 5) = cells (ks.drop i) := by
  induction i generalizing ks with
  | zero => simp
  | succ i ih =>
    cases ks with
    | nil => simp [cells]
    | cons t ts =>
      rw [List.drop_succ_cons, ← ih ts]
      show (t.cs ++ cells ts).drop ((i + 1) * 5) = _
      rw [show (i + 1) * 5 = 5 + i * 5 by omega, ← List.drop_drop]
      rfl
theorem Own.isInB {w : World} {T : TypeId} {lo B : Nat} {x : Nd} (h : Own w T lo x) (hB : ∀ b ∈ blks x, b < B) : In w B x := by
  induction h with
  | mk x hf hr hk ih =>
    refine .mk x hf (fun h0 => ?_) fun i u hu => ih u (List.mem_of_getElem? hu) fun b hb => hB b (by rw [blks_eq]; exact List.mem_append_right _ (blksL_mem.2 ⟨u, List.mem_of_getElem? hu, hb⟩))
    obtain ⟨b, o, hA, hb, hc⟩ := lies_of_own hr h0
    exact ⟨b, o, hA, hB b (by rw [blks_eq, hA]; simp), hc⟩
theorem less_in {w : World} {T : TypeId} {lo g i B : Nat} {x : Nd} (h : Own w T lo x) (hn : (blks x).Nodup) (hB : ∀ b ∈ blks x, b < B) (hg : x.addr = some ⟨g, 0, none⟩) (hi : i < x.kids.length) :
    In (w.setCells g (i * 5) (cells (x.kids.drop (i + 1)))) B (less x i) := by
  have hgB : g < B := hB g (by rw [blks_eq, hg]; simp)
  have hf := h.fits
  rw [blks_eq, hg] at hn
  obtain ⟨n1, n2, n3⟩ := List.nodup_append.1 hn
  have hgu : g ∉ blksL x.kids := fun e => n3 g (by simp) g e rfl
  have hll := less_length x i hi
  obtain ⟨g', o, hA, hlt, hc⟩ := h.isIn.rows (by omega)
  rw [hg] at hA
  obtain ⟨rfl, rfl⟩ : g = g' ∧ 0 = o := by simpa using hA
  have hlen : (cells (x.kids.drop (i + 1))).length = (x.kids.length - (i + 1)) * 5 := by rw [cells_length, List.length_drop]
  have hthere : w.there g (i * 5) (cells (x.kids.drop (i + 1))).length := by
    intro j hj
    rw [hlen] at hj
    obtain ⟨y, hy⟩ : ∃ y, x.kids[i + j / 5]? = some y := ⟨_, List.getElem?_eq_getElem (by omega)⟩
    have hjm : j % 5 < y.cs.length := by show j % 5 < 5; omega
    have := hc (i + j / 5) y hy (j % 5) _ (List.getElem?_eq_getElem hjm)
    rw [show (0 : Nat) + (i + j / 5) * 5 + j % 5 = i * 5 + j by omega] at this
    refine ⟨by rw [this]; rfl, ?_⟩
    have hr := h.row
    rw [hg] at hr
    exact Go.Proofs.YtldedhfbpongmaaDoor.row_frozen hr _
  have hsame := World.rangeAt_setCells_same w g (i * 5) _ hthere
  refine .mk _ ⟨hf.kind, hf.text, hf.num, hf.place, by rw [hll]; show _ ≤ x.cap; have := hf.len; omega, hf.cap, fun e => by rw [show (less x i).addr = x.addr from rfl, hg] at e; cases e⟩ ?_ ?_
  · intro _
    refine ⟨g, 0, hg, hgB, fun j u hu jj v hv => ?_⟩
    have hjj : jj < 5 := by have := (List.getElem?_eq_some_iff.1 hv).1; simpa [Nd.cs] using this
    rw [less_at x i j hi] at hu
    split at hu
    · rename_i hji
      have h0 := hc j u hu
      have hr : w.rangeAt g (j * 5) u.cs := fun q v hv => by have := h0 q v hv; rw [Nat.zero_add] at this; exact this
      have := World.rangeAt_setCells_apart hr g (i * 5) (cells (x.kids.drop (i + 1))) (.inr (.inl (by show j * 5 + 5 ≤ i * 5; omega))) jj v hv
      rw [Nat.zero_add]
      exact this
    · rename_i hji
      have hd : (x.kids.drop (i + 1))[j - i]? = some u := by rw [List.getElem?_drop, show i + 1 + (j - i) = j + 1 by omega]; exact hu
      have := hsame ((j - i) * 5 + jj) v (cells_at _ _ _ u v hd hv)
      rw [show i * 5 + ((j - i) * 5 + jj) = 0 + j * 5 + jj by omega] at this
      exact this
  · intro j u hu
    have hm := Ez.mem_less x.kids i u (List.mem_of_getElem? hu)
    have hkeep : Own (w.setCells g (i * 5) (cells (x.kids.drop (i + 1)))) T lo u := (h.kid hm).keep fun c hcb => by
      have hcg : c ≠ g := fun e => hgu (by rw [← e]; exact blksL_mem.2 ⟨u, hm, hcb⟩)
      exact World.heap_setCells_other _ _ _ _ ((h.kid hm).lt c hcb).2 hcg
    exact hkeep.isInB fun c hcb => hB c (by rw [blks_eq]; exact List.mem_append_right _ (blksL_mem.2 ⟨u, hm, hcb⟩))
theorem Moves.setCells {S : List Nat} {g : Nat} (hg : g ∈ S) : ∀ (vs : List Value) (o : Nat) {a b : World}, Moves S a b → Moves S a (b.setCells g o vs) := by
  intro vs
  induction vs with
  | nil => intro o a b h; exact h
  | cons v vs ih => intro o a b h; exact ih _ (h.setCell (.inl hg) v)
theorem spare_of_own {w : World} {T : TypeId} {lo g i : Nat} {x : Nd} (h : Own w T lo x) (hg : x.addr = some ⟨g, 0, none⟩) (hi : i < x.kids.length) :
    (∀ (j : Nat) (v : Value), (cells (x.kids.drop (i + 1)))[j]? = some v → w.cell? ((⟨g, (i + 1) * 5, none⟩ : Addr).add j) = some v) ∧ (∀ j, j < (cells (x.kids.drop (i + 1))).length → (w.cell? ⟨g, 0 + i * 5 + j, none⟩).isSome = true ∧ w.frozen? ⟨g, 0 + i * 5 + j, none⟩ = false) := by
  obtain ⟨g', o, hA, hlt, hc⟩ := h.isIn.rows (by omega)
  rw [hg] at hA
  obtain ⟨rfl, rfl⟩ : g = g' ∧ 0 = o := by simpa using hA
  have hlen : (cells (x.kids.drop (i + 1))).length = (x.kids.length - (i + 1)) * 5 := by rw [cells_length, List.length_drop]
  refine ⟨fun j v hv => ?_, fun j hj => ?_⟩
  · have hj : j < (x.kids.length - (i + 1)) * 5 := by rw [← hlen]; exact (List.getElem?_eq_some_iff.1 hv).1
    obtain ⟨y, hy⟩ : ∃ y, x.kids[i + 1 + j / 5]? = some y := ⟨_, List.getElem?_eq_getElem (by omega)⟩
    have hjm : j % 5 < y.cs.length := by show j % 5 < 5; omega
    have h1 := hc (i + 1 + j / 5) y hy (j % 5) _ (List.getElem?_eq_getElem hjm)
    have h2 := cells_at (x.kids.drop (i + 1)) (j / 5) (j % 5) y _ (by rw [List.getElem?_drop]; exact hy) (List.getElem?_eq_getElem hjm)
    rw [show j / 5 * 5 + j % 5 = j by omega, hv] at h2
    rw [Addr.add_mid, show (i + 1) * 5 + j = 0 + (i + 1 + j / 5) * 5 + j % 5 by omega, h1]
    exact h2.symm
  · rw [hlen] at hj
    obtain ⟨y, hy⟩ : ∃ y, x.kids[i + j / 5]? = some y := ⟨_, List.getElem?_eq_getElem (by omega)⟩
    have hjm : j % 5 < y.cs.length := by show j % 5 < 5; omega
    have h1 := hc (i + j / 5) y hy (j % 5) _ (List.getElem?_eq_getElem hjm)
    rw [show (0 : Nat) + (i + j / 5) * 5 + j % 5 = 0 + i * 5 + j by omega] at h1
    refine ⟨by rw [h1]; rfl, ?_⟩
    have hr := h.row
    rw [hg] at hr
    exact Go.Proofs.YtldedhfbpongmaaDoor.row_frozen hr _
/-- A tree in a box. -/
structure Bx (tn : TypeId) (h : Nat) (M : Nd) (w : World) : Prop where
  blk : w.heap[h]? = some (.cells M.cs.toArray tn)
  in_ : In w w.heap.size M
theorem Bx.later {tn : TypeId} {h : Nat} {M : Nd} {w w2 : World} (k : Bx tn h M w) (hb : Below w.heap.size w w2) : Bx tn h M w2 := ⟨(hb.block _ (lt_of_heap k.blk)).trans k.blk, (k.in_.under hb).more hb.size⟩
theorem own_drew {w : World} {T : TypeId} {lo : Nat} {x : Nd} (h : Own w T lo x) : Own w.drew T lo x := h.keep fun _ _ => rfl
theorem moves_drew {S : List Nat} {a b : World} (h : Moves S a b) : Moves S a b.drew := ⟨h.os, h.tape, h.output, h.size, h.block⟩
/-- What lies behind the left-out kid, moved down, and the row's new length in its box. -/
theorem less_box {w : World} {T : TypeId} {lo g i h : Nat} {x : Nd} (ho : Own w T lo x) (hn : (blks x).Nodup) (hg : x.addr = some ⟨g, 0, none⟩) (hi : i < x.kids.length) (hB : ∀ b ∈ blks x, b < h) (hh : w.heap[h]? = some (.cells x.cs.toArray T)) :
    Bx T h (less x i) ((w.setCells g (0 + i * 5) (cells (x.kids.drop (i + 1)))).setCell ⟨h, 4, none⟩ (.slice (some ⟨g, 0, none⟩) (i + (x.kids.length - (i + 1))) x.cap)) := by
  rw [Nat.zero_add]
  have hgh : h ≠ g := fun e => by have := hB g (by rw [blks_eq, hg]; simp); omega
  have h1 : (w.setCells g (i * 5) (cells (x.kids.drop (i + 1)))).heap[h]? = some (.cells x.cs.toArray T) := (World.heap_setCells_other _ _ _ _ (lt_of_heap hh) hgh).trans hh
  have h2 := less_in ho hn hB hg hi
  have hlt := lt_of_heap h1
  refine ⟨?_, ((h2.setCell (Nat.le_refl _) _).more ?_)⟩
  · rw [heap_setCell_same _ h 4 _ T _ h1]
    congr 2
    show #[_, _, _, _, _] = #[_, _, _, _, _]
    rw [← less_length x i hi, ← hg]
    rfl
  · rw [show ((w.setCells g (i * 5) (cells (x.kids.drop (i + 1)))).setCell ⟨h, 4, none⟩ (.slice (some ⟨g, 0, none⟩) (i + (x.kids.length - (i + 1))) x.cap)).heap.size = (w.setCells g (i * 5) (cells (x.kids.drop (i + 1)))).heap.size from by simp [World.setCell]]
    omega
theorem right_less {x : Nd} {i : Nat} (h : rightB x = true) : rightB (less x i) = true :=
  Ez.right_kids h rfl rfl rfl rfl (fun u hu => Ez.mem_less x.kids i u hu) (Ez.manyL_less x.kids i)
theorem many_lessx (x : Nd) (i : Nat) : many (less x i) ≤ many x := by
  rw [many_eq, many_eq]
  have := Ez.manyL_less x.kids i
  show 1 + manyL (x.kids.take i ++ x.kids.drop (i + 1)) ≤ _
  omega
end NodT
