/- A declaration: its type, its state. -/
import Derived.Test.YtngimijiafnheaaGreatRdP
set_option maxRecDepth 100000
set_option linter.unusedSimpArgs false
namespace LexT
open Go Go.RowKit
set_option linter.unusedVariables false
theorem typeF_1 {l : List Tok} {e : Er} (h : needF [[60]] l = .error e) : typeF l = some (.error e) := by unfold typeF; rw [h]; rfl
theorem typeF_2 {l l1 : List Tok} {t : Tok} {e : Er} (h : needF [[60]] l = .ok (t, l1)) (h2 : nameF l1 = .error e) : typeF l = some (.error e) := by
  unfold typeF; rw [h]
  show bnd (some (nameF l1)) _ = _
  rw [h2]; rfl
theorem typeF_3 {l l1 l2 : List Tok} {t t2 : Tok} {e : Er} (h : needF [[60]] l = .ok (t, l1)) (h2 : nameF l1 = .ok (t2, l2)) (h3 : needF [[62]] l2 = .error e) : typeF l = some (.error e) := by
  unfold typeF; rw [h]
  show bnd (some (nameF l1)) _ = _
  rw [h2]
  show bnd (some (needF [[62]] l2)) _ = _
  rw [h3]; rfl
theorem typeF_4 {l l1 l2 l3 : List Tok} {t t2 t3 : Tok} (h : needF [[60]] l = .ok (t, l1)) (h2 : nameF l1 = .ok (t2, l2)) (h3 : needF [[62]] l2 = .ok (t3, l3)) : typeF l = some (.ok (t2.text, l3)) := by
  unfold typeF; rw [h]
  show bnd (some (nameF l1)) _ = _
  rw [h2]
  show bnd (some (needF [[62]] l2)) _ = _
  rw [h3]; rfl
theorem own_new (w : World) (T : TypeId) (k m : Nat) (xs : List Value) (hl : xs.length = m * k) (hm : m ≤ maxLen) : (w.alloc (.cells xs.toArray T)).ownsRow 0 T k (.slice (some ⟨w.heap.size, 0, none⟩) m m) m xs :=
  ⟨hl, .inr ⟨w.heap.size, m, xs.toArray, rfl, Nat.zero_le _, heap_alloc_new w _, Nat.le_refl _, hm, by simpa using hl, by rw [← hl]; simp⟩⟩
/-- A field that is given a row of its own. -/
theorem FldO.fresh {lo lo2 b p q idx : Nat} {T : TypeId} {oq : Obj} {Te : TypeId} {k m : Nat} {cells : Value → Array Value} {w : World} {cs ds : List Cell} (h : FldO lo lo2 b p q T oq Te k cells w cs) (xs : List Value) (Sd : List Nat) (hd : AtL w ds Sd xs) (hdn : Sd.Nodup) (hds : ∀ s ∈ Sd, lo2 ≤ s) (hl : ds.length = m * k) (hm : m ≤ maxLen)
    (hset : ∀ v v', (cells v).setIfInBounds idx v' = cells v') :
    FldO lo lo2 b p q T oq Te k cells ((w.alloc (.cells xs.toArray Te)).setCell ⟨p, idx, none⟩ (.slice (some ⟨w.heap.size, 0, none⟩) m m)) ds := by
  have hb : Below w.heap.size w (w.alloc (.cells xs.toArray Te)) := (Below.refl _ _).alloc (Nat.le_refl _) _
  obtain ⟨⟨v, S, h1, h2, h3, h4⟩, h5, b0, p1, p2, q1, q2, pq, le⟩ := h.under hb
  have le0 := h.le
  have hxl : xs.length = m * k := by rw [AtL.length _ _ _ hd, hl]
  have hown := own_new w Te k m xs hxl hm
  have hlt := AtL.lt _ _ _ hd
  have hat : At (w.alloc (.cells xs.toArray Te)) (.row Te k ds) ([w.heap.size] ++ Sd) (.slice (some ⟨w.heap.size, 0, none⟩) m m) := by
    unfold At
    exact ⟨m, xs, Sd, hl, hown, rfl, AtL.same _ _ _ hd (fun g hg => hb.block g (hlt g hg))⟩
  refine ⟨⟨_, [w.heap.size] ++ Sd, ?_, hat.same _ _ _ (fun g hg => Below.heap_setCell _ _ _ _ ?_), ?_, ?_⟩, ?_, b0, p1, p2, q1, q2, pq, by simpa [World.setCell] using le⟩
  · rw [heap_setCell_same _ _ idx _ _ _ h1, hset]
  · show g ≠ p
    rcases List.mem_append.1 hg with h9 | h9
    · simp at h9; omega
    · have := hds g h9; omega
  · rw [List.nodup_append]
    refine ⟨by simp, hdn, fun x hx y hy hxy => ?_⟩
    subst hxy
    simp at hx
    have := hlt x hy
    omega
  · intro s hs
    rcases List.mem_append.1 hs with h9 | h9
    · simp at h9; omega
    · exact hds s h9
  · rw [Below.heap_setCell _ _ _ _ (by show q ≠ p; exact fun hh => pq hh.symm)]
    exact h5
end LexT
namespace Go.Proofs.YtngimijiafnheaaGreat
open Go.Instr Go.RowKit LexT
set_option linter.unusedVariables false
variable {n b : Nat} {t : Tok} {r l : List Tok}
/-- What a call does that reads a text. -/
def TxtP (n b : Nat) (R : Pa Bs) (m : Nat) (w : World) (e : Ending) (w' : World) : Prop :=
  (∃ x l', R = some (.ok (x, l')) ∧ e = .returned (.string (mkS x)) ∧ Rd n w' b l' ∧ l'.length < m ∧ w.grownBy w' (some b)) ∨
  (∃ c q : Nat, R = some (.error (c, q)) ∧ e = .panicked (faulty c q) ∧ w.grownBy w' (some b))
set_option maxHeartbeats 2000000 in
theorem typeName_any (w : World) (h : Rd n w b l) : Calls Tryz.prog 60 #[.pointer (some ⟨b, 0, none⟩)] w (TxtP n b (typeF l) l.length w) := by
  have HA := Lib.hid (need_sign [60] (by simp) h)
  clear h
  go_enter Tryz.func60, Tryz.ntmps60
  go_wp2_with fail
  refine (HA.out _ rfl).mono ?_
  rintro e w1 (⟨t1, l1, hn1, rfl, hr1, hl1, hg1⟩ | ⟨c, q, hn1, rfl, hg1⟩)
  · have HB := Lib.hid (name_any w1 hr1)
    have H1 := Lib.hid (And.intro hn1 (And.intro hl1 hg1))
    clear hn1 hr1 hl1 hg1
    unfold tokV
    go_wp2_with fail
    refine HB.out.mono ?_
    rintro e w2 (⟨t2, l2, hn2, rfl, hr2, hl2, hg2⟩ | ⟨c, q, hn2, rfl, hg2⟩)
    · obtain ⟨W2, hW2⟩ : ∃ W2, W2 = w2.alloc (.cells #[.int .u8 (t2.kind : Int), .string (mkS t2.text), .int .i64 (t2.place : Int)] 110) := ⟨_, rfl⟩
      have hb2 : Below w2.heap.size w2 W2 := by rw [hW2]; exact (Below.refl _ _).alloc (Nat.le_refl _) _
      have hT : W2.heap[w2.heap.size]? = some (.cells #[.int .u8 (t2.kind : Int), .string (mkS t2.text), .int .i64 (t2.place : Int)] 110 (0, 0)) := by rw [hW2]; exact heap_alloc_new w2 _
      have HC := Lib.hid (need_sign [62] (by simp) (hr2.under hb2))
      have H2 := Lib.hid (And.intro hn2 (And.intro hl2 (And.intro hg2 (And.intro hb2 (And.intro hT hr2)))))
      have HW2 := Lib.hid hW2
      clear hn2 hl2 hg2 hb2 hT hW2
      unfold tokV
      go_upto_region 3 with fail
      rw [← HW2.out]
      go_wp2_with fail
      refine (HC.out _ rfl).mono ?_
      rintro e w3 (⟨t3, l3, hn3, rfl, hr3, hl3, hg3⟩ | ⟨c, q, hn3, rfl, hg3⟩)
      · have hT3 := (hg3.block w2.heap.size (by rw [HW2.out]; simp) (by intro h3; injection h3 with h3; have := H2.out.2.2.2.2.2.lt; have := H2.out.2.2.2.2.2.le; omega)).trans H2.out.2.2.2.2.1
        obtain ⟨⟨k0, k1, k2⟩, _⟩ := three_facts hT3
        have H3 := Lib.hid (And.intro hn3 (And.intro hr3 (And.intro hl3 hg3)))
        clear hn3 hr3 hl3 hg3 hT3
        unfold tokV
        go_wp2_with fail
        go_ret
        exact .inl ⟨t2.text, l3, typeF_4 H1.out.1 H2.out.1 H3.out.1, rfl, H3.out.2.1, by have := H1.out.2.1; have := H2.out.2.1; have := H3.out.2.2.1; omega, grown_trans (grown_trans H1.out.2.2 (grown_trans H2.out.2.2.1 (grown_under H2.out.2.2.2.1 b))) H3.out.2.2.2⟩
      · exact ⟨rfl, .inr ⟨c, q, typeF_3 H1.out.1 H2.out.1 hn3, rfl, grown_trans (grown_trans H1.out.2.2 (grown_trans H2.out.2.2.1 (grown_under H2.out.2.2.2.1 b))) hg3⟩⟩
    · exact ⟨rfl, .inr ⟨c, q, typeF_2 H1.out.1 hn2, rfl, grown_trans H1.out.2.2 hg2⟩⟩
  · exact ⟨rfl, .inr ⟨c, q, typeF_1 hn1, rfl, hg1⟩⟩
end Go.Proofs.YtngimijiafnheaaGreat
