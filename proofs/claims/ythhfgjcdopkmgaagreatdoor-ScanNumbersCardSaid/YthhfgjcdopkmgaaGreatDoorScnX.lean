/- Tokens, whole. -/
import Derived.Test.YthhfgjcdopkmgaaGreatDoorScnW
set_option maxRecDepth 100000
namespace Go.Proofs.YthhfgjcdopkmgaaGreatDoor
open Go.Instr Go.RowKit ScnT
set_option linter.unusedVariables false
/-- What Tokens tells. -/
def Told (R : Except (Nat × Nat) (List Tok)) (w : World) (e : Ending) (w' : World) : Prop :=
  (∃ out tv, R = .ok out ∧ e = .returned (.tuple #[tv, .agg #[.int .i64 0, .int .i64 0]]) ∧ w'.ownsRow w.heap.size 67 3 tv out.length (tcells out) ∧ out.length ≤ 70000 ∧ Below w.heap.size w w') ∨
  (∃ c q, R = .error (c, q) ∧ e = .returned (.tuple #[.slice none 0 0, .agg #[.int .i64 (c : Int), .int .i64 (q : Int)]]) ∧ Below w.heap.size w w')
/-- The two results' cells. -/
structure TwoAt (w w1 : World) : Prop where
  c0 : w1.cell? ⟨w.heap.size, 0, none⟩ = some (.slice none 0 0)
  f0 : w1.frozen? ⟨w.heap.size, 0, none⟩ = false
  c1 : w1.cell? ⟨w.heap.size + 1, 0, none⟩ = some (.int .i64 0)
  f1 : w1.frozen? ⟨w.heap.size + 1, 0, none⟩ = false
  c2 : w1.cell? ⟨w.heap.size + 1, 1, none⟩ = some (.int .i64 0)
  f2 : w1.frozen? ⟨w.heap.size + 1, 1, none⟩ = false
  lt : w.heap.size + 1 < w1.heap.size
theorem TwoAt.keep {w w1 w5 : World} (h : TwoAt w w1) (hb : Below w1.heap.size w1 w5) : TwoAt w w5 := by
  obtain ⟨c0, f0, c1, f1, c2, f2, lt⟩ := h
  have l0 : w.heap.size < w1.heap.size := by omega
  exact ⟨(hb.cell (p := ⟨w.heap.size, 0, none⟩) l0).trans c0, (hb.frozen (p := ⟨w.heap.size, 0, none⟩) l0).trans f0, (hb.cell (p := ⟨w.heap.size + 1, 0, none⟩) lt).trans c1, (hb.frozen (p := ⟨w.heap.size + 1, 0, none⟩) lt).trans f1, (hb.cell (p := ⟨w.heap.size + 1, 1, none⟩) lt).trans c2, (hb.frozen (p := ⟨w.heap.size + 1, 1, none⟩) lt).trans f2, Nat.lt_of_lt_of_le lt hb.size⟩
theorem cells_two (w w1 : World) (h : Below ((w.alloc (.cells #[.slice none 0 0] 29)).alloc (.cells #[.int .i64 0, .int .i64 0] 32)).heap.size ((w.alloc (.cells #[.slice none 0 0] 29)).alloc (.cells #[.int .i64 0, .int .i64 0] 32)) w1) : TwoAt w w1 := by
  have h0 : TwoAt w ((w.alloc (.cells #[.slice none 0 0] 29)).alloc (.cells #[.int .i64 0, .int .i64 0] 32)) := by
    constructor <;> simp [go_sem]
  exact h0.keep h
theorem own_moved {w5 Wf : World} {base b : Nat} {e : TypeId} {size : Nat} {v : Value} {n : Nat} {xs : List Value} (h : w5.ownsRow base e size v n xs) (hb : b + 1 < base) (hk : ∀ k, k ≠ b → k ≠ b + 1 → k < w5.heap.size → Wf.heap[k]? = w5.heap[k]?) (hz : w5.heap.size ≤ Wf.heap.size) : Wf.ownsRow b e size v n xs := by
  refine ⟨h.1, ?_⟩
  rcases h.2 with h0 | ⟨g, cap, cur, hv, hbg, hg, hrest⟩
  · exact .inl h0
  · exact .inr ⟨g, cap, cur, hv, by omega, (hk g (by omega) (by omega) (Array.getElem?_eq_some_iff.1 hg).1).trans hg, hrest⟩
theorem fin_two {w w5 : World} (h : TwoAt w w5) (v x y : Value) (o : Obj) : (((((w5.setCell ⟨w.heap.size, 0, none⟩ v).setCell ⟨w.heap.size + 1, 0, none⟩ x).setCell ⟨w.heap.size + 1, 1, none⟩ y).alloc o).cell? ⟨w.heap.size, 0, none⟩ = some v) ∧
    (((((w5.setCell ⟨w.heap.size, 0, none⟩ v).setCell ⟨w.heap.size + 1, 0, none⟩ x).setCell ⟨w.heap.size + 1, 1, none⟩ y).alloc o).cell? ⟨w.heap.size + 1, 0, none⟩ = some x) ∧
    (((((w5.setCell ⟨w.heap.size, 0, none⟩ v).setCell ⟨w.heap.size + 1, 0, none⟩ x).setCell ⟨w.heap.size + 1, 1, none⟩ y).alloc o).cell? ⟨w.heap.size + 1, 1, none⟩ = some y) ∧
    Below w.heap.size w5 ((((w5.setCell ⟨w.heap.size, 0, none⟩ v).setCell ⟨w.heap.size + 1, 0, none⟩ x).setCell ⟨w.heap.size + 1, 1, none⟩ y).alloc o) ∧
    (∀ k, k ≠ w.heap.size → k ≠ w.heap.size + 1 → k < w5.heap.size → ((((w5.setCell ⟨w.heap.size, 0, none⟩ v).setCell ⟨w.heap.size + 1, 0, none⟩ x).setCell ⟨w.heap.size + 1, 1, none⟩ y).alloc o).heap[k]? = w5.heap[k]?) ∧ w5.heap.size ≤ ((((w5.setCell ⟨w.heap.size, 0, none⟩ v).setCell ⟨w.heap.size + 1, 0, none⟩ x).setCell ⟨w.heap.size + 1, 1, none⟩ y).alloc o).heap.size := by
  obtain ⟨c0, f0, c1, f1, c2, f2, lt⟩ := h
  have l0 : w.heap.size < w5.heap.size := by omega
  have hs : (((w5.setCell ⟨w.heap.size, 0, none⟩ v).setCell ⟨w.heap.size + 1, 0, none⟩ x).setCell ⟨w.heap.size + 1, 1, none⟩ y).heap.size = w5.heap.size := by simp [World.setCell]
  refine ⟨?_, ?_, ?_, ?_, ?_, ?_⟩
  · rw [World.cell?_alloc_lt _ _ _ (by rw [hs]; exact l0)]; simp [go_sem, c0]
  · rw [World.cell?_alloc_lt _ _ _ (by rw [hs]; exact lt)]; simp [go_sem, c1]
  · rw [World.cell?_alloc_lt _ _ _ (by rw [hs]; exact lt)]; simp [go_sem, c2]
  · exact ((((Below.refl w.heap.size w5).setCell (p := ⟨w.heap.size, 0, none⟩) (Nat.le_refl _) _).setCell (p := ⟨w.heap.size + 1, 0, none⟩) (by show w.heap.size ≤ w.heap.size + 1; omega) _).setCell (p := ⟨w.heap.size + 1, 1, none⟩) (by show w.heap.size ≤ w.heap.size + 1; omega) _).alloc (by rw [hs]; omega) _
  · intro k h1 h2 hk
    rw [heap_alloc_old _ _ (by rw [hs]; exact hk), Below.heap_setCell _ _ _ _ (by show k ≠ w.heap.size + 1; exact h2), Below.heap_setCell _ _ _ _ (by show k ≠ w.heap.size + 1; exact h2), Below.heap_setCell _ _ _ _ (by show k ≠ w.heap.size; exact h1)]
  · simp [World.setCell]
set_option maxHeartbeats 2000000 in
theorem Tokens_any (s : ByteArray) (w : World) (hm : s.size ≤ maxLen) : Calls Tryz.prog 9 #[.string s] w (Told (tokensT s.data.toList) w) := by
  have hmf : ∀ (fn : Fn) (first cap : Array Value) (w : World), (Instr.makeFunc fn first cap).run Tryz.prog w = .ok (.func fn first cap) w := fun _ _ _ _ => rfl
  unfold maxLen at hm
  by_cases hs : s.size ≤ 65536
  · have HT : Hid (tokensT s.data.toList = goT (s.size + 1) s.data.toList 0 []) := by
      show _ = _
      unfold tokensT
      rw [if_neg (by simp; omega)]
      simp
    have hs' : decide ((65536 : Int) < (s.size : Int)) = false := by simp; omega
    go_enter_defers Tryz.func9, Tryz.ntmps9
    go_wp2_with fail
    refine (Clone_any s _ hs).mono ?_
    rintro e w1 ⟨rfl, hb1⟩
    have HB1 := Lib.hid hb1
    clear hb1
    go_wp2_with fail
    refine (pairs_any _).mono ?_
    rintro e w2 ⟨rfl, hw2⟩
    have HW2 := Lib.hid hw2
    clear hw2
    go_wp2_with fail
    have hz1 : w.heap.size + 1 < w1.heap.size := by have := HB1.out.size; simp at this; omega
    have hz2 : w2.heap.size = w1.heap.size + 1 := by rw [← HW2.out]; simp
    have HBW2 : Hid (Below w1.heap.size w1 w2) := by show Below _ _ _; rw [← HW2.out]; exact (Below.refl _ _).alloc (Nat.le_refl _) _
    have HPR : Hid (PairsAt w2 w1.heap.size) := by show _ = _; rw [← HW2.out]; exact heap_alloc_new _ _
    have HSTR : Hid (St 67 (w2.alloc (.cells #[.string s, .int .i64 0, .int .i64 0, .slice none 0 0, .map (some w1.heap.size)] 63)) w2.heap.size s 0 0 [] (.slice none 0 0) (.map (some w1.heap.size))) := by
      refine ⟨?_, World.ownsRow_nil _ _ _ _, by simp⟩
      constructor <;> simp [go_sem]
    have HB3 : Hid (Below w2.heap.size w2 (w2.alloc (.cells #[.string s, .int .i64 0, .int .i64 0, .slice none 0 0, .map (some w1.heap.size)] 63))) := (Below.refl _ _).alloc (Nat.le_refl _) _
    have HBR := Lib.hid (cells_two w w1 HB1.out)
    clear hz1 hm hs'
    have HZ2 := Lib.hid hz2
    clear hz2
    refine (readAll_any _ HSTR.out ((HB3.out.block _ (by have := HZ2.out; omega)).trans HPR.out) (by have := HZ2.out; omega) hs).mono ?_
    generalize w2.alloc (.cells #[.string s, .int .i64 0, .int .i64 0, .slice none 0 0, .map (some w1.heap.size)] 63) = W3 at *
    rintro e w5 (⟨out, hR, rfl, hout, ⟨fr, a, tv, hst⟩, hb5⟩ | ⟨c, q, hR, rfl, hb5⟩)
    · have HR : Hid (tokensT s.data.toList = .ok out) := HT.out.trans hR
      obtain ⟨ao, cc, rfl⟩ := own_form hst.own
      have HST := Lib.hid hst
      have HBB : Hid (Below w1.heap.size w1 w5) := (HBW2.out.trans (HB3.out.mono (by have := HZ2.out; omega))).trans (hb5.mono (by have := HZ2.out; omega))
      have hd3 := hst.box.c3
      obtain ⟨e0, e1, e2, e3, e4, e5, e6⟩ := (HBR.out.keep HBB.out)
      have hw5 := HBB.out.size
      clear hR hst hb5
      have hlt5 : w.heap.size + 1 < w5.heap.size := by omega
      go_wp2_with fail
      refine leaves_cons (f := 25) (args := #[.pointer (some ⟨w.heap.size, 0, none⟩), .pointer (some ⟨w.heap.size + 1, 0, none⟩)]) (by simp) (by simp [go_sem]) ?_
      refine (tokens_idle ⟨w.heap.size, 0, none⟩ ⟨w.heap.size + 1, 0, none⟩ _).mono ?_
      rintro e u' w'' ⟨rfl, rfl, rfl⟩
      obtain ⟨k0, k1, k2, kb, kk, kz⟩ := fin_two (HBR.out.keep HBB.out) (.slice ao out.length cc) (.int .i64 0) (.int .i64 0) (.cells #[.int .i64 0, .int .i64 0] 32)
      have HBL : Hid (Below w.heap.size w w5) := by
        have h1 : Below w.heap.size w w1 := (((Below.refl w.heap.size w).alloc (Nat.le_refl _) _).alloc (by simp) _).trans (HB1.out.mono (by simp; omega))
        exact h1.trans (HBB.out.mono (by have := h1.size; omega))
      generalize ((((w5.setCell ⟨w.heap.size, 0, none⟩ (.slice ao out.length cc)).setCell ⟨w.heap.size + 1, 0, none⟩ (.int .i64 0)).setCell ⟨w.heap.size + 1, 1, none⟩ (.int .i64 0)).alloc (.cells #[.int .i64 0, .int .i64 0] 32)) = Wf at *
      have hown := HST.out.own
      have HTOLD : Hid (Told (tokensT s.data.toList) w (.returned (.tuple #[.slice ao out.length cc, .agg #[.int .i64 0, .int .i64 0]])) Wf) := by
        refine .inl ⟨out, _, HR.out, rfl, ?_, hout, HBL.out.trans kb⟩
        exact own_moved hown (by have := HZ2.out; have := HBR.out.lt; omega) kk kz
      clear hown kk kz kb
      simp [Leaves, settle, results, Tryz.results9, go_sem, k0, k1, k2]
      exact HTOLD.out
    · have HR : Hid (tokensT s.data.toList = .error (c, q)) := HT.out.trans hR
      have HBB : Hid (Below w1.heap.size w1 w5) := (HBW2.out.trans (HB3.out.mono (by have := HZ2.out; omega))).trans (hb5.mono (by have := HZ2.out; omega))
      obtain ⟨e0, e1, e2, e3, e4, e5, e6⟩ := (HBR.out.keep HBB.out)
      have HBL : Hid (Below w.heap.size w w5) := by
        have h1 : Below w.heap.size w w1 := (((Below.refl w.heap.size w).alloc (Nat.le_refl _) _).alloc (by simp) _).trans (HB1.out.mono (by simp; omega))
        exact h1.trans (HBB.out.mono (by have := h1.size; omega))
      clear hR hb5
      refine leaves_cons (f := 25) (args := #[.pointer (some ⟨w.heap.size, 0, none⟩), .pointer (some ⟨w.heap.size + 1, 0, none⟩)]) (by simp) (by simp [go_sem]) ?_
      refine (tokens_catch w.heap.size _ _ _ (c : Int) (q : Int) [] w5 e6 e0 e1 e2 e4 e3 e5).mono ?_
      rintro e u' w'' ⟨rfl, rfl, k0, k1, k2, kb⟩
      have HTOLD : Hid (Told (tokensT s.data.toList) w (.returned (.tuple #[.slice none 0 0, .agg #[.int .i64 (c : Int), .int .i64 (q : Int)]])) w'') := .inr ⟨c, q, HR.out, rfl, HBL.out.trans kb⟩
      simp [Leaves, settle, results, Tryz.results9, go_sem, k0, k1, k2]
      exact HTOLD.out
  · have HT : Hid (tokensT s.data.toList = .error (3, 0)) := by
      show _ = _
      unfold tokensT
      rw [if_pos (by simp; omega)]
    have hs' : decide ((65536 : Int) < (s.size : Int)) = true := by simp; omega
    go_enter_defers Tryz.func9, Tryz.ntmps9
    go_wp2_with fail
    simp [bodyPostD, Leaves, results, Tryz.results9, go_sem]
    exact .inr ⟨3, 0, HT.out, rfl, ((Below.refl _ _).alloc (Nat.le_refl _) _).alloc (by simp) _⟩
end Go.Proofs.YthhfgjcdopkmgaaGreatDoor
