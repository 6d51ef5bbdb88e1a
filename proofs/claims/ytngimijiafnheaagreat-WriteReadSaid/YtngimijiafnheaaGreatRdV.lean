/- read.Text: the contract. -/
import Derived.Test.YtngimijiafnheaaGreatRdU
set_option maxRecDepth 100000
set_option linter.unusedSimpArgs false
namespace LexT
open Go Go.RowKit
set_option linter.unusedVariables false
theorem toks_cells {w : World} {base g cc : Nat} {T : TypeId} {l : List Tok} (h : w.ownsRow base T 3 (.slice (some ⟨g, 0, none⟩) l.length cc) l.length (tcells l)) (j : Nat) (t : Tok) (hj : l[j]? = some t) :
    w.cell? ⟨g, 0 + j * 3, none⟩ = some (.int .u8 (t.kind : Int)) ∧ w.cell? ⟨g, 0 + j * 3 + 1, none⟩ = some (.string (mkS t.text)) ∧ w.cell? ⟨g, 0 + j * 3 + 2, none⟩ = some (.int .i64 (t.place : Int)) := by
  have hadd : ∀ i, (⟨g, 0, none⟩ : Addr).add i = ⟨g, i, none⟩ := fun i => by unfold Addr.add; split <;> simp_all
  have key : ∀ (i : Nat) (u : Value), (tcs t)[i]? = some u → w.cell? ⟨g, 0 + j * 3 + i, none⟩ = some u := by
    intro i u hi
    have := h.cells (g := g) rfl (j * 3 + i) u (tcells_at l j i t u hj hi)
    rw [hadd] at this
    rw [Nat.zero_add]
    exact this
  exact ⟨by simpa using key 0 _ rfl, key 1 _ rfl, key 2 _ rfl⟩
/-- Two structs of two cells each stored anew, and a block more. -/
def four2 (w : World) (m : Nat) (a0 a1 c0 c1 : Value) : World := (((w.setCell ⟨m, 0, none⟩ a0).setCell ⟨m, 1, none⟩ a1).setCell ⟨m + 1, 0, none⟩ c0).setCell ⟨m + 1, 1, none⟩ c1
theorem four2_low (B : Nat) (w : World) (m : Nat) (a0 a1 c0 c1 : Value) (hm : B ≤ m) : Below B w (four2 w m a0 a1 c0 c1) :=
  ((((Below.refl B w).setCell (p := ⟨m, 0, none⟩) hm a0).setCell (p := ⟨m, 1, none⟩) hm a1).setCell (p := ⟨m + 1, 0, none⟩) (by show B ≤ m + 1; omega) c0).setCell (p := ⟨m + 1, 1, none⟩) (by show B ≤ m + 1; omega) c1
theorem four2_same (w : World) (m : Nat) (a0 a1 c0 c1 : Value) (g : Nat) (h : g ≠ m) (h2 : g ≠ m + 1) : (four2 w m a0 a1 c0 c1).heap[g]? = w.heap[g]? := by
  unfold four2
  rw [Below.heap_setCell _ _ _ _ h2, Below.heap_setCell _ _ _ _ h2, Below.heap_setCell _ _ _ _ h, Below.heap_setCell _ _ _ _ h]
theorem four2_cells {w : World} {m : Nat} {x0 x1 y0 y1 : Value} (h0 : w.cell? ⟨m, 0, none⟩ = some x0) (h1 : w.cell? ⟨m, 1, none⟩ = some x1) (h2 : w.cell? ⟨m + 1, 0, none⟩ = some y0) (h3 : w.cell? ⟨m + 1, 1, none⟩ = some y1) (a0 a1 c0 c1 : Value) (o : Obj) :
    ((four2 w m a0 a1 c0 c1).alloc o).cell? ⟨m, 0, none⟩ = some a0 ∧ ((four2 w m a0 a1 c0 c1).alloc o).cell? ⟨m, 1, none⟩ = some a1 ∧ ((four2 w m a0 a1 c0 c1).alloc o).cell? ⟨m + 1, 0, none⟩ = some c0 ∧ ((four2 w m a0 a1 c0 c1).alloc o).cell? ⟨m + 1, 1, none⟩ = some c1 := by
  have hl := World.block_lt_of_cell? _ _ h0
  have hl2 := World.block_lt_of_cell? _ _ h2
  have hs : (four2 w m a0 a1 c0 c1).heap.size = w.heap.size := by simp [four2, World.setCell]
  have e : (four2 w m a0 a1 c0 c1).cell? ⟨m, 0, none⟩ = some a0 ∧ (four2 w m a0 a1 c0 c1).cell? ⟨m, 1, none⟩ = some a1 ∧ (four2 w m a0 a1 c0 c1).cell? ⟨m + 1, 0, none⟩ = some c0 ∧ (four2 w m a0 a1 c0 c1).cell? ⟨m + 1, 1, none⟩ = some c1 := by
    unfold four2
    simp [go_sem, h0, h1, h2, h3]
  exact ⟨(World.cell?_alloc_lt _ _ _ (by rw [hs]; exact hl)).trans e.1, (World.cell?_alloc_lt _ _ _ (by rw [hs]; exact hl)).trans e.2.1, (World.cell?_alloc_lt _ _ _ (by rw [hs]; exact hl2)).trans e.2.2.1, (World.cell?_alloc_lt _ _ _ (by rw [hs]; exact hl2)).trans e.2.2.2⟩
theorem AtL.two {w : World} {T1 T2 : TypeId} {k1 k2 : Nat} {c1 c2 : List Cell} {S : List Nat} {xs : List Value} (h : AtL w [.row T1 k1 c1, .row T2 k2 c2] S xs) : ∃ (a1 : Option Addr) (n1 m1 : Nat) (a2 : Option Addr) (n2 m2 : Nat), xs = [.slice a1 n1 m1, .slice a2 n2 m2] := by
  unfold AtL at h
  obtain ⟨S1, S2, x1, xs1, rfl, rfl, h1, h⟩ := h
  unfold AtL at h
  obtain ⟨S3, S4, x2, xs2, rfl, rfl, h2, h⟩ := h
  unfold AtL at h
  obtain ⟨rfl, rfl⟩ := h
  obtain ⟨a1, n1, m1, rfl⟩ := h1.slice
  obtain ⟨a2, n2, m2, rfl⟩ := h2.slice
  exact ⟨a1, n1, m1, a2, n2, m2, rfl⟩
end LexT
namespace Go.Proofs.YtngimijiafnheaaGreat
open Go.Instr Go.RowKit LexT
set_option linter.unusedVariables false
set_option maxHeartbeats 4000000 in
theorem Text_any (s : ByteArray) (w : World) (hm : s.size ≤ maxLen) : Calls Tryz.prog 8 #[.string s] w (ToldT (textT s.data.toList) w) := by
  have hmf : ∀ (fn : Fn) (first cap : Array Value) (w : World), (Instr.makeFunc fn first cap).run Tryz.prog w = .ok (.func fn first cap) w := fun _ _ _ _ => rfl
  obtain ⟨⟨e0, e1⟩, hb2, hs2⟩ := alloc2 w (.cells zeroText 25) (.cells #[.int .i64 0, .int .i64 0] 32)
  have HTK := Lib.hid (Tokens_any s ((w.alloc (.cells zeroText 25)).alloc (.cells #[.int .i64 0, .int .i64 0] 32)) hm)
  have HE := Lib.hid (And.intro e0 (And.intro e1 (And.intro hb2 hs2)))
  clear e0 e1 hb2 hs2 hm
  go_enter_defers Tryz.func8, Tryz.ntmps8
  go_wp2_with fail
  refine HTK.out.mono ?_
  rintro e w5 (⟨out, tv, hR, rfl, hown, hlen, hb5⟩ | ⟨c, q, hR, rfl, hb5⟩)
  · have hs5 : w.heap.size + 2 ≤ w5.heap.size := by have := hb5.size; have := HE.out.2.2.2; omega
    have E0 := (hb5.block w.heap.size (by have := HE.out.2.2.2; omega)).trans HE.out.1
    have E1 := (hb5.block (w.heap.size + 1) (by have := HE.out.2.2.2; omega)).trans HE.out.2.1
    obtain ⟨⟨c0, c1⟩, z0, z1⟩ := two_facts E0
    obtain ⟨⟨c2, c3⟩, z2, z3⟩ := two_facts E1
    have hfine := tokens_fine hR
    have hpos := hfine.1.pos
    obtain ⟨g, cc, rfl⟩ := own_pos hown hpos
    have HO := Lib.hid (And.intro hR (And.intro hown (And.intro hlen (And.intro hb5 (And.intro hfine.1 (And.intro E0 E1))))))
    have hl1 : w.heap.size + 1 < w5.heap.size := by omega
    clear hR hown hlen hb5 hfine hpos E0 E1 hs5
    go_wp2_with fail
    obtain ⟨W7, hW7⟩ : ∃ W7, W7 = (((w5.setCell ⟨w.heap.size + 1, 0, none⟩ (.int .i64 0)).setCell ⟨w.heap.size + 1, 1, none⟩ (.int .i64 0)).alloc (.cells #[.slice (some ⟨g, 0, none⟩) out.length cc] 70)) := ⟨_, rfl⟩
    have HF : Hid (Rd (w5.heap.size + 1) W7 w5.heap.size out ∧ W7.heap[w.heap.size]? = some (.cells zeroText 25 (0, 0)) ∧ W7.heap[w.heap.size + 1]? = some (.cells #[.int .i64 0, .int .i64 0] 32 (0, 0)) ∧ Below w.heap.size w W7 ∧ W7.heap.size = w5.heap.size + 1) := by
      obtain ⟨hR, hown, hlen, hb5, hfine, E0, E1⟩ := HO.out
      obtain ⟨e0, e1, hb2, hs2⟩ := HE.out
      have hg0 := hown.lt g rfl
      have hsz : ((w5.setCell ⟨w.heap.size + 1, 0, none⟩ (.int .i64 0)).setCell ⟨w.heap.size + 1, 1, none⟩ (.int .i64 0)).heap.size = w5.heap.size := by simp [World.setCell]
      have hsame : ∀ i, i < w5.heap.size → i ≠ w.heap.size + 1 → W7.heap[i]? = w5.heap[i]? := by
        intro i hi hne
        rw [hW7, heap_alloc_old _ _ (by rw [hsz]; exact hi), Below.heap_setCell _ _ _ _ hne, Below.heap_setCell _ _ _ _ hne]
      have hbox : W7.heap[w5.heap.size]? = some (.cells #[.slice (some ⟨g, 0, none⟩) out.length cc] 70 (0, 0)) := by
        have := heap_alloc_new ((w5.setCell ⟨w.heap.size + 1, 0, none⟩ (.int .i64 0)).setCell ⟨w.heap.size + 1, 1, none⟩ (.int .i64 0)) (.cells #[.slice (some ⟨g, 0, none⟩) out.length cc] 70)
        rw [hsz] at this
        rw [hW7]; exact this
      have hown7 : W7.ownsRow 0 110 3 (.slice (some ⟨g, 0, none⟩) out.length cc) out.length (tcells out) := own_zero (own_same hown (fun i hi => by
        have : i = g := by simpa [mem_ownL, Value.ownBlock, eq_comm] using hi
        subst this
        exact hsame i hg0.2 (by omega)))
      have hs7 : W7.heap.size = w5.heap.size + 1 := by rw [hW7]; simp [World.setCell]
      obtain ⟨b0, bz⟩ := one_fact hbox
      refine ⟨⟨by omega, by omega, bz, hfine, by omega, g, 0, cc, by omega, by omega, b0, ?_, ?_, fun j t hj => toks_cells hown7 j t hj⟩, (hsame _ (by omega) (by omega)).trans E0, ?_, ?_, hs7⟩
      · rcases hown7.2 with ⟨h0, _⟩ | ⟨g', cap, cur, hv, _, _, h3, h4, _⟩
        · cases h0
        · injection hv with _ _ h5
          omega
      · rcases hown7.2 with ⟨h0, _⟩ | ⟨g', cap, cur, hv, _, _, h3, h4, _⟩
        · cases h0
        · injection hv with _ _ h5
          omega
      · rw [hW7, heap_alloc_old _ _ (by rw [hsz]; omega), heap_setCell_same _ _ 1 _ _ _ (heap_setCell_same _ _ 0 _ _ _ E1)]
        rfl
      · rw [hW7]
        exact ((((hb2.trans (hb5.mono (by omega))).setCell (p := ⟨w.heap.size + 1, 0, none⟩) (by show w.heap.size ≤ w.heap.size + 1; omega) _).setCell (p := ⟨w.heap.size + 1, 1, none⟩) (by show w.heap.size ≤ w.heap.size + 1; omega) _).alloc (by rw [hsz]; omega) _)
    have HTX := Lib.hid (text_any (out.length + 1) W7 out HF.out.1 (by omega))
    rw [← hW7]
    clear hW7 c0 c1 c2 c3 z0 z1 z2 z3
    refine HTX.out.mono ?_
    rintro e w8 (⟨x, l8, S, xs, hx, rfl, hr8, hl8, hat8, hnd8, hge8, hg8⟩ | ⟨c, q, hx, rfl, hg8⟩)
    · obtain ⟨a1, n1, m1, a2, n2, m2, hxs⟩ := AtL.two hat8
      subst hxs
      have hk : ∀ i, i < W7.heap.size → i ≠ w5.heap.size → w8.heap[i]? = W7.heap[i]? := fun i hi hne => hg8.block i hi (by intro h3; injection h3 with h3; exact hne h3)
      have hs7 := HF.out.2.2.2.2
      obtain ⟨⟨c0, c1⟩, z0, z1⟩ := two_facts ((hk w.heap.size (by omega) (by omega)).trans HF.out.2.1)
      obtain ⟨⟨c2, c3⟩, z2, z3⟩ := two_facts ((hk (w.heap.size + 1) (by omega) (by omega)).trans HF.out.2.2.1)
      have HK := Lib.hid (four2_cells c0 c1 c2 c3 (.slice a1 n1 m1) (.slice a2 n2 m2) (.int .i64 0) (.int .i64 0) (.cells #[.int .i64 0, .int .i64 0] 32))
      have H8 := Lib.hid (And.intro hx (And.intro hat8 (And.intro hnd8 (And.intro hge8 hg8))))
      clear hx hr8 hl8 hat8 hnd8 hge8 hg8 hk hs7
      go_wp2_with fail
      refine leaves_cons (f := 19) (args := #[.pointer (some ⟨w.heap.size, 0, none⟩), .pointer (some ⟨w.heap.size + 1, 0, none⟩)]) (by simp) (by simp [go_sem]) ?_
      refine (text_idle ⟨w.heap.size, 0, none⟩ ⟨w.heap.size + 1, 0, none⟩ _).mono ?_
      rintro e u' w'' ⟨rfl, rfl, rfl⟩
      have HTOLD : Hid (ToldT (textT s.data.toList) w (.returned (.tuple #[.agg #[.slice a1 n1 m1, .slice a2 n2 m2], .agg #[.int .i64 0, .int .i64 0]])) ((four2 w8 w.heap.size (.slice a1 n1 m1) (.slice a2 n2 m2) (.int .i64 0) (.int .i64 0)).alloc (.cells #[.int .i64 0, .int .i64 0] 32))) := by
        obtain ⟨hx, hat8, hnd8, hge8, hg8⟩ := H8.out
        have hs7 := HF.out.2.2.2.2
        have hlt := AtL.lt _ _ _ hat8
        have hs4 : (four2 w8 w.heap.size (.slice a1 n1 m1) (.slice a2 n2 m2) (.int .i64 0) (.int .i64 0)).heap.size = w8.heap.size := by simp [four2, World.setCell]
        refine .inl ⟨x, S, [.slice a1 n1 m1, .slice a2 n2 m2], textT_3 HO.out.1 hx, rfl, AtL.same _ _ _ hat8 (fun i hi => ?_), hnd8, fun i hi => by have := hge8 i hi; omega, ?_⟩
        · have h9 := hge8 i hi
          rw [heap_alloc_old _ _ (by rw [hs4]; exact hlt i hi)]
          exact four2_same _ _ _ _ _ _ _ (by omega) (by omega)
        · have h1 : Below w.heap.size w w8 := HF.out.2.2.2.1.trans ⟨hg8.os, hg8.tape, hg8.output, hg8.size, fun i hi => hg8.block i (by omega) (by intro h3; injection h3 with h3; omega)⟩
          exact (h1.trans (four2_low _ _ _ _ _ _ _ (Nat.le_refl _))).alloc (by rw [hs4]; have := h1.size; omega) _
      have hk := HK.out
      unfold four2 at hk HTOLD
      obtain ⟨k0, k1, k2, k3⟩ := hk
      simp [Leaves, settle, results, Tryz.results8, go_sem, k0, k1, k2, k3]
      exact HTOLD.out
    · have hk : ∀ i, i < W7.heap.size → i ≠ w5.heap.size → w8.heap[i]? = W7.heap[i]? := fun i hi hne => hg8.block i hi (by intro h3; injection h3 with h3; exact hne h3)
      have hs7 := HF.out.2.2.2.2
      have hs8 := hg8.size
      obtain ⟨⟨c0, c1⟩, z0, z1⟩ := two_facts ((hk w.heap.size (by omega) (by omega)).trans HF.out.2.1)
      obtain ⟨⟨c2, c3⟩, z2, z3⟩ := two_facts ((hk (w.heap.size + 1) (by omega) (by omega)).trans HF.out.2.2.1)
      have HX := Lib.hid hx
      have HBL : Hid (Below w.heap.size w w8) := HF.out.2.2.2.1.trans ⟨hg8.os, hg8.tape, hg8.output, hg8.size, fun i hi => hg8.block i (by omega) (by intro h3; injection h3 with h3; omega)⟩
      have hlt8 : w.heap.size + 1 < w8.heap.size := by omega
      clear hx hg8 hk hs7
      refine leaves_cons (f := 19) (args := #[.pointer (some ⟨w.heap.size, 0, none⟩), .pointer (some ⟨w.heap.size + 1, 0, none⟩)]) (by simp) (by simp [go_sem]) ?_
      refine (text_catch w.heap.size _ _ _ _ (c : Int) (q : Int) [] w8 hlt8 c0 c1 z0 z1 c2 c3 z2 z3).mono ?_
      rintro e u' w'' ⟨rfl, rfl, k0, k1, k2, k3, kb⟩
      have HTOLD : Hid (ToldT (textT s.data.toList) w (.returned (.tuple #[.agg #[.slice none 0 0, .slice none 0 0], .agg #[.int .i64 (c : Int), .int .i64 (q : Int)]])) w'') := .inr ⟨c, q, textT_2 HO.out.1 HX.out, rfl, HBL.out.trans kb⟩
      simp [Leaves, settle, results, Tryz.results8, go_sem, k0, k1, k2, k3]
      exact HTOLD.out
  · have hs5 : w.heap.size + 2 ≤ w5.heap.size := by have := hb5.size; have := HE.out.2.2.2; omega
    have E0 := (hb5.block w.heap.size (by have := HE.out.2.2.2; omega)).trans HE.out.1
    have E1 := (hb5.block (w.heap.size + 1) (by have := HE.out.2.2.2; omega)).trans HE.out.2.1
    obtain ⟨⟨c0, c1⟩, z0, z1⟩ := two_facts E0
    obtain ⟨⟨c2, c3⟩, z2, z3⟩ := two_facts E1
    have hc0 := tokens_err hR
    have i0 : ¬ (c : Int) = 0 := by omega
    have i1 : ((c : Int) == 0) = false := by simpa using i0
    have i2 : ((c : Int) != 0) = true := by simpa using i0
    have HR := Lib.hid hR
    have HBL : Hid (Below w.heap.size w w5) := HE.out.2.2.1.trans (hb5.mono (by have := HE.out.2.2.2; omega))
    have hl1 : w.heap.size + 1 < w5.heap.size := by omega
    have hl0 : w.heap.size < w5.heap.size := by omega
    obtain ⟨W6, hW6⟩ : ∃ W6, W6 = (w5.setCell ⟨w.heap.size + 1, 0, none⟩ (.int .i64 (c : Int))).setCell ⟨w.heap.size + 1, 1, none⟩ (.int .i64 (q : Int)) := ⟨_, rfl⟩
    have F1 : W6.heap[w.heap.size + 1]? = some (.cells #[.int .i64 (c : Int), .int .i64 (q : Int)] 32 (0, 0)) := by
      rw [hW6, heap_setCell_same _ _ 1 _ _ _ (heap_setCell_same _ _ 0 _ _ _ E1)]; rfl
    have F0 : W6.heap[w.heap.size]? = some (.cells zeroText 25 (0, 0)) := by
      rw [hW6, Below.heap_setCell _ _ _ _ (by show w.heap.size ≠ w.heap.size + 1; omega), Below.heap_setCell _ _ _ _ (by show w.heap.size ≠ w.heap.size + 1; omega)]; exact E0
    have HB6 : Hid (Below w.heap.size w W6) := by
      rw [hW6]
      exact (HBL.out.setCell (p := ⟨w.heap.size + 1, 0, none⟩) (by show w.heap.size ≤ w.heap.size + 1; omega) _).setCell (p := ⟨w.heap.size + 1, 1, none⟩) (by show w.heap.size ≤ w.heap.size + 1; omega) _
    have HW6 := Lib.hid hW6
    clear hR hb5 hc0 E0 E1 hs5 hW6
    go_upto_region 3 with fail
    rw [← HW6.out]
    clear c0 c1 c2 c3 z0 z1 z2 z3
    obtain ⟨⟨c0, c1⟩, z0, z1⟩ := two_facts F0
    obtain ⟨⟨c2, c3⟩, z2, z3⟩ := two_facts F1
    clear F0 F1
    have nm : ¬ w.heap.size = w.heap.size + 1 := by omega
    have nm2 : ¬ w.heap.size + 1 = w.heap.size := by omega
    obtain ⟨m, hm⟩ : ∃ m, w.heap.size = m := ⟨_, rfl⟩
    have HM := Lib.hid hm
    rw [hm] at c0 c1 c2 c3 z0 z1 z2 z3 nm nm2 HB6 ⊢
    clear hm hl0 hl1
    go_region
    all_goals
      go_wp2_with fail
      simp [bodyPostD, Leaves, results, Tryz.results8, go_sem, c0, c1, c2, c3, nm, nm2]
      refine .inr ⟨c, q, textT_1 HR.out, rfl, ?_⟩
      rw [HM.out]
      first
        | exact ((((HB6.out.setCell (p := ⟨m, 0, none⟩) (Nat.le_refl _) _).setCell (p := ⟨m, 1, none⟩) (Nat.le_refl _) _).setCell (p := ⟨m + 1, 0, none⟩) (by show m ≤ m + 1; omega) _).setCell (p := ⟨m + 1, 1, none⟩) (by show m ≤ m + 1; omega) _).drew
end Go.Proofs.YtngimijiafnheaaGreat
