/- Tokens. -/
import Derived.Test.YtngimijiafnheaaGreatLexN
import Derived.Defers
import Derived.Recover
import Derived.RegionTactic
import Derived.ChangeAlike
set_option maxRecDepth 100000
namespace Go.Proofs.YtngimijiafnheaaGreat
open Go.Instr Go.RowKit LexT
set_option linter.unusedVariables false
/-- What the deferred call leaves where a fault was panicked with. -/
structure Caught (b : Nat) (c q : Int) (w w' : World) : Prop where
  c0 : w'.cell? ⟨b, 0, none⟩ = some (.slice none 0 0)
  c1 : w'.cell? ⟨b + 1, 0, none⟩ = some (.int .i64 c)
  c2 : w'.cell? ⟨b + 1, 1, none⟩ = some (.int .i64 q)
  below : Below b w w'
theorem caught_of {b n : Nat} {c q : Int} {x y0 y1 : Value} {w W : World} (h : Below n w W) (hb : b ≤ n) (g0 : W.cell? ⟨b, 0, none⟩ = some x) (g1 : W.cell? ⟨b + 1, 0, none⟩ = some y0) (g2 : W.cell? ⟨b + 1, 1, none⟩ = some y1) :
    Caught b c q w (((W.setCell ⟨b, 0, none⟩ (.slice none 0 0)).setCell ⟨b + 1, 0, none⟩ (.int .i64 c)).setCell ⟨b + 1, 1, none⟩ (.int .i64 q)).drew := by
  refine ⟨by simp [go_sem, g0], by simp [go_sem, g1], by simp [go_sem, g2], ?_⟩
  exact (((((h.mono hb).setCell (p := ⟨b, 0, none⟩) (Nat.le_refl _) _).setCell (p := ⟨b + 1, 0, none⟩) (by show b ≤ b + 1; omega) _).setCell (p := ⟨b + 1, 1, none⟩) (by show b ≤ b + 1; omega) _)).drew
set_option maxHeartbeats 1000000 in
theorem tokens_catch (b : Nat) (x y0 y1 : Value) (c q : Int) (older : List PanicEntry) (w : World) (hb : b + 1 < w.heap.size) (h0 : w.cell? ⟨b, 0, none⟩ = some x) (z0 : w.frozen? ⟨b, 0, none⟩ = false) (h1 : w.cell? ⟨b + 1, 0, none⟩ = some y0) (h2 : w.cell? ⟨b + 1, 1, none⟩ = some y1) (z1 : w.frozen? ⟨b + 1, 0, none⟩ = false) (z2 : w.frozen? ⟨b + 1, 1, none⟩ = false) :
    CallsD Tryz.prog 30 #[.pointer (some ⟨b, 0, none⟩), .pointer (some ⟨b + 1, 0, none⟩)] (.panicking ({ v := .iface 32 (.agg #[.int .i64 c, .int .i64 q]), recovered := false } :: older)) w fun e u' w' =>
      e = .returned (.tuple #[]) ∧ u' = .panicking ({ v := .iface 32 (.agg #[.int .i64 c, .int .i64 q]), recovered := true } :: older) ∧ Caught b c q w w' := by
  have hta : ∀ w : World, (typeAssert (.iface 32 (.agg #[.int .i64 c, .int .i64 q])) 20 32 true).run Tryz.prog w = .ok (.tuple #[.agg #[.int .i64 c, .int .i64 q], .bool true]) w := fun _ => by kernel_rfl
  refine callsD_of_wpS Tryz.func30 rfl fun c₀ cs hu => ?_
  apply wpS_seq
  apply wpS_region
  simp [wpOpsS, go_sem, recoverD, hu, hta, Tryz.ntmps30, Exit.thenS]
  refine wpS_of_wp ?_
  simp only [Array.replicate, List.replicate, List.setIfInBounds_toArray, List.set_cons_succ, List.set_cons_zero, List.append_toArray, List.cons_append, List.nil_append]
  clear hta
  have hbw : Below w.heap.size w (w.alloc (.cells #[.int .i64 c, .int .i64 q] 32)) := (Below.refl _ _).alloc (Nat.le_refl _) _
  have g0 := (hbw.cell (p := ⟨b, 0, none⟩) (by show b < _; omega)).trans h0
  have g1 := (hbw.cell (p := ⟨b + 1, 0, none⟩) (by show b + 1 < _; omega)).trans h1
  have g2 := (hbw.cell (p := ⟨b + 1, 1, none⟩) (by show b + 1 < _; omega)).trans h2
  have f0 := (hbw.frozen (p := ⟨b, 0, none⟩) (by show b < _; omega)).trans z0
  have f1 := (hbw.frozen (p := ⟨b + 1, 0, none⟩) (by show b + 1 < _; omega)).trans z1
  have f2 := (hbw.frozen (p := ⟨b + 1, 1, none⟩) (by show b + 1 < _; omega)).trans z2
  have k0 : (w.alloc (.cells #[.int .i64 c, .int .i64 q] 32)).cell? ⟨w.heap.size, 0, none⟩ = some (.int .i64 c) := by simp [go_sem]
  have k1 : (w.alloc (.cells #[.int .i64 c, .int .i64 q] 32)).cell? ⟨w.heap.size, 1, none⟩ = some (.int .i64 q) := by simp [go_sem]
  clear h0 h1 h2 z0 z1 z2
  have HBW := Lib.hid hbw
  clear hbw
  generalize w.alloc (.cells #[.int .i64 c, .int .i64 q] 32) = W at *
  obtain ⟨n, hn⟩ : ∃ n, w.heap.size = n := ⟨_, rfl⟩
  rw [hn] at k0 k1 hb HBW ⊢
  have HNN := Lib.hid hn
  clear hn
  have hn0 : ¬ b = n := by omega
  have hn1 : ¬ b + 1 = n := by omega
  have hn2 : ¬ n = b := by omega
  have hn3 : ¬ n = b + 1 := by omega
  go_wp2_with fail
  go_region
  all_goals
    simp +zetaDelta [bodyPostS, results, Tryz.results30]
    exact caught_of HBW.out (by omega) g0 g1 g2
set_option maxHeartbeats 1000000 in
theorem tokens_idle (p q : Addr) (w : World) :
    CallsD Tryz.prog 30 #[.pointer (some p), .pointer (some q)] .returning w fun e u' w' => e = .returned (.tuple #[]) ∧ u' = .returning ∧ w' = w.alloc (.cells #[.int .i64 0, .int .i64 0] 32) := by
  have hta : ∀ w : World, (typeAssert .nilIface 20 32 true).run Tryz.prog w = .ok (.tuple #[.agg #[.int .i64 0, .int .i64 0], .bool false]) w := fun _ => by kernel_rfl
  refine callsD_of_wpS Tryz.func30 rfl fun c₀ cs hu => ?_
  apply wpS_seq
  apply wpS_region
  simp [wpOpsS, go_sem, recoverD, hu, hta, Tryz.ntmps30, Exit.thenS]
  refine wpS_of_wp ?_
  simp only [Array.replicate, List.replicate, List.setIfInBounds_toArray, List.set_cons_succ, List.set_cons_zero, List.append_toArray, List.cons_append, List.nil_append]
  clear hta
  go_wp2_with fail
  cases c₀
  simp_all +zetaDelta [bodyPostS, results, Tryz.results30]
theorem Clone_any (s : ByteArray) (w : World) (hs : s.size ≤ 65536) : Calls Tryz.prog 31 #[.string s] w fun e w' => e = .returned (.string s) ∧ Below w.heap.size w w' := by
  have H := Lib.hid (Go.Proofs.Tryz.stringslite_Clone s w (by omega))
  go_enter Tryz.func31, Tryz.ntmps31
  go_wp2_with fail
  refine H.out.mono ?_
  rintro e w1 ⟨rfl, hb⟩
  have HB := Lib.hid hb
  clear hb
  go_wp2_with fail
  go_ret
  exact ⟨rfl, HB.out⟩
/-- What Tokens tells. -/
def Told (R : Except (Nat × Nat) (List Tok)) (w : World) (e : Ending) (w' : World) : Prop :=
  (∃ out tv, R = .ok out ∧ e = .returned (.tuple #[tv, .agg #[.int .i64 0, .int .i64 0]]) ∧ w'.ownsRow w.heap.size 110 3 tv out.length (tcells out) ∧ out.length ≤ 70000 ∧ Below w.heap.size w w') ∨
  (∃ c q, R = .error (c, q) ∧ e = .returned (.tuple #[.slice none 0 0, .agg #[.int .i64 (c : Int), .int .i64 (q : Int)]]) ∧ Below w.heap.size w w')
/-- The two results' cells. -/
structure TwoAt (w w1 : World) : Prop where
  c0 : w1.cell? ⟨w.heap.size, 0, none⟩ = some (.slice none 0 0)
  f0 : w1.frozen? ⟨w.heap.size, 0, none⟩ = false
  c1 : w1.cell? ⟨w.heap.size + 1, 0, none⟩ = some (.int .i64 0)
  f1 : w1.frozen? ⟨w.heap.size + 1, 0, none⟩ = false
  c2 : w1.cell? ⟨w.heap.size + 1, 1, none⟩ = some (.int .i64 0)
  f2 : w1.frozen? ⟨w.heap.size + 1, 1, none⟩ = false
  lt : w.heap.size + 1 < w1.heap.size
theorem TwoAt.keep {w w1 w5 : World} (h : TwoAt w w1) (hb : Below w1.heap.size w1 w5) : TwoAt w w5 := by
  obtain ⟨c0, f0, c1, f1, c2, f2, lt⟩ := h
  have l0 : w.heap.size < w1.heap.size := by omega
  exact ⟨(hb.cell (p := ⟨w.heap.size, 0, none⟩) l0).trans c0, (hb.frozen (p := ⟨w.heap.size, 0, none⟩) l0).trans f0, (hb.cell (p := ⟨w.heap.size + 1, 0, none⟩) lt).trans c1, (hb.frozen (p := ⟨w.heap.size + 1, 0, none⟩) lt).trans f1, (hb.cell (p := ⟨w.heap.size + 1, 1, none⟩) lt).trans c2, (hb.frozen (p := ⟨w.heap.size + 1, 1, none⟩) lt).trans f2, Nat.lt_of_lt_of_le lt hb.size⟩
theorem cells_two (w w1 : World) (h : Below ((w.alloc (.cells #[.slice none 0 0] 63)).alloc (.cells #[.int .i64 0, .int .i64 0] 32)).heap.size ((w.alloc (.cells #[.slice none 0 0] 63)).alloc (.cells #[.int .i64 0, .int .i64 0] 32)) w1) : TwoAt w w1 := by
  have h0 : TwoAt w ((w.alloc (.cells #[.slice none 0 0] 63)).alloc (.cells #[.int .i64 0, .int .i64 0] 32)) := by
    constructor <;> simp [go_sem]
  exact h0.keep h
theorem own_moved {w5 Wf : World} {base b : Nat} {e : TypeId} {size : Nat} {v : Value} {n : Nat} {xs : List Value} (h : w5.ownsRow base e size v n xs) (hb : b + 1 < base) (hk : ∀ k, k ≠ b → k ≠ b + 1 → k < w5.heap.size → Wf.heap[k]? = w5.heap[k]?) (hz : w5.heap.size ≤ Wf.heap.size) : Wf.ownsRow b e size v n xs := by
  refine ⟨h.1, ?_⟩
  rcases h.2 with h0 | ⟨g, cap, cur, hv, hbg, hg, hrest⟩
  · exact .inl h0
  · exact .inr ⟨g, cap, cur, hv, by omega, (hk g (by omega) (by omega) (Array.getElem?_eq_some_iff.1 hg).1).trans hg, hrest⟩
theorem fin_two {w w5 : World} (h : TwoAt w w5) (v x y : Value) (o : Obj) : (((((w5.setCell ⟨w.heap.size, 0, none⟩ v).setCell ⟨w.heap.size + 1, 0, none⟩ x).setCell ⟨w.heap.size + 1, 1, none⟩ y).alloc o).cell? ⟨w.heap.size, 0, none⟩ = some v) ∧
    (((((w5.setCell ⟨w.heap.size, 0, none⟩ v).setCell ⟨w.heap.size + 1, 0, none⟩ x).setCell ⟨w.heap.size + 1, 1, none⟩ y).alloc o).cell? ⟨w.heap.size + 1, 0, none⟩ = some x) ∧
    (((((w5.setCell ⟨w.heap.size, 0, none⟩ v).setCell ⟨w.heap.size + 1, 0, none⟩ x).setCell ⟨w.heap.size + 1, 1, none⟩ y).alloc o).cell? ⟨w.heap.size + 1, 1, none⟩ = some y) ∧
    Below w.heap.size w5 ((((w5.setCell ⟨w.heap.size, 0, none⟩ v).setCell ⟨w.heap.size + 1, 0, none⟩ x).setCell ⟨w.heap.size + 1, 1, none⟩ y).alloc o) ∧
    (∀ k, k ≠ w.heap.size → k ≠ w.heap.size + 1 → k < w5.heap.size → ((((w5.setCell ⟨w.heap.size, 0, none⟩ v).setCell ⟨w.heap.size + 1, 0, none⟩ x).setCell ⟨w.heap.size + 1, 1, none⟩ y).alloc o).heap[k]? = w5.heap[k]?) ∧ w5.heap.size ≤ ((((w5.setCell ⟨w.heap.size, 0, none⟩ v).setCell ⟨w.heap.size + 1, 0, none⟩ x).setCell ⟨w.heap.size + 1, 1, none⟩ y).alloc o).heap.size := by
  obtain ⟨c0, f0, c1, f1, c2, f2, lt⟩ := h
  have l0 : w.heap.size < w5.heap.size := by omega
  have hs : (((w5.setCell ⟨w.heap.size, 0, none⟩ v).setCell ⟨w.heap.size + 1, 0, none⟩ x).setCell ⟨w.heap.size + 1, 1, none⟩ y).heap.size = w5.heap.size := by simp [World.setCell]
  refine ⟨?_, ?_, ?_, ?_, ?_, ?_⟩
  · rw [World.cell?_alloc_lt _ _ _ (by rw [hs]; exact l0)]; simp [go_sem, c0]
  · rw [World.cell?_alloc_lt _ _ _ (by rw [hs]; exact lt)]; simp [go_sem, c1]
  · rw [World.cell?_alloc_lt _ _ _ (by rw [hs]; exact lt)]; simp [go_sem, c2]
  · exact ((((Below.refl w.heap.size w5).setCell (p := ⟨w.heap.size, 0, none⟩) (Nat.le_refl _) _).setCell (p := ⟨w.heap.size + 1, 0, none⟩) (by show w.heap.size ≤ w.heap.size + 1; omega) _).setCell (p := ⟨w.heap.size + 1, 1, none⟩) (by show w.heap.size ≤ w.heap.size + 1; omega) _).alloc (by rw [hs]; omega) _
  · intro k h1 h2 hk
    rw [heap_alloc_old _ _ (by rw [hs]; exact hk), Below.heap_setCell _ _ _ _ (by show k ≠ w.heap.size + 1; exact h2), Below.heap_setCell _ _ _ _ (by show k ≠ w.heap.size + 1; exact h2), Below.heap_setCell _ _ _ _ (by show k ≠ w.heap.size; exact h1)]
  · simp [World.setCell]
theorem reader_new (w1 : World) (s : ByteArray) : St 110 ((w1.alloc (.cells #[.string s, .int .i64 0, .int .i64 0, .slice none 0 0, .int .i64 0, .map (some (w1.heap.size + 1))] 86)).alloc (.map (acts w1.heap.size) 4)) w1.heap.size s 0 0 [] (.slice none 0 0) 0 (.map (some (w1.heap.size + 1))) := by
  refine ⟨?_, World.ownsRow_nil _ _ _ _⟩
  constructor <;> simp [go_sem]
theorem acts_new (w1 : World) (s : ByteArray) : ActsAt ((w1.alloc (.cells #[.string s, .int .i64 0, .int .i64 0, .slice none 0 0, .int .i64 0, .map (some (w1.heap.size + 1))] 86)).alloc (.map (acts w1.heap.size) 4)) (w1.heap.size + 1) w1.heap.size := by
  unfold ActsAt
  have := (MapKept.heap_alloc (w1.alloc (.cells #[.string s, .int .i64 0, .int .i64 0, .slice none 0 0, .int .i64 0, .map (some (w1.heap.size + 1))] 86)) (.map (acts w1.heap.size) 4)).1
  rwa [World.size_alloc] at this
theorem new_below (w1 : World) (s : ByteArray) : Below w1.heap.size w1 ((w1.alloc (.cells #[.string s, .int .i64 0, .int .i64 0, .slice none 0 0, .int .i64 0, .map (some (w1.heap.size + 1))] 86)).alloc (.map (acts w1.heap.size) 4)) :=
  ((Below.refl w1.heap.size w1).alloc (Nat.le_refl _) _).alloc (by simp) _
set_option maxHeartbeats 2000000 in
theorem Tokens_any (s : ByteArray) (w : World) (hm : s.size ≤ maxLen) : Calls Tryz.prog 18 #[.string s] w (Told (tokensT s.data.toList) w) := by
  have hmf : ∀ (fn : Fn) (first cap : Array Value) (w : World), (Instr.makeFunc fn first cap).run Tryz.prog w = .ok (.func fn first cap) w := fun _ _ _ _ => rfl
  unfold maxLen at hm
  by_cases hs : s.size ≤ 65536
  · have HT : Hid (tokensT s.data.toList = goT (s.size + 1) s.data.toList 0 []) := by
      show _ = _
      unfold tokensT
      rw [if_neg (by simp; omega)]
      simp
    have hs' : decide ((65536 : Int) < (s.size : Int)) = false := by simp; omega
    go_enter_defers Tryz.func18, Tryz.ntmps18
    go_wp2_with fail
    refine (Clone_any s _ hs).mono ?_
    rintro e w1 ⟨rfl, hb1⟩
    have HB1 := Lib.hid hb1
    clear hb1
    go_wp2_with fail
    have hz1 : w.heap.size + 1 < w1.heap.size := by have := HB1.out.size; simp at this; omega
    have HBR := Lib.hid (cells_two w w1 HB1.out)
    have HSTR := Lib.hid (reader_new w1 s)
    have HACT := Lib.hid (acts_new w1 s)
    have HNB := Lib.hid (new_below w1 s)
    refine (doings_any w1.heap.size _).mono ?_
    rintro e w2 ⟨rfl, hw2⟩
    subst hw2
    clear hm hs'
    go_wp2_with fail
    have HZ1 := Lib.hid hz1
    clear hz1
    refine (readAll_any _ HSTR.out HACT.out (Lib.hid rfl) hs).mono ?_
    generalize ((w1.alloc (.cells #[.string s, .int .i64 0, .int .i64 0, .slice none 0 0, .int .i64 0, .map (some (w1.heap.size + 1))] 86)).alloc (.map (acts w1.heap.size) 4)) = W3 at *
    rintro e w5 (⟨out, hR, rfl, hout, ⟨fr, a, tv, hst⟩, hb5⟩ | ⟨c, q, hR, rfl, hb5⟩)
    · have HR : Hid (tokensT s.data.toList = .ok out) := HT.out.trans hR
      obtain ⟨ao, cc, rfl⟩ := own_form hst.own
      have HST := Lib.hid hst
      have HBB : Hid (Below w1.heap.size w1 w5) := HNB.out.trans (hb5.below HNB.out.size)
      have hd3 := hst.box.c3
      obtain ⟨e0, e1, e2, e3, e4, e5, e6⟩ := (HBR.out.keep HBB.out)
      have hw5 := HBB.out.size
      clear hR hst hb5
      have hlt5 : w.heap.size + 1 < w5.heap.size := by omega
      go_wp2_with fail
      refine leaves_cons (f := 30) (args := #[.pointer (some ⟨w.heap.size, 0, none⟩), .pointer (some ⟨w.heap.size + 1, 0, none⟩)]) (by simp) (by simp [go_sem]) ?_
      refine (tokens_idle ⟨w.heap.size, 0, none⟩ ⟨w.heap.size + 1, 0, none⟩ _).mono ?_
      rintro e u' w'' ⟨rfl, rfl, rfl⟩
      obtain ⟨k0, k1, k2, kb, kk, kz⟩ := fin_two (HBR.out.keep HBB.out) (.slice ao out.length cc) (.int .i64 0) (.int .i64 0) (.cells #[.int .i64 0, .int .i64 0] 32)
      have HBL : Hid (Below w.heap.size w w5) := by
        have h1 : Below w.heap.size w w1 := (((Below.refl w.heap.size w).alloc (Nat.le_refl _) _).alloc (by simp) _).trans (HB1.out.mono (by simp; omega))
        exact h1.trans (HBB.out.mono (by have := h1.size; omega))
      generalize ((((w5.setCell ⟨w.heap.size, 0, none⟩ (.slice ao out.length cc)).setCell ⟨w.heap.size + 1, 0, none⟩ (.int .i64 0)).setCell ⟨w.heap.size + 1, 1, none⟩ (.int .i64 0)).alloc (.cells #[.int .i64 0, .int .i64 0] 32)) = Wf at *
      have hown := HST.out.own
      have HTOLD : Hid (Told (tokensT s.data.toList) w (.returned (.tuple #[.slice ao out.length cc, .agg #[.int .i64 0, .int .i64 0]])) Wf) := by
        refine .inl ⟨out, _, HR.out, rfl, ?_, hout, HBL.out.trans kb⟩
        exact own_moved hown (by have := HBR.out.lt; omega) kk kz
      clear hown kk kz kb
      simp [Leaves, settle, results, Tryz.results18, go_sem, k0, k1, k2]
      exact HTOLD.out
    · have HR : Hid (tokensT s.data.toList = .error (c, q)) := HT.out.trans hR
      have HBB : Hid (Below w1.heap.size w1 w5) := HNB.out.trans (hb5.below HNB.out.size)
      obtain ⟨e0, e1, e2, e3, e4, e5, e6⟩ := (HBR.out.keep HBB.out)
      have HBL : Hid (Below w.heap.size w w5) := by
        have h1 : Below w.heap.size w w1 := (((Below.refl w.heap.size w).alloc (Nat.le_refl _) _).alloc (by simp) _).trans (HB1.out.mono (by simp; omega))
        exact h1.trans (HBB.out.mono (by have := h1.size; omega))
      clear hR hb5
      refine leaves_cons (f := 30) (args := #[.pointer (some ⟨w.heap.size, 0, none⟩), .pointer (some ⟨w.heap.size + 1, 0, none⟩)]) (by simp) (by simp [go_sem]) ?_
      refine (tokens_catch w.heap.size _ _ _ (c : Int) (q : Int) [] w5 e6 e0 e1 e2 e4 e3 e5).mono ?_
      rintro e u' w'' ⟨rfl, rfl, k0, k1, k2, kb⟩
      have HTOLD : Hid (Told (tokensT s.data.toList) w (.returned (.tuple #[.slice none 0 0, .agg #[.int .i64 (c : Int), .int .i64 (q : Int)]])) w'') := .inr ⟨c, q, HR.out, rfl, HBL.out.trans kb⟩
      simp [Leaves, settle, results, Tryz.results18, go_sem, k0, k1, k2]
      exact HTOLD.out
  · have HT : Hid (tokensT s.data.toList = .error (3, 0)) := by
      show _ = _
      unfold tokensT
      rw [if_pos (by simp; omega)]
    have hs' : decide ((65536 : Int) < (s.size : Int)) = true := by simp; omega
    go_enter_defers Tryz.func18, Tryz.ntmps18
    go_wp2_with fail
    simp [bodyPostD, Leaves, results, Tryz.results18, go_sem]
    exact .inr ⟨3, 0, HT.out, rfl, ((Below.refl _ _).alloc (Nat.le_refl _) _).alloc (by simp) _⟩
end Go.Proofs.YtngimijiafnheaaGreat
