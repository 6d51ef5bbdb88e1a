/- putTokens, ApartTokens: rows of tokens that lie apart are told to. -/
import Derived.Test.YthhfgjcdopkmgaaGreatDoorFlE
import Derived.Test.YthhfgjcdopkmgaaGreatDoorFlH
set_option maxRecDepth 100000
namespace Go.Proofs.YthhfgjcdopkmgaaGreatDoor
open Go.Instr Go.RowKit FlT
set_option linter.unusedVariables false
set_option linter.unusedSimpArgs false
theorem slice_new (w : World) (v : Value) (T : TypeId) : ∀ j u, [v][j]? = some u → (w.alloc (.cells #[v] T)).cell? ((⟨w.heap.size, 0, none⟩ : Addr).add j) = some u := by
  intro j u hu
  have hadd : (⟨w.heap.size, 0, none⟩ : Addr).add j = ⟨w.heap.size, j, none⟩ := by unfold Addr.add; split <;> simp_all
  have hj0 : j = 0 := by have := (List.getElem?_eq_some_iff.1 hu).1; simp at this; omega
  subst hj0
  rw [hadd, World.cell?_alloc_new]
  simpa using hu
theorem bag_set {w : World} {b : Nat} {v u : Value} {T : TypeId} (h : w.heap[b]? = some (.cells (bagCells v) T)) : (w.setCell ⟨b, 6, none⟩ u).heap[b]? = some (.cells (bagCells u) T) := by
  rw [heap_setCell_same w b 6 _ T u h]
  rfl
def PutsPost (lo b n : Nat) (xs : List Value) (l : Value) (w : World) (e : Ending) (w' : World) : Prop :=
  e = .returned (.tuple #[]) ∧ ∃ v', w'.heap[b]? = some (.cells (bagCells v') 102) ∧ w'.ownsRow lo 29 1 v' (n + 1) (xs ++ [l]) ∧ v'.ownBlock ≠ some b ∧ Below lo w w'
set_option maxHeartbeats 2000000 in
theorem putTokens_any (lo b n : Nat) (v : Value) (xs : List Value) (a : Option Addr) (m c : Nat) (w : World) (hb : w.heap[b]? = some (.cells (bagCells v) 102)) (hlo : lo ≤ b) (hown : w.ownsRow lo 29 1 v n xs) (hne : v.ownBlock ≠ some b) (hn : n < 1000000) :
    Calls Tryz.prog 31 #[.pointer (some ⟨b, 0, none⟩), .slice a m c] w (PutsPost lo b n xs (.slice a m c) w) := by
  obtain ⟨i0, hi, hz0, hz1, hz2⟩ := info_parts Tryz.infoSliceTokens
  have HI := Lib.hid (And.intro hi (And.intro hz0 (And.intro hz1 hz2)))
  have HO := Lib.hid hown
  have HH := Lib.hid hb
  have HN := Lib.hid hne
  have c0 : w.cell? ⟨b, 6, none⟩ = some v := bag_cell hb 6
  have f0 : w.frozen? ⟨b, 6, none⟩ = false := frozen_of_row w b 6 _ _ hb
  have hlt : b < w.heap.size := (Array.getElem?_eq_some_iff.1 hb).1
  have hlo2 : lo ≤ w.heap.size := by omega
  clear hi hz0 hz1 hz2 hown hb hne
  obtain ⟨a1, c1, hv, _, _, _, _⟩ := own_shape HO.out
  subst hv
  go_enter Tryz.func31, Tryz.ntmps31
  go_wp2_with (at_builtin; refine wpList_append_two rfl _ _ 37 rfl lo 29 i0 _ 1 24 Tryz.underlying37 HI.out.1 HI.out.2.1 HI.out.2.2.1 HI.out.2.2.2 rfl (by decide) _ n xs rfl (HO.out.alloc (.cells #[.slice a m c] 29)) ⟨w.heap.size, 0, none⟩ 1 1 (by decide) rfl [.slice a m c] rfl (slice_new w _ _) ?_ ?_ ?_ ?_ ?_)
  · intro u hu
    obtain rfl : u = .slice a m c := by simpa using hu
    rfl
  · unfold maxLen; omega
  · omega
  · simp; omega
  · intro v' w3 hG
    obtain ⟨r, c3, hv, _, _, _, _⟩ := own_head hG.1 (by omega)
    unfold row at hv
    subst hv
    have HB : Hid (w3.heap[b]? = some (.cells (bagCells (.slice a1 n c1)) 102) ∧ Below lo w w3 ∧ r ≠ b) := by
      have hw : (w.alloc (.cells #[.slice a m c] 29)).heap[b]? = w.heap[b]? := Below.heap_alloc _ _ _ hlt
      have hbl : Below lo w (w.alloc (.cells #[.slice a m c] 29)) := (Below.refl _ _).alloc hlo2 _
      rcases hG.2 with ⟨b', c4, e1, e2, h1⟩ | ⟨h1, h2⟩
      · have e3 : b' = r := by simp only [row, Value.slice.injEq, Option.some.injEq, Addr.mk.injEq, and_true] at e2; exact e2.1.symm
        subst e3
        have hnb : b' ≠ b := fun e => HN.out (by rw [e1, e]; rfl)
        exact ⟨((h1.block b (by simp; omega) (by simpa using fun e => hnb e.symm)).trans hw).trans HH.out, hbl.grown h1 (by simp; omega) (fun k hk => by obtain rfl : b' = k := (by simpa using hk); exact (HO.out.lt b' (by rw [e1]; rfl)).1), hnb⟩
      · have h3 := h2 r rfl
        simp at h3
        exact ⟨((h1.block b (by simp; omega) (by simp)).trans hw).trans HH.out, hbl.grown h1 (by simp; omega) (by simp), by omega⟩
    have HO3 := Lib.hid hG.1
    clear hG
    have c0 : w3.cell? ⟨b, 6, none⟩ = some (.slice a1 n c1) := bag_cell HB.out.1 6
    have f1 : w3.frozen? ⟨b, 6, none⟩ = false := frozen_of_row w3 b 6 _ _ HB.out.1
    have HFIN : Hid (PutsPost lo b n xs (.slice a m c) w (.returned (.tuple #[])) (w3.setCell ⟨b, 6, none⟩ (.slice (some ⟨r, 0, none⟩) (n + 1) c3))) :=
      ⟨rfl, _, bag_set HB.out.1, row_keep HO3.out fun k hk => Below.heap_setCell _ _ _ _ (by show k ≠ b; rintro rfl; have : r = k := (by simpa [Value.ownBlock] using hk); exact HB.out.2.2 this), by simpa [Value.ownBlock] using HB.out.2.2, HB.out.2.1.setCell hlo _⟩
    go_wp2_with fail
    go_end0
    exact HFIN.out
set_option maxHeartbeats 2000000 in
/-- Rows of tokens that lie apart are told to. -/
theorem ApartTokens_of (base a N : Nat) (LV : Nat → Value) (n : Nat → Nat) (xs : Nat → List Value) (c : Nat) (w : World) (h0 : 0 < N) (hN : N < 1000000) (hn : ∀ k, k < N → n k < 1000000)
    (hcell : ∀ k, k < N → w.cell? ⟨a, k, none⟩ = some (LV k)) (hins : ∀ k, k < N → w.ownsRow base 67 3 (LV k) (n k) (xs k)) (hinj : ∀ k j, k < N → j < N → k ≠ j → ∀ b, (LV k).ownBlock = some b → (LV j).ownBlock ≠ some b) (hB : base ≤ w.heap.size)
    (hap : ∀ (b : Nat) (v : Value) (T : TypeId) (S : Nat → Prop) (w : World), w.heap[b]? = some (.cells (bagCells v) T) → b < w.heap.size → ¬ S b → (∀ ww, Below w.heap.size w ww → Calls Tryz.prog 72 #[v] ww fun e w' => e = .returned (.bool true) ∧ Moves S ww w') → Calls Tryz.prog 32 #[.pointer (some ⟨b, 0, none⟩)] w fun e w' => e = .returned (.bool true) ∧ Moves S w w') :
    Calls Tryz.prog 12 #[.slice (some ⟨a, 0, none⟩) N c] w fun e w' => e = .returned (.bool true) ∧ Moves (fun b => ∃ k, k < N ∧ (LV k).ownBlock = some b) w w' := by
  have HIN := Lib.hid (And.intro hn (And.intro hcell (And.intro hins (And.intro hinj hap))))
  clear hn hcell hins hinj hap
  go_enter Tryz.func12, Tryz.ntmps12
  go_wp2_with fail
  go_loopg [4] N (fun gg v wr => ∃ k : Nat, k ≤ N ∧ gg = N - k ∧ v = .int .i64 k ∧ Below w.heap.size w wr ∧ ∃ u, wr.heap[w.heap.size]? = some (.cells (bagCells u) 102) ∧ wr.ownsRow w.heap.size 29 1 u k ((List.range k).map LV) ∧ u.ownBlock ≠ some w.heap.size)
  case atStart => exact ⟨0, by omega, rfl, rfl, (Below.refl _ _).alloc (Nat.le_refl _) _, .slice none 0 0, heap_alloc_new w _, World.ownsRow_nil _ _ _ _, by simp [Value.ownBlock]⟩
  case round =>
    obtain ⟨k, hk, hgk, rfl, hb, u, h1, h2, h3⟩ := hrel
    have HGK := Lib.hid hgk
    have HB := Lib.hid hb
    have HU := Lib.hid (And.intro h1 (And.intro h2 h3))
    clear hgk hb h1 h2 h3
    by_cases hlt : k < N
    · have t1 : decide ((k : Int) < (N : Int)) = true := by simp; omega
      have k0 : (0 : Int) ≤ (k : Int) := by omega
      have k1 : (k : Int) < (N : Int) := by omega
      obtain ⟨a0, c2, hr0, _, _, _, _⟩ := own_shape (HIN.out.2.2.1 k hlt)
      have HR := Lib.hid hr0
      clear hr0
      have c0 : wr.cell? ⟨a, k, none⟩ = some (.slice a0 (n k) c2) := by
        have h1 := HIN.out.2.1 k hlt
        rw [HR.out] at h1
        exact (HB.out.cell (p := ⟨a, k, none⟩) (World.block_lt_of_cell? _ _ h1)).trans h1
      go_wp2_with (go_at_call 31; refine (putTokens_any w.heap.size w.heap.size k u _ a0 (n k) c2 wr HU.out.1 (Nat.le_refl _) HU.out.2.1 HU.out.2.2 (by omega)).mono ?_; rintro e w2 ⟨rfl, v2, p1, p2, p3, p4⟩; have HU2 := Lib.hid (And.intro p1 (And.intro p2 (And.intro p3 p4))); clear p1 p2 p3 p4)
      go_roundg (N - (k + 1))
      case rel =>
        refine ⟨k + 1, by omega, rfl, by go_num, HB.out.trans HU2.out.2.2.2, v2, HU2.out.1, ?_, HU2.out.2.2.1⟩
        rw [List.range_succ, List.map_append, List.map_singleton, HR.out]
        exact HU2.out.2.1
      case measure => rw [HGK.out]; omega
    · have t1 : decide ((k : Int) < (N : Int)) = false := decide_eq_false (by omega)
      obtain rfl : N = k := by omega
      clear HGK
      have HAP : Hid (Calls Tryz.prog 32 #[.pointer (some ⟨w.heap.size, 0, none⟩)] wr fun e w' => e = .returned (.bool true) ∧ Moves (fun b => ∃ k, k < N ∧ (LV k).ownBlock = some b) w w') := by
        have hlow : ∀ k b, k < N → (LV k).ownBlock = some b → b < w.heap.size := fun k b hk hb => ((HIN.out.2.2.1 k hk).lt b hb).2
        refine (HIN.out.2.2.2.2 w.heap.size u 102 (fun b => ∃ k, k < N ∧ (LV k).ownBlock = some b) wr HU.out.1 (Array.getElem?_eq_some_iff.1 HU.out.1).1 ?_ ?_).mono ?_
        · rintro ⟨k, hk, hb⟩
          have := hlow k _ hk hb
          omega
        · intro ww hm
          have hu := row_keep HU.out.2.1 fun b hb => hm.block b (HU.out.2.1.lt b hb).2
          obtain ⟨g, cg, hv, hg0, _, _, _⟩ := own_head hu h0
          subst hv
          have hbl : Below w.heap.size w ww := HB.out.trans (hm.mono HB.out.size)
          refine flatTokens_any base g cg N LV n xs ww hN HIN.out.1 ⟨own_mono hu hB, fun k hk => row_keep (HIN.out.2.2.1 k hk) fun b hb => hbl.block b (hlow k b hk hb), fun k hk b hb => ?_, HIN.out.2.2.2.1⟩ ?_
          · have := hlow k b hk hb
            omega
          · have := hbl.size
            omega
        · rintro e w' ⟨h1, h2⟩
          exact ⟨h1, ((Moves.of_below HB.out).trans h2)⟩
      go_wp2_with (go_at_call 32; refine HAP.out.mono ?_; rintro e w2 ⟨rfl, hm⟩; have HM := Lib.hid hm; clear hm)
      go_ret
      exact ⟨rfl, HM.out⟩
end Go.Proofs.YthhfgjcdopkmgaaGreatDoor
