/- LexTells: the walk. -/
import Derived.Test.YtkcgccbmndgepaaGreatDoorLexX
import Derived.Test.YtkcgccbmndgepaaGreatDoorFlP
import Derived.Test.YtkcgccbmndgepaaGreatDoorFlG
import Derived.Laws.StructEq
set_option maxRecDepth 100000
namespace LexT
def cOf (R : Except (Nat × Nat) (List Tok)) : Nat := match R with | .ok _ => 0 | .error (c, _) => c
def qOf (R : Except (Nat × Nat) (List Tok)) : Nat := match R with | .ok _ => 0 | .error (_, q) => q
def tsOf (R : Except (Nat × Nat) (List Tok)) : List Tok := match R with | .ok ts => ts | .error _ => []
end LexT
namespace Go.Proofs.YtkcgccbmndgepaaGreatDoor
open Go.Instr Go.RowKit LexT FlT
set_option linter.unusedVariables false
set_option linter.unusedSimpArgs false
theorem tells_one {R : Except (Nat × Nat) (List Tok)} {w w' : World} {e : Ending} (h : Told R w e w') : ∃ tv, e = .returned (.tuple #[tv, .agg #[.int .i64 (cOf R : Int), .int .i64 (qOf R : Int)]]) ∧ w'.ownsRow w.heap.size 57 3 tv (tsOf R).length (tcells (tsOf R)) ∧ (tsOf R).length ≤ 70000 ∧ Below w.heap.size w w' := by
  rcases h with ⟨out, tv, rfl, rfl, ho, hl, hb⟩ | ⟨c, q, rfl, rfl, hb⟩
  · exact ⟨tv, rfl, ho, hl, hb⟩
  · exact ⟨_, rfl, World.ownsRow_nil _ _ _ _, by simp [tsOf], hb⟩
theorem moves_under {S : Nat → Prop} {a w w' : World} {B : Nat} (h : Moves S w w') (hb : Below B a w) (hS : ∀ b, S b → B ≤ b) (hB : B ≤ w.heap.size) : Below B a w' :=
  ⟨h.os.trans hb.os, h.tape.trans hb.tape, h.output.trans hb.output, Nat.le_trans hb.size h.size, fun b hlt => (h.block b (by omega) (fun hs => by have := hS b hs; omega)).trans (hb.block b hlt)⟩
/-- Two rows of tokens of the call's own lie apart. -/
theorem toks_apart (lo : Nat) (ts : List Tok) (v1 v3 : Value) (w : World) (hl : ts.length < 1000000) (h1 : w.ownsRow lo 57 3 v1 ts.length (tcells ts)) (h3 : w.ownsRow lo 57 3 v3 ts.length (tcells ts))
    (hne : ∀ b, v1.ownBlock = some b → v3.ownBlock ≠ some b) (hlo : lo ≤ w.heap.size) :
    Calls Tryz.prog 12 #[.slice (some ⟨w.heap.size, 0, none⟩) 2 2] (w.alloc (.cells #[v1, v3] 29)) fun e w' => e = .returned (.bool true) ∧ Below lo w w' := by
  refine (ApartTokens_of lo w.heap.size 2 (fun k => if k = 0 then v1 else v3) (fun _ => ts.length) (fun _ => tcells ts) 2 _ (by decide) (by decide) (fun _ _ => hl) (fun k hk => ?_) (fun k hk => ?_) (fun k j hk hj hkj b hb1 hb2 => ?_) (by simp; omega) (fun b v T S w h1 h2 h3 h4 => apart_any b v T S w h1 h2 h3 h4)).mono ?_
  · rw [World.cell?_alloc_new]
    match k, hk with
    | 0, _ => rfl
    | 1, _ => rfl
  · match k, hk with
    | 0, _ => exact h1.alloc _
    | 1, _ => exact h3.alloc _
  · match k, hk, j, hj with
    | 0, _, 0, _ => exact hkj rfl
    | 1, _, 1, _ => exact hkj rfl
    | 0, _, 1, _ => exact hne b hb1 hb2
    | 1, _, 0, _ => exact hne b hb2 hb1
  · rintro e w' ⟨rfl, hm⟩
    refine ⟨rfl, moves_under hm ((Below.refl _ _).alloc hlo _) ?_ (by simp; omega)⟩
    rintro b ⟨k, hk, hb1⟩
    match k, hk with
    | 0, _ => exact (h1.lt b hb1).1
    | 1, _ => exact (h3.lt b hb1).1
theorem row_under {B lo : Nat} {T : TypeId} {n : Nat} {v : Value} {xs : List Value} {w w' : World} (h : w.ownsRow lo T 3 v n xs) (hb : Below B w w') (hB : w.heap.size ≤ B) : w'.ownsRow lo T 3 v n xs :=
  row_keep h fun b e => hb.block b (by have := (h.lt b e).2; omega)
set_option maxHeartbeats 4000000 in
theorem LexTells_any (s : ByteArray) (w : World) (hs : s.size ≤ maxLen) : Calls Tryz.prog 4 #[.string s] w fun e w' => e = .returned (.bool true) ∧ Below w.heap.size w w' := by
  by_cases h1 : s.size ≤ 70000
  · have g1 : decide ((70000 : Int) < (s.size : Int)) = false := by simp; omega
    have HT := Lib.hid (fun ww => (Tokens_any s ww hs).mono (fun _ _ h => tells_one h))
    have HR := Lib.hid (fun ww => (RefTokens_any s ww hs).mono (fun _ _ h => tells_one h))
    obtain ⟨c, hc⟩ : ∃ c, cOf (tokensT s.data.toList) = c := ⟨_, rfl⟩
    obtain ⟨q, hq⟩ : ∃ q, qOf (tokensT s.data.toList) = q := ⟨_, rfl⟩
    obtain ⟨ts, hts⟩ : ∃ ts, tsOf (tokensT s.data.toList) = ts := ⟨_, rfl⟩
    rw [hc, hq, hts] at HT HR
    clear hc hq hts hs h1
    go_enter Tryz.func4, Tryz.ntmps4
    go_wp2_with fail
    refine (HT.out w).mono ?_
    rintro e w1 ⟨tv1, rfl, ho1, hl, hb1⟩
    obtain ⟨ao1, c1, hv1, tk1⟩ := toks_of_own ho1
    subst hv1
    have HO1 := Lib.hid ho1
    have HK1 := Lib.hid tk1
    have HB1 := Lib.hid hb1
    have hs1 := hb1.size
    clear ho1 tk1 hb1
    go_wp2_with fail
    refine (HR.out _).mono ?_
    rintro e w2 ⟨tv2, rfl, ho2, _, hb2⟩
    obtain ⟨ao2, c2, hv2, tk2⟩ := toks_of_own ho2
    subst hv2
    have HK2 := Lib.hid tk2
    have hs2 := hb2.size
    rw [World.size_alloc] at hs2
    have HF2 : Hid (w2.heap[w1.heap.size]? = some (.cells #[.int .i64 (c : Int), .int .i64 (q : Int)] 32)) := (hb2.block _ (by rw [World.size_alloc]; omega)).trans (heap_alloc_new _ _)
    have HB2 : Hid (Below w1.heap.size w1 w2) := ((Below.refl _ _).alloc (Nat.le_refl _) _).trans (hb2.mono (by rw [World.size_alloc]; omega))
    clear ho2 tk2 hb2
    go_wp2_with fail
    refine (HT.out _).mono ?_
    rintro e w3 ⟨tv3, rfl, ho3, _, hb3⟩
    obtain ⟨ao3, c3, hv3, tk3⟩ := toks_of_own ho3
    subst hv3
    have hs3 := hb3.size
    rw [World.size_alloc] at hs3
    rw [World.size_alloc] at ho3
    have HO3 := Lib.hid ho3
    have hq2 : w3.heap[w2.heap.size]? = some (.cells #[.int .i64 (c : Int), .int .i64 (q : Int)] 32) := (hb3.block _ (by rw [World.size_alloc]; omega)).trans (heap_alloc_new _ _)
    have HB3 : Hid (Below w2.heap.size w2 w3) := ((Below.refl _ _).alloc (Nat.le_refl _) _).trans (hb3.mono (by rw [World.size_alloc]; omega))
    have hq1 : w3.heap[w1.heap.size]? = some (.cells #[.int .i64 (c : Int), .int .i64 (q : Int)] 32) := (HB3.out.block _ (by omega)).trans HF2.out
    have k0 : w3.cell? ⟨w1.heap.size, 0, none⟩ = some (.int .i64 (c : Int)) := by rw [cell_of_row w3 w1.heap.size 0 _ 32 (0, 0) hq1]; rfl
    have k1 : w3.cell? ⟨w1.heap.size, 1, none⟩ = some (.int .i64 (q : Int)) := by rw [cell_of_row w3 w1.heap.size 1 _ 32 (0, 0) hq1]; rfl
    have j0 : w3.cell? ⟨w2.heap.size, 0, none⟩ = some (.int .i64 (c : Int)) := by rw [cell_of_row w3 w2.heap.size 0 _ 32 (0, 0) hq2]; rfl
    have j1 : w3.cell? ⟨w2.heap.size, 1, none⟩ = some (.int .i64 (q : Int)) := by rw [cell_of_row w3 w2.heap.size 1 _ 32 (0, 0) hq2]; rfl
    have l1 : w1.heap.size < w3.heap.size := by omega
    have l2 : w2.heap.size < w3.heap.size := by omega
    have n1 : ¬ w1.heap.size = w3.heap.size := by omega
    have n2 : ¬ w2.heap.size = w3.heap.size := by omega
    have HB13 : Hid (Below w1.heap.size w1 w3) := HB2.out.trans (HB3.out.mono (by omega))
    clear hb3 tk3 ho3 hq1 hq2 HF2
    go_wp2_with fail
    refine (SameTokens_any ts ao1 ao2 c1 c2 _ (by omega) ((HK1.out.under HB13.out).under ((Below.refl _ _).alloc (by omega) _)) ((HK2.out.under HB3.out).under ((Below.refl _ _).alloc (by omega) _))).mono ?_
    rintro e w4 ⟨rfl, hb4⟩
    have hs4 := hb4.size
    rw [World.size_alloc] at hs4
    have HB4 : Hid (Below w3.heap.size w3 w4) := ((Below.refl _ _).alloc (Nat.le_refl _) _).trans (hb4.mono (by rw [World.size_alloc]; omega))
    clear hb4
    have HAP : Hid (Calls Tryz.prog 12 #[.slice (some ⟨w4.heap.size, 0, none⟩) 2 2] (w4.alloc (.cells #[.slice ao1 ts.length c1, .slice ao3 ts.length c3] 29)) fun e w' => e = .returned (.bool true) ∧ Below w.heap.size w4 w') := by
      refine toks_apart w.heap.size ts _ _ w4 (by omega) (row_under HO1.out (HB13.out.trans (HB4.out.mono (by omega))) (Nat.le_refl _)) (own_mono (row_under HO3.out HB4.out (Nat.le_refl _)) (by omega)) (fun b e1 e2 => ?_) (by omega)
      have q1 := (HO1.out.lt b e1).2
      have q3 := (HO3.out.lt b e2).1
      omega
    have HB14 : Hid (Below w.heap.size w w4) := (HB1.out.trans (HB13.out.mono hs1)).trans (HB4.out.mono (by omega))
    go_wp2_with fail
    refine HAP.out.mono ?_
    rintro e w5 ⟨rfl, hb5⟩
    have HB5 : Hid (Below w.heap.size w w5) := HB14.out.trans hb5
    clear hb5
    go_wp2_with fail
    refine (awake_any w5).mono ?_
    rintro e w6 ⟨rfl, hb6⟩
    have HB6 : Hid (Below w.heap.size w w6) := HB5.out.trans (hb6.mono HB5.out.size)
    clear hb6
    go_wp2_with fail
    go_ret
    exact ⟨rfl, HB6.out⟩
  · have g1 : decide ((70000 : Int) < (s.size : Int)) = true := by simp; omega
    go_enter Tryz.func4, Tryz.ntmps4
    go_wp2_with fail
    refine (awake_any w).mono ?_
    rintro e w1 ⟨rfl, hb1⟩
    have HB1 := Lib.hid hb1
    clear hb1
    go_wp2_with fail
    go_ret
    exact ⟨rfl, HB1.out⟩
end Go.Proofs.YtkcgccbmndgepaaGreatDoor
