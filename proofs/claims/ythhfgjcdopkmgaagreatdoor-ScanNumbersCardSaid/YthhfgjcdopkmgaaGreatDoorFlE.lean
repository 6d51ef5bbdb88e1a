/- flatTokens: rows that lie apart. -/
import Derived.Test.YthhfgjcdopkmgaaGreatDoorFlM
import Derived.Test.YthhfgjcdopkmgaaGreatDoorFlB
import Derived.Test.YthhfgjcdopkmgaaGreatDoorFlD
import Derived.Test.YthhfgjcdopkmgaaGreatDoorNodQ
import Derived.LoopTactic
import Derived.Deep.LoopGhost
import Derived.OwnWalk
import Derived.Deep.RegionLaw
import Derived.BigRegion
import Derived.Deep.CutRange
import Derived.Laws.StructEq
set_option maxRecDepth 100000
namespace Go.Proofs.YthhfgjcdopkmgaaGreatDoor
open Go.Instr Go.RowKit FlT
set_option linter.unusedVariables false
set_option linter.unusedSimpArgs false
theorem Tryz.infoSliceTokens : (Tryz.prog.info? 29).map (fun i => (i.zero, i.size, i.bytes)) = some (some (.slice none 0 0), 1, 24) := by kernel_rfl
theorem Tryz.infoElemTokens : (Tryz.prog.info? 67).map (fun i => (i.zero, i.size, i.bytes)) = some (some (.agg #[.int .u8 0, .string ⟨#[]⟩, .int .i64 0]), 3, 32) := by kernel_rfl
def MTokens (k i : Nat) : List Value := [.int .u8 0, .string ⟨#[]⟩, .int .i64 ((1000003 * (k + 7) + (i) : Nat) : Int)]
theorem MTokens_len : ∀ k i, (MTokens k i).length = 3 := fun _ _ => rfl
theorem atTokens (k n i j : Nat) (hi : i < n) (hj : j < 3) : (mks MTokens k n)[i * 3 + j]? = (MTokens k i)[j]? := mks_at MTokens 3 MTokens_len k n i j hi hj
theorem eqTokens (q : Int) (w : World) : (binOp .eql 67 (.agg #[.int .u8 0, .string ⟨#[]⟩, .int .i64 q]) (.agg #[.int .u8 0, .string ⟨#[]⟩, .int .i64 q])).run Tryz.prog w = .ok (.bool true) w := by simp [go_sem]
theorem eqgTokens (q : Int) (x y : Operand) (w : World) : (eqGuard .eql 67 x y (.agg #[.int .u8 0, .string ⟨#[]⟩, .int .i64 q]) (.agg #[.int .u8 0, .string ⟨#[]⟩, .int .i64 q])).run Tryz.prog w = .ok () w := by simp [go_sem]
set_option maxHeartbeats 8000000 in
theorem flatTokens_any (base g cg N : Nat) (LV : Nat → Value) (n : Nat → Nat) (xs : Nat → List Value) (w : World) (hN : N < 1000000) (hn : ∀ k, k < N → n k < 1000000) (h : FL 29 67 base 3 g cg N LV n xs w) (hB : base ≤ w.heap.size) :
    Calls Tryz.prog 72 #[.slice (some ⟨g, 0, none⟩) N cg] w fun e w' => e = .returned (.bool true) ∧ Moves (fun b => ∃ k, k < N ∧ (LV k).ownBlock = some b) w w' := by
  have HN := Lib.hid (And.intro hN hn)
  have HX := Lib.hid h
  have HS := Lib.hid hB
  clear h hn hB
  go_enter Tryz.func72, Tryz.ntmps72
  go_wp2_with fail
  go_loopg [3] N (fun gg v wr => ∃ k : Nat, k ≤ N ∧ gg = N - k ∧ v = .int .i64 k ∧ FL 29 67 base 3 g cg N LV n (partM MTokens 3 n k 0 xs) wr ∧ Moves (fun b => ∃ k, k < N ∧ (LV k).ownBlock = some b) w wr)
  case atStart => exact ⟨0, by omega, rfl, rfl, HX.out.cast fun k hk => partM_start MTokens 3 n xs k, Moves.refl _ _⟩
  case round =>
    obtain ⟨k, hk, hgk, rfl, hF, hb⟩ := hrel
    have HGK := Lib.hid hgk
    have HF := Lib.hid hF
    have HB := Lib.hid hb
    clear hgk hF hb
    by_cases hlt : k < N
    · as_aux_lemma =>
        have t1 : decide ((k : Int) < (N : Int)) = true := by simp; omega
        have hnk := HN.out.2 k hlt
        go_wp2_with fail
        go_loopg [4] (n k) (fun gg v wr => ∃ i : Nat, i ≤ n k ∧ gg = n k - i ∧ v = .int .i64 i ∧ FL 29 67 base 3 g cg N LV n (partM MTokens 3 n k i xs) wr ∧ Moves (fun b => ∃ k, k < N ∧ (LV k).ownBlock = some b) w wr)
        case atStart => exact ⟨0, by omega, rfl, rfl, HF.out, HB.out⟩
        case round =>
          obtain ⟨i, hi, hgi, rfl, hF2, hb2⟩ := hrel
          have HGI := Lib.hid hgi
          have HF2 := Lib.hid hF2
          have HB2 := Lib.hid hb2
          clear hgi hF2 hb2 HF HB
          have k0 : (0 : Int) ≤ (k : Int) := by omega
          have k1 : (k : Int) < (N : Int) := by omega
          by_cases hli : i < n k
          · as_aux_lemma =>
              have t2 : decide ((i : Int) < (n k : Int)) = true := by simp; omega
              obtain ⟨r, c, hr0, _, _, _, _⟩ := own_head (HF2.out.ins k hlt) (by omega)
              have HR := Lib.hid hr0
              clear hr0
              have c0 : wr.cell? ⟨g, k, none⟩ = some (.slice (some ⟨r, 0, none⟩) (n k) c) := (HF2.out.outCell hlt).trans (congrArg some HR.out)
              go_upto_region 7 with fail
              have HLEN : Hid ((partM MTokens 3 n k i xs k).length = n k * 3) := (HF2.out.ins k hlt).1
              obtain ⟨v0, hv0⟩ : ∃ v, (partM MTokens 3 n k i xs k)[i * 3]? = some v := ⟨_, List.getElem?_eq_getElem (by rw [HLEN.out]; omega)⟩
              obtain ⟨v1, hv1⟩ : ∃ v, (partM MTokens 3 n k i xs k)[i * 3 + 1]? = some v := ⟨_, List.getElem?_eq_getElem (by rw [HLEN.out]; omega)⟩
              obtain ⟨v2, hv2⟩ : ∃ v, (partM MTokens 3 n k i xs k)[i * 3 + 2]? = some v := ⟨_, List.getElem?_eq_getElem (by rw [HLEN.out]; omega)⟩
              have i0 : (0 : Int) ≤ (i : Int) := by omega
              have i1 : (i : Int) < (n k : Int) := by omega
              have HC : Hid (Calls Tryz.prog 124 #[.int .i64 k, .int .i64 i] wr.drew fun e w' => e = .returned (.agg #[.int .u8 0, .string ⟨#[]⟩, .int .i64 ((1000003 * (k + 7) + (i) : Nat) : Int)]) ∧ Below wr.heap.size wr w') := by
                refine (markToken_any k i wr.drew (by have := HN.out.1; omega) (by omega)).mono ?_
                rintro e w' ⟨rfl, h2⟩
                exact ⟨rfl, ⟨h2.os, h2.tape, h2.output, h2.size, h2.block⟩⟩
              have KF : Hid (∀ w2, Below wr.heap.size wr w2 → w2.cell? ⟨g, k, none⟩ = some (.slice (some ⟨r, 0, none⟩) (n k) c) ∧ w2.cell? ⟨r, i * 3, none⟩ = some v0 ∧ w2.frozen? ⟨r, i * 3, none⟩ = false ∧ w2.cell? ⟨r, i * 3 + 1, none⟩ = some v1 ∧ w2.frozen? ⟨r, i * 3 + 1, none⟩ = false ∧ w2.cell? ⟨r, i * 3 + 2, none⟩ = some v2 ∧ w2.frozen? ⟨r, i * 3 + 2, none⟩ = false) := fun w2 hb => by
                have hl := HF2.out.later hb
                have h1 := hl.ins k hlt
                rw [HR.out] at h1
                exact ⟨(hl.outCell hlt).trans (congrArg some HR.out), (h1.cellAt (i * 3) (by omega)).trans hv0, h1.frozenAt (i * 3), (h1.cellAt (i * 3 + 1) (by omega)).trans hv1, h1.frozenAt (i * 3 + 1), (h1.cellAt (i * 3 + 2) (by omega)).trans hv2, h1.frozenAt (i * 3 + 2)⟩
              obtain ⟨q, q0, f0, q1, f1, q2, f2⟩ := KF.out wr (Below.refl _ _)
              clear hv0 hv1 hv2 c0
              have HFIN : Hid (∀ w2, Below wr.heap.size wr w2 → FL 29 67 base 3 g cg N LV n (partM MTokens 3 n k (i + 1) xs) (((w2.setCell ⟨r, i * 3, none⟩ (.int .u8 0)).setCell ⟨r, i * 3 + 1, none⟩ (.string ⟨#[]⟩)).setCell ⟨r, i * 3 + 2, none⟩ (.int .i64 ((1000003 * (k + 7) + (i) : Nat) : Int))) ∧ Moves (fun b => ∃ k, k < N ∧ (LV k).ownBlock = some b) w (((w2.setCell ⟨r, i * 3, none⟩ (.int .u8 0)).setCell ⟨r, i * 3 + 1, none⟩ (.string ⟨#[]⟩)).setCell ⟨r, i * 3 + 2, none⟩ (.int .i64 ((1000003 * (k + 7) + (i) : Nat) : Int)))) := fun w2 hb => by
                have h1 := HF2.out.later hb
                refine ⟨(((h1.store (i := i * 3) hlt HR.out _).store (i := i * 3 + 1) hlt HR.out _).store (i := i * 3 + 2) hlt HR.out _).cast fun j hj => ?_, ?_⟩
                · by_cases e : j = k
                  · subst e
                    simp only [if_true]
                    rw [partM_here, partM_here]
                    exact (upto_set3 MTokens j i (xs j) _ _ _ rfl (by have := (HX.out.ins j hj).1; omega)).symm
                  · simp only [if_neg e]
                    unfold partM
                    simp only [if_neg e]
                · have hbb := HB2.out.trans (Moves.of_below hb)
                  exact ((hbb.setCell (.inl ⟨k, hlt, by rw [HR.out]; rfl⟩) _).setCell (.inl ⟨k, hlt, by rw [HR.out]; rfl⟩) _).setCell (.inl ⟨k, hlt, by rw [HR.out]; rfl⟩) _
              go_region_law (first
                | (go_simp; go_at_call 124; refine HC.out.mono ?_; rintro e w2 ⟨rfl, hb2'⟩
                   obtain ⟨p, p0, g0, p1, g1, p2, g2⟩ := KF.out w2 hb2'
                   have HB3 := Lib.hid hb2'
                   clear hb2'))
              all_goals
                have hq := HFIN.out _ HB3.out
                go_wp2_with fail
                go_roundg (n k - (i + 1))
                case rel => exact ⟨i + 1, by omega, rfl, by go_num, hq.1, hq.2⟩
                case measure => rw [HGI.out]; omega
          · as_aux_lemma =>
              have hin : i = n k := by omega
              have t2 : decide ((i : Int) < (n k : Int)) = false := decide_eq_false (by omega)
              have HF4 : Hid (FL 29 67 base 3 g cg N LV n (partM MTokens 3 n (k + 1) 0 xs) wr) := by
                rw [hin] at HF2
                exact HF2.out.cast fun j hj => partM_next MTokens 3 n k xs (HX.out.ins k hlt).1 j
              obtain ⟨a0, c, hr0, _, _, _, _⟩ := own_shape (HF2.out.ins k hlt)
              have c0 : wr.cell? ⟨g, k, none⟩ = some (.slice a0 (n k) c) := (HF2.out.outCell hlt).trans (congrArg some hr0)
              clear hin hr0
              go_wp2_with fail
              go_roundg (N - (k + 1))
              case rel => exact ⟨k + 1, by omega, rfl, by go_num, HF4.out, HB2.out⟩
              case measure => rw [HGK.out]; omega
    · as_aux_lemma =>
        have hkN : k = N := by omega
        have t1 : decide ((k : Int) < (N : Int)) = false := decide_eq_false (by omega)
        have HF5 : Hid (FL 29 67 base 3 g cg N LV n (fun j => mks MTokens j (n j)) wr) := by
          rw [hkN] at HF
          exact HF.out.cast fun j hj => (partM_all MTokens 3 n N xs j hj).symm
        clear HF
        obtain ⟨i0, hi, hz0, hz1, hz2⟩ := info_parts Tryz.infoSliceTokens
        have HIF := Lib.hid (And.intro hi (And.intro hz0 (And.intro hz1 hz2)))
        clear hi hz0 hz1 hz2 hkN HGK
        go_wp2_with (refine wpList_make_full _ rfl _ _ 37 rfl wr.heap.size 29 i0 _ 1 Tryz.underlying37 HIF.out.1 HIF.out.2.1 HIF.out.2.2.1 _ _ N N N rfl rfl rfl rfl (by rw [HIF.out.2.2.2]; omega) (by unfold maxLen; omega) (Nat.le_refl _) ?_; intro w1 hown hgrow)
        have HF6 := Lib.hid (L3.start HF5.out HB.out HS.out hown hgrow)
        clear t1 HF5 HB hown hgrow
        generalize wr.heap.size = h at HF6 ⊢
        obtain ⟨i1, hi, hz0, hz1, hz2⟩ := info_parts Tryz.infoElemTokens
        have HIE := Lib.hid (And.intro hi (And.intro hz0 (And.intro hz1 hz2)))
        clear hi hz0 hz1 hz2 HIF
        go_wp2_with fail
        go_loopg [6] N (fun gg v wr => ∃ k : Nat, k ≤ N ∧ gg = N - k ∧ v = .int .i64 k ∧ L3 MTokens 29 67 base 3 g cg N h LV n w k wr)
        case atStart => exact ⟨0, by omega, rfl, rfl, HF6.out⟩
        case round =>
          obtain ⟨k, hk, hgk, rfl, hF⟩ := hrel
          have HGK := Lib.hid hgk
          have HF := Lib.hid hF
          clear hgk hF HF6
          by_cases hlt : k < N
          · as_aux_lemma =>
              have t1 : decide ((k : Int) < (N : Int)) = true := by simp; omega
              have hnk := HN.out.2 k hlt
              have k0 : (0 : Int) ≤ (k : Int) := by omega
              have k1 : (k : Int) < (N : Int) := by omega
              obtain ⟨a0, c, hr0, _, _, _, _⟩ := own_shape (HF.out.ins hlt)
              have HR := Lib.hid hr0
              clear hr0
              have c0 : wr.cell? ⟨g, k, none⟩ = some (.slice a0 (n k) c) := (HF.out.outCell hlt).trans (congrArg some HR.out)
              go_wp2_with fail
              go_loopg [7, 8] 64 (fun gg v u wr => ∃ i : Nat, i ≤ 64 ∧ gg = 64 - i ∧ u = .int .i64 i ∧ L4 MTokens 29 67 base 3 g cg N h LV n w k i v wr)
              case atStart => exact ⟨0, by omega, rfl, rfl, by rw [← HR.out]; exact HF.out.into hlt⟩
              case round =>
                rename_i v
                obtain ⟨i, hi, hgi, rfl, hF2⟩ := hrel
                have HGI := Lib.hid hgi
                have HF2 := Lib.hid hF2
                clear hgi hF2 HF c0
                by_cases hli : i < 64
                · as_aux_lemma =>
                    have t2 : decide ((i : Int) < 64) = true := by simp; omega
                    have c1 : wr.cell? ⟨g, k, none⟩ = some (.slice a0 (n k) c) := (HF2.out.outCell hlt).trans (congrArg some HR.out)
                    have s0 : IntKind.i64.wrap ((n k : Int) + (i : Int)) = ((n k + i : Nat) : Int) := by rw [IntWalk.i64_in _ (by omega)]; omega
                    go_wp2_with (first | (go_at_call 124; refine (markToken_any k (n k + i) _ (by have := HN.out.1; omega) (by omega)).mono ?_; rintro e w2 ⟨rfl, hb2⟩; have HL2 := Lib.hid (HF2.out.keep hb2); have hw2 := hb2.size; clear hb2) | (at_builtin; refine wpList_append_two rfl _ _ 29 rfl base 67 i1 _ 3 32 Tryz.underlying29 HIE.out.1 HIE.out.2.1 HIE.out.2.2.1 HIE.out.2.2.2 rfl (by decide) _ (n k + i) _ rfl ((HL2.out.own hlt).alloc (.cells #[.int .u8 0, .string ⟨#[]⟩, .int .i64 ((1000003 * (k + 7) + (n k + i) : Nat) : Int)] 67)) ⟨w2.heap.size, 0, none⟩ 1 1 (by decide) rfl [.int .u8 0, .string ⟨#[]⟩, .int .i64 ((1000003 * (k + 7) + (n k + i) : Nat) : Int)] rfl (cells_new w2 [.int .u8 0, .string ⟨#[]⟩, .int .i64 ((1000003 * (k + 7) + (n k + i) : Nat) : Int)] 67) ?_ ?_ ?_ ?_ ?_))
                    · intro u hu
                      simp only [List.mem_cons, List.not_mem_nil, or_false] at hu
                      rcases hu with rfl | rfl | rfl <;> rfl
                    · unfold maxLen; omega
                    · omega
                    · have := HL2.out.sizes; simp; omega
                    · intro v' w3 hG
                      have HL3 := Lib.hid ((HL2.out.keep ((Below.refl _ _).alloc (Nat.le_refl _) _)).grow hlt (by decide) hG)
                      clear hG hw2 HL2 HF2
                      go_wp2_with fail
                      go_roundg (64 - (i + 1))
                      case rel => exact ⟨i + 1, by omega, rfl, by go_num, HL3.out⟩
                      case measure => rw [HGI.out]; omega
                · as_aux_lemma =>
                    have hin : i = 64 := by omega
                    have t2 : decide ((i : Int) < 64) = false := decide_eq_false (by omega)
                    subst hin
                    obtain ⟨r, c3, hv, _, _, _, _⟩ := own_head (HF2.out.own hlt) (by omega)
                    unfold row at hv
                    subst hv
                    obtain ⟨u, q1, q2⟩ := HF2.out.gsCell hlt
                    have HL3 := Lib.hid (HF2.out.put hlt)
                    clear HF2
                    go_wp2_with fail
                    go_roundg (N - (k + 1))
                    case rel => exact ⟨k + 1, by omega, rfl, by go_num, HL3.out⟩
                    case measure => rw [HGK.out]; omega
          · as_aux_lemma =>
              have t1 : decide ((k : Int) < (N : Int)) = false := decide_eq_false (by omega)
              obtain rfl : N = k := by omega
              clear HGK
              have HK := Lib.hid HF
              clear HF
              go_wp2_with fail
              go_loopg [9] N (fun gg v wr => ∃ k : Nat, k ≤ N ∧ gg = N - k ∧ v = .int .i64 k ∧ L3 MTokens 29 67 base 3 g cg N h LV n w N wr)
              case atStart => exact ⟨0, by omega, rfl, rfl, HK.out.out⟩
              case round =>
                obtain ⟨k, hk, hgk, rfl, hF⟩ := hrel
                have HGK := Lib.hid hgk
                have HF := Lib.hid hF
                clear hgk hF HK
                by_cases hlt : k < N
                · as_aux_lemma =>
                    have t1 : decide ((k : Int) < (N : Int)) = true := by simp; omega
                    have hnk := HN.out.2 k hlt
                    have k0 : (0 : Int) ≤ (k : Int) := by omega
                    have k1 : (k : Int) < (N : Int) := by omega
                    go_wp2_with fail
                    go_loopg [10] (n k + 64) (fun gg v wr => ∃ i : Nat, i ≤ n k + 64 ∧ gg = n k + 64 - i ∧ v = .int .i64 i ∧ L3 MTokens 29 67 base 3 g cg N h LV n w N wr)
                    case atStart => exact ⟨0, by omega, rfl, rfl, HF.out⟩
                    case round =>
                      obtain ⟨i, hi, hgi, rfl, hF2⟩ := hrel
                      have HGI := Lib.hid hgi
                      have HF2 := Lib.hid hF2
                      clear hgi hF2 HF
                      obtain ⟨v, d, ho⟩ := HF2.out.gs hlt (Nat.le_refl _)
                      obtain ⟨r, c, rfl, _, _, _, _⟩ := own_head ho (by omega)
                      have HO := Lib.hid ho
                      clear ho
                      obtain ⟨a0, c2, hr0, hhd, hnn, _, _⟩ := own_shape (HF2.out.ins hlt)
                      have HR := Lib.hid (And.intro hr0 (And.intro hhd hnn))
                      clear hr0 hhd hnn
                      have c0 : wr.cell? ⟨g, k, none⟩ = some (.slice a0 (n k) c2) := (HF2.out.outCell hlt).trans (congrArg some HR.out.1)
                      unfold row at d
                      by_cases hli : i < n k + 64
                      · as_aux_lemma =>
                          have t2 : decide ((i : Int) < ((n k : Int) + 64)) = true := by simp; omega
                          have d0 : wr.cell? ⟨r, i * 3, none⟩ = some (.int .u8 0) := (HO.out.cellAt (i * 3) (by omega)).trans (atTokens k (n k + 64) i 0 hli (by decide))
                          have d1 : wr.cell? ⟨r, i * 3 + 1, none⟩ = some (.string ⟨#[]⟩) := (HO.out.cellAt (i * 3 + 1) (by omega)).trans (atTokens k (n k + 64) i 1 hli (by decide))
                          have d2 : wr.cell? ⟨r, i * 3 + 2, none⟩ = some (.int .i64 ((1000003 * (k + 7) + (i) : Nat) : Int)) := (HO.out.cellAt (i * 3 + 2) (by omega)).trans (atTokens k (n k + 64) i 2 hli (by decide))
                          have hm : ∀ z, Calls Tryz.prog 124 #[.int .i64 k, .int .i64 i] (wr.ext z) fun e w'' => e = .returned (.agg #[.int .u8 0, .string ⟨#[]⟩, .int .i64 ((1000003 * (k + 7) + (i) : Nat) : Int)]) ∧ ∃ z', w'' = wr.ext z' := fun z => Calls.ext_of (markToken_any k i _ (by have := HN.out.1; omega) (by omega))
                          have HM := Lib.hid hm
                          clear hm
                          have i0 : (0 : Int) ≤ (i : Int) := by omega
                          have i1 : (i : Int) < (n k : Int) + 64 := by omega
                          have i2 : (i : Int) < ((n k + 64 : Nat) : Int) := by omega
                          have y := wr.ext_cell d
                          have y0 := wr.ext_cell d0
                          have y1 := wr.ext_cell d1
                          have y2 := wr.ext_cell d2
                          have yc := wr.ext_cell c0
                          go_wp2_with fail
                          by_cases hin : i < n k
                          · as_aux_lemma =>
                              have t3 : decide ((i : Int) < (n k : Int)) = true := by simp; omega
                              obtain ⟨r2, hr2⟩ : ∃ r2, a0 = some ⟨r2, 0, none⟩ := by
                                cases ha : a0 with
                                | none => exact absurd ha (HR.out.2.2 (by omega))
                                | some p => obtain ⟨r2, e⟩ := HR.out.2.1 p ha; exact ⟨r2, by rw [e]⟩
                              subst hr2
                              have hin2 := HF2.out.ins hlt
                              rw [HR.out.1] at hin2
                              have b0 : wr.cell? ⟨r2, i * 3, none⟩ = some (.int .u8 0) := (hin2.cellAt (i * 3) (by omega)).trans (atTokens k (n k) i 0 hin (by decide))
                              have z0 := wr.ext_cell b0
                              have b1 : wr.cell? ⟨r2, i * 3 + 1, none⟩ = some (.string ⟨#[]⟩) := (hin2.cellAt (i * 3 + 1) (by omega)).trans (atTokens k (n k) i 1 hin (by decide))
                              have z1 := wr.ext_cell b1
                              have b2 : wr.cell? ⟨r2, i * 3 + 2, none⟩ = some (.int .i64 ((1000003 * (k + 7) + (i) : Nat) : Int)) := (hin2.cellAt (i * 3 + 2) (by omega)).trans (atTokens k (n k) i 2 hin (by decide))
                              have z2 := wr.ext_cell b2
                              have i3 : (i : Int) < (n k : Int) := by omega
                              clear hin2 d c0 d0 b0 d1 b1 d2 b2
                              generalize 1000003 * (k + 7) + i = q at y2 z2 HM
                              have EQ := fun z => eqTokens (q : Int) (wr.ext z)
                              have EG := fun x y z => eqgTokens (q : Int) x y (wr.ext z)
                              refine wp_region_ext_lit (by as_aux_lemma => kernel_rfl) (by as_aux_lemma => kernel_rfl) ?_
                              go_big_quiet_step (exact HM.out _)
                              as_aux_lemma =>
                              try go_big_quiet_step (exact HM.out _)
                              as_aux_lemma =>
                              try go_big_quiet_step (exact HM.out _)
                              as_aux_lemma =>
                              try go_big_quiet_step (exact HM.out _)
                              as_aux_lemma =>
                              try go_big_quiet_step (exact HM.out _)
                              as_aux_lemma =>
                              try go_big_quiet_step (exact HM.out _)
                              as_aux_lemma =>
                              try go_big_quiet_step (exact HM.out _)
                              as_aux_lemma =>
                              try go_big_quiet_step (exact HM.out _)
                              as_aux_lemma =>
                              try go_big_quiet_step (exact HM.out _)
                              as_aux_lemma =>
                              try go_big_quiet_step (exact HM.out _)
                              as_aux_lemma =>
                              try go_big_quiet_step (exact HM.out _)
                              as_aux_lemma =>
                              try go_big_quiet_step (exact HM.out _)
                              as_aux_lemma =>
                              try go_big_quiet_step (exact HM.out _)
                              as_aux_lemma =>
                              try go_big_quiet_step (exact HM.out _)
                              as_aux_lemma =>
                              try go_big_quiet_step (exact HM.out _)
                              as_aux_lemma =>
                              try go_big_quiet_step (exact HM.out _)
                              as_aux_lemma =>
                              try go_big_quiet_step (exact HM.out _)
                              as_aux_lemma =>
                              try go_big_quiet_step (exact HM.out _)
                              as_aux_lemma =>
                              try go_big_quiet_step (exact HM.out _)
                              as_aux_lemma =>
                              try go_big_quiet_step (exact HM.out _)
                              as_aux_lemma =>
                              try go_big_quiet_step (exact HM.out _)
                              as_aux_lemma =>
                              try go_big_quiet_step (exact HM.out _)
                              as_aux_lemma =>
                              try go_big_quiet_step (exact HM.out _)
                              as_aux_lemma =>
                              try go_big_quiet_step (exact HM.out _)
                              as_aux_lemma =>
                              try go_big_quiet_step (exact HM.out _)
                              as_aux_lemma =>
                              try go_big_quiet_step (exact HM.out _)
                              as_aux_lemma =>
                              try go_big_quiet_step (exact HM.out _)
                              as_aux_lemma =>
                              try go_big_quiet_step (exact HM.out _)
                              as_aux_lemma =>
                              try go_big_quiet_step (exact HM.out _)
                              as_aux_lemma =>
                              try go_big_quiet_step (exact HM.out _)
                              as_aux_lemma =>
                              try go_big_quiet_step (exact HM.out _)
                              as_aux_lemma =>
                              try go_big_quiet_step (exact HM.out _)
                              as_aux_lemma =>
                              try go_big_quiet_step (exact HM.out _)
                              as_aux_lemma =>
                              try go_big_quiet_step (exact HM.out _)
                              as_aux_lemma =>
                              try go_big_quiet_step (exact HM.out _)
                              as_aux_lemma =>
                              try go_big_quiet_step (exact HM.out _)
                              as_aux_lemma =>
                              try go_big_quiet_step (exact HM.out _)
                              refine wpQuiet_nil ?_
                              rintro _ ⟨z, rfl⟩
                              have HF3 := Lib.hid (HF2.out.keep (wr.ext_below z))
                              generalize wr.ext z = w1 at HF3 ⊢
                              go_wp2_with fail
                              go_roundg (n k + 64 - (i + 1))
                              case rel => exact ⟨i + 1, by omega, rfl, by go_num, HF3.out⟩
                              case measure => rw [HGI.out]; omega
                          · as_aux_lemma =>
                              have t3 : decide ((i : Int) < (n k : Int)) = false := decide_eq_false (by omega)
                              clear d c0 d0 d1 d2
                              generalize 1000003 * (k + 7) + i = q at y2 HM
                              have EQ := fun z => eqTokens (q : Int) (wr.ext z)
                              have EG := fun x y z => eqgTokens (q : Int) x y (wr.ext z)
                              refine wp_region_ext_lit (by as_aux_lemma => kernel_rfl) (by as_aux_lemma => kernel_rfl) ?_
                              go_big_quiet_step (exact HM.out _)
                              as_aux_lemma =>
                              try go_big_quiet_step (exact HM.out _)
                              as_aux_lemma =>
                              try go_big_quiet_step (exact HM.out _)
                              as_aux_lemma =>
                              try go_big_quiet_step (exact HM.out _)
                              as_aux_lemma =>
                              try go_big_quiet_step (exact HM.out _)
                              as_aux_lemma =>
                              try go_big_quiet_step (exact HM.out _)
                              as_aux_lemma =>
                              try go_big_quiet_step (exact HM.out _)
                              as_aux_lemma =>
                              try go_big_quiet_step (exact HM.out _)
                              as_aux_lemma =>
                              try go_big_quiet_step (exact HM.out _)
                              as_aux_lemma =>
                              try go_big_quiet_step (exact HM.out _)
                              as_aux_lemma =>
                              try go_big_quiet_step (exact HM.out _)
                              as_aux_lemma =>
                              try go_big_quiet_step (exact HM.out _)
                              as_aux_lemma =>
                              try go_big_quiet_step (exact HM.out _)
                              as_aux_lemma =>
                              try go_big_quiet_step (exact HM.out _)
                              as_aux_lemma =>
                              try go_big_quiet_step (exact HM.out _)
                              as_aux_lemma =>
                              try go_big_quiet_step (exact HM.out _)
                              as_aux_lemma =>
                              try go_big_quiet_step (exact HM.out _)
                              as_aux_lemma =>
                              try go_big_quiet_step (exact HM.out _)
                              as_aux_lemma =>
                              try go_big_quiet_step (exact HM.out _)
                              as_aux_lemma =>
                              try go_big_quiet_step (exact HM.out _)
                              as_aux_lemma =>
                              try go_big_quiet_step (exact HM.out _)
                              as_aux_lemma =>
                              try go_big_quiet_step (exact HM.out _)
                              as_aux_lemma =>
                              try go_big_quiet_step (exact HM.out _)
                              as_aux_lemma =>
                              try go_big_quiet_step (exact HM.out _)
                              as_aux_lemma =>
                              try go_big_quiet_step (exact HM.out _)
                              as_aux_lemma =>
                              try go_big_quiet_step (exact HM.out _)
                              as_aux_lemma =>
                              try go_big_quiet_step (exact HM.out _)
                              as_aux_lemma =>
                              try go_big_quiet_step (exact HM.out _)
                              as_aux_lemma =>
                              try go_big_quiet_step (exact HM.out _)
                              as_aux_lemma =>
                              try go_big_quiet_step (exact HM.out _)
                              as_aux_lemma =>
                              try go_big_quiet_step (exact HM.out _)
                              as_aux_lemma =>
                              try go_big_quiet_step (exact HM.out _)
                              as_aux_lemma =>
                              try go_big_quiet_step (exact HM.out _)
                              as_aux_lemma =>
                              try go_big_quiet_step (exact HM.out _)
                              as_aux_lemma =>
                              try go_big_quiet_step (exact HM.out _)
                              as_aux_lemma =>
                              try go_big_quiet_step (exact HM.out _)
                              as_aux_lemma =>
                              try go_big_quiet_step (exact HM.out _)
                              refine wpQuiet_nil ?_
                              rintro _ ⟨z, rfl⟩
                              have HF3 := Lib.hid (HF2.out.keep (wr.ext_below z))
                              generalize wr.ext z = w1 at HF3 ⊢
                              go_wp2_with fail
                              go_roundg (n k + 64 - (i + 1))
                              case rel => exact ⟨i + 1, by omega, rfl, by go_num, HF3.out⟩
                              case measure => rw [HGI.out]; omega
                      · as_aux_lemma =>
                          have hin : i = n k + 64 := by omega
                          have t2 : decide ((i : Int) < ((n k : Int) + 64)) = false := decide_eq_false (by omega)
                          clear hin
                          go_wp2_with fail
                          go_roundg (N - (k + 1))
                          case rel => exact ⟨k + 1, by omega, rfl, by go_num, HF2.out⟩
                          case measure => rw [HGK.out]; omega
                · as_aux_lemma =>
                    have t1 : decide ((k : Int) < (N : Int)) = false := decide_eq_false (by omega)
                    have HK := Lib.hid HF.out.turn
                    clear HF HGK
                    go_wp2_with fail
                    go_loopg [11] N (fun gg v wr => ∃ k : Nat, k ≤ N ∧ gg = N - k ∧ v = .int .i64 k ∧ L7 MTokens 29 67 base 3 g cg N h LV n w k wr)
                    case atStart => exact ⟨0, by omega, rfl, rfl, HK.out⟩
                    case round =>
                      obtain ⟨k, hk, hgk, rfl, hF⟩ := hrel
                      have HGK := Lib.hid hgk
                      have HF := Lib.hid hF
                      clear hgk hF HK
                      by_cases hlt : k < N
                      · as_aux_lemma =>
                          have t1 : decide ((k : Int) < (N : Int)) = true := by simp; omega
                          have hnk := HN.out.2 k hlt
                          have k0 : (0 : Int) ≤ (k : Int) := by omega
                          have k1 : (k : Int) < (N : Int) := by omega
                          have s0 : IntKind.i64.wrap ((k : Int) + (N : Int)) = ((k + N : Nat) : Int) := by rw [IntWalk.i64_in _ (by omega)]; omega
                          obtain ⟨a0, c2, hr0, _, _, _, _⟩ := own_shape (HF.out.ins hlt)
                          have HR := Lib.hid hr0
                          clear hr0
                          go_wp2_with (refine wpList_make_full _ rfl _ _ 29 rfl wr.heap.size 67 i1 _ 3 Tryz.underlying29 HIE.out.1 HIE.out.2.1 HIE.out.2.2.1 _ _ 64 64 64 rfl rfl rfl rfl (by rw [HIE.out.2.2.2]; omega) (by unfold maxLen; omega) (Nat.le_refl _) ?_; intro w1 hown hgrow)
                          have hb1 : Below wr.heap.size wr w1 := ⟨hgrow.os, hgrow.tape, hgrow.output, hgrow.size, fun b hb => hgrow.block b hb (by simp)⟩
                          obtain ⟨zs, hzs⟩ : ∃ zs, zs = (madeCells (Value.cells (.agg #[.int .u8 0, .string ⟨#[]⟩, .int .i64 0])) (64 * 3)).toList := ⟨_, rfl⟩
                          have HOW := Lib.hid hown
                          have HB1 := Lib.hid hb1
                          rw [← hzs] at HOW
                          have HZ := Lib.hid (show zs.length = 64 * 3 from by have := HOW.out.1; omega)
                          clear hown hgrow hb1 hzs
                          obtain ⟨Wk, hWk⟩ : ∃ W : World, W = wr := ⟨_, rfl⟩
                          rw [← hWk] at HF HOW HB1 ⊢
                          clear hWk
                          go_wp2_with fail
                          go_loopg [13] 64 (fun gg v wr => ∃ i : Nat, i ≤ 64 ∧ gg = 64 - i ∧ v = .int .i64 i ∧ wr.ownsRow Wk.heap.size 67 3 (.slice (some ⟨Wk.heap.size, 0, none⟩) 64 64) 64 (upto MTokens 3 (k + N) i zs) ∧ Below Wk.heap.size Wk wr)
                          case atStart => exact ⟨0, by omega, rfl, rfl, by rw [upto_zero]; exact HOW.out, HB1.out⟩
                          case round =>
                            obtain ⟨i, hi, hgi, rfl, ho, hb⟩ := hrel
                            have HGI := Lib.hid hgi
                            have HO := Lib.hid ho
                            have HB := Lib.hid hb
                            clear hgi ho hb HOW HB1
                            by_cases hli : i < 64
                            · as_aux_lemma =>
                                have t2 : decide ((i : Int) < 64) = true := by simp; omega
                                have i0 : (0 : Int) ≤ (i : Int) := by omega
                                have i1' : (i : Int) < 64 := by omega
                                go_wp2_with (go_at_call 124; refine (markToken_any (k + N) i _ (by have := HN.out.1; omega) (by omega)).mono ?_; rintro e w2 ⟨rfl, hb2⟩; have HO2 := Lib.hid (row_keep HO.out fun b e => hb2.block b (HO.out.lt b e).2); have HB2 := Lib.hid (HB.out.trans (hb2.mono HB.out.size)); clear hb2; obtain ⟨u0_, hu0⟩ := row_cell HO2.out (i * 3) (by omega); have hfz0 := HO2.out.frozenAt (i * 3); obtain ⟨u1_, hu1⟩ := row_cell HO2.out (i * 3 + 1) (by omega); have hfz1 := HO2.out.frozenAt (i * 3 + 1); obtain ⟨u2_, hu2⟩ := row_cell HO2.out (i * 3 + 2) (by omega); have hfz2 := HO2.out.frozenAt (i * 3 + 2))
                                have HO3 : Hid ((((w2.setCell ⟨Wk.heap.size, i * 3, none⟩ (.int .u8 0)).setCell ⟨Wk.heap.size, i * 3 + 1, none⟩ (.string ⟨#[]⟩)).setCell ⟨Wk.heap.size, i * 3 + 2, none⟩ (.int .i64 ((1000003 * (k + N + 7) + (i) : Nat) : Int))).ownsRow Wk.heap.size 67 3 (.slice (some ⟨Wk.heap.size, 0, none⟩) 64 64) 64 (upto MTokens 3 (k + N) (i + 1) zs)) := by
                                  have h1 := (((HO2.out.stored (i * 3) (.int .u8 0)).1.stored (i * 3 + 1) (.string ⟨#[]⟩)).1.stored (i * 3 + 2) (.int .i64 ((1000003 * (k + N + 7) + (i) : Nat) : Int))).1
                                  rw [upto_set3 MTokens (k + N) i zs _ _ _ rfl (by rw [HZ.out]; omega)] at h1
                                  exact h1
                                have HB3 : Hid (Below Wk.heap.size Wk (((w2.setCell ⟨Wk.heap.size, i * 3, none⟩ (.int .u8 0)).setCell ⟨Wk.heap.size, i * 3 + 1, none⟩ (.string ⟨#[]⟩)).setCell ⟨Wk.heap.size, i * 3 + 2, none⟩ (.int .i64 ((1000003 * (k + N + 7) + (i) : Nat) : Int)))) := ((HB2.out.setCell (Nat.le_refl _) _).setCell (Nat.le_refl _) _).setCell (Nat.le_refl _) _
                                go_roundg (64 - (i + 1))
                                case rel => exact ⟨i + 1, by omega, rfl, by go_num, HO3.out, HB3.out⟩
                                case measure => rw [HGI.out]; omega
                            · as_aux_lemma =>
                                have hin : i = 64 := by omega
                                have t2 : decide ((i : Int) < 64) = false := decide_eq_false (by omega)
                                have HO4 : Hid (wr.ownsRow Wk.heap.size 67 3 (.slice (some ⟨Wk.heap.size, 0, none⟩) 64 64) 64 (mks MTokens (k + N) 64)) := by
                                  have h1 := HO.out
                                  rw [hin, upto_all MTokens 3 (k + N) 64 zs HZ.out] at h1
                                  exact h1
                                clear hin HO
                                have HL := Lib.hid (HF.out.keep HB.out)
                                have c0 : wr.cell? ⟨g, k, none⟩ = some (.slice a0 (n k) c2) := (HL.out.outCell hlt).trans (congrArg some HR.out)
                                have HI := Lib.hid (HL.out.ins hlt)
                                rw [HR.out] at HI
                                clear HF HB
                                go_wp2_with (at_builtin; refine wpList_append_two rfl _ _ 29 rfl base 67 i1 _ 3 32 Tryz.underlying29 HIE.out.1 HIE.out.2.1 HIE.out.2.2.1 HIE.out.2.2.2 rfl (by decide) _ (n k) _ rfl HI.out ⟨Wk.heap.size, 0, none⟩ 64 64 (by decide) rfl (mks MTokens (k + N) 64) (mks_len MTokens 3 MTokens_len _ _) ?_ ?_ ?_ ?_ ?_ ?_)
                                · exact HO4.out.cells rfl
                                · intro u hu
                                  obtain ⟨j, _, hj⟩ := List.mem_flatMap.1 hu
                                  simp only [MTokens, List.mem_cons, List.not_mem_nil, or_false] at hj
                                  rcases hj with rfl | rfl | rfl <;> rfl
                                · unfold maxLen; omega
                                · omega
                                · exact HL.out.sizes
                                · intro v' w3 hG
                                  rw [← HR.out] at hG
                                  obtain ⟨r, c3, hv, _, _, _, _⟩ := own_head hG.1 (by omega)
                                  unfold row at hv
                                  subst hv
                                  have HL2 := Lib.hid (HL.out.grow hlt (by decide) hG)
                                  clear hG HL HI
                                  obtain ⟨u, q1, q2⟩ := HL2.out.gsCell hlt
                                  have HL3 := Lib.hid (HL2.out.put hlt)
                                  clear HL2
                                  go_wp2_with fail
                                  go_roundg (N - (k + 1))
                                  case rel => exact ⟨k + 1, by omega, rfl, by go_num, HL3.out⟩
                                  case measure => rw [HGK.out]; omega
                      · as_aux_lemma =>
                          have t1 : decide ((k : Int) < (N : Int)) = false := decide_eq_false (by omega)
                          obtain rfl : N = k := by omega
                          have HK := Lib.hid HF
                          clear HF HGK
                          go_wp2_with fail
                          go_loopg [14] N (fun gg v wr => ∃ k : Nat, k ≤ N ∧ gg = N - k ∧ v = .int .i64 k ∧ L7 MTokens 29 67 base 3 g cg N h LV n w N wr)
                          case atStart => exact ⟨0, by omega, rfl, rfl, HK.out.out⟩
                          case round =>
                            obtain ⟨k, hk, hgk, rfl, hF⟩ := hrel
                            have HGK := Lib.hid hgk
                            have HF := Lib.hid hF
                            clear hgk hF HK
                            by_cases hlt : k < N
                            · as_aux_lemma =>
                                have t1 : decide ((k : Int) < (N : Int)) = true := by simp; omega
                                have hnk := HN.out.2 k hlt
                                have k0 : (0 : Int) ≤ (k : Int) := by omega
                                have k1 : (k : Int) < (N : Int) := by omega
                                go_wp2_with fail
                                go_loopg [15] (n k) (fun gg v wr => ∃ i : Nat, i ≤ n k ∧ gg = n k - i ∧ v = .int .i64 i ∧ L7 MTokens 29 67 base 3 g cg N h LV n w N wr)
                                case atStart => exact ⟨0, by omega, rfl, rfl, HF.out⟩
                                case round =>
                                  obtain ⟨i, hi, hgi, rfl, hF2⟩ := hrel
                                  have HGI := Lib.hid hgi
                                  have HF2 := Lib.hid hF2
                                  clear hgi hF2 HF
                                  by_cases hli : i < n k
                                  · as_aux_lemma =>
                                      have t2 : decide ((i : Int) < (n k : Int)) = true := by simp; omega
                                      obtain ⟨v, d, ho⟩ := HF2.out.gs hlt (Nat.le_refl _)
                                      obtain ⟨r, c, rfl, _, _, _, _⟩ := own_head ho (by omega)
                                      have HO := Lib.hid ho
                                      clear ho
                                      obtain ⟨r2, c2, hr2, _, _, _, _⟩ := own_head (HF2.out.ins hlt) (by omega)
                                      have HR := Lib.hid hr2
                                      clear hr2
                                      have c0 : wr.cell? ⟨g, k, none⟩ = some (.slice (some ⟨r2, 0, none⟩) (n k) c2) := (HF2.out.outCell hlt).trans (congrArg some HR.out)
                                      unfold row at d
                                      have hin2 := HF2.out.ins hlt
                                      rw [HR.out] at hin2
                                      have d0 : wr.cell? ⟨r, i * 3, none⟩ = some (.int .u8 0) := by
                                        refine (HO.out.cellAt (i * 3) (by omega)).trans ?_
                                        rw [List.getElem?_append_left (by rw [mks_len MTokens 3 MTokens_len]; omega)]
                                        exact atTokens k (n k) i 0 hli (by decide)
                                      have b0 : wr.cell? ⟨r2, i * 3, none⟩ = some (.int .u8 0) := (hin2.cellAt (i * 3) (by omega)).trans (atTokens k (n k) i 0 hli (by decide))
                                      have y0 := wr.ext_cell d0
                                      have z0 := wr.ext_cell b0
                                      have d1 : wr.cell? ⟨r, i * 3 + 1, none⟩ = some (.string ⟨#[]⟩) := by
                                        refine (HO.out.cellAt (i * 3 + 1) (by omega)).trans ?_
                                        rw [List.getElem?_append_left (by rw [mks_len MTokens 3 MTokens_len]; omega)]
                                        exact atTokens k (n k) i 1 hli (by decide)
                                      have b1 : wr.cell? ⟨r2, i * 3 + 1, none⟩ = some (.string ⟨#[]⟩) := (hin2.cellAt (i * 3 + 1) (by omega)).trans (atTokens k (n k) i 1 hli (by decide))
                                      have y1 := wr.ext_cell d1
                                      have z1 := wr.ext_cell b1
                                      have d2 : wr.cell? ⟨r, i * 3 + 2, none⟩ = some (.int .i64 ((1000003 * (k + 7) + (i) : Nat) : Int)) := by
                                        refine (HO.out.cellAt (i * 3 + 2) (by omega)).trans ?_
                                        rw [List.getElem?_append_left (by rw [mks_len MTokens 3 MTokens_len]; omega)]
                                        exact atTokens k (n k) i 2 hli (by decide)
                                      have b2 : wr.cell? ⟨r2, i * 3 + 2, none⟩ = some (.int .i64 ((1000003 * (k + 7) + (i) : Nat) : Int)) := (hin2.cellAt (i * 3 + 2) (by omega)).trans (atTokens k (n k) i 2 hli (by decide))
                                      have y2 := wr.ext_cell d2
                                      have z2 := wr.ext_cell b2
                                      have hm : ∀ z, Calls Tryz.prog 124 #[.int .i64 k, .int .i64 i] (wr.ext z) fun e w'' => e = .returned (.agg #[.int .u8 0, .string ⟨#[]⟩, .int .i64 ((1000003 * (k + 7) + (i) : Nat) : Int)]) ∧ ∃ z', w'' = wr.ext z' := fun z => Calls.ext_of (markToken_any k i _ (by have := HN.out.1; omega) (by omega))
                                      have HM := Lib.hid hm
                                      clear hm
                                      have i0 : (0 : Int) ≤ (i : Int) := by omega
                                      have i1 : (i : Int) < (n k : Int) := by omega
                                      have i2 : (i : Int) < ((n k + 64 : Nat) : Int) := by omega
                                      have i3 : (i : Int) < (n k : Int) + 64 := by omega
                                      have y := wr.ext_cell d
                                      have yc := wr.ext_cell c0
                                      go_wp2_with fail
                                      clear d c0 hin2 d0 b0 d1 b1 d2 b2
                                      generalize 1000003 * (k + 7) + i = q at y2 z2 HM
                                      have EQ := fun z => eqTokens (q : Int) (wr.ext z)
                                      have EG := fun x y z => eqgTokens (q : Int) x y (wr.ext z)
                                      refine wp_region_ext_lit (by as_aux_lemma => kernel_rfl) (by as_aux_lemma => kernel_rfl) ?_
                                      go_big_quiet_step (exact HM.out _)
                                      as_aux_lemma =>
                                      try go_big_quiet_step (exact HM.out _)
                                      as_aux_lemma =>
                                      try go_big_quiet_step (exact HM.out _)
                                      as_aux_lemma =>
                                      try go_big_quiet_step (exact HM.out _)
                                      as_aux_lemma =>
                                      try go_big_quiet_step (exact HM.out _)
                                      as_aux_lemma =>
                                      try go_big_quiet_step (exact HM.out _)
                                      as_aux_lemma =>
                                      try go_big_quiet_step (exact HM.out _)
                                      as_aux_lemma =>
                                      try go_big_quiet_step (exact HM.out _)
                                      as_aux_lemma =>
                                      try go_big_quiet_step (exact HM.out _)
                                      as_aux_lemma =>
                                      try go_big_quiet_step (exact HM.out _)
                                      as_aux_lemma =>
                                      try go_big_quiet_step (exact HM.out _)
                                      as_aux_lemma =>
                                      try go_big_quiet_step (exact HM.out _)
                                      as_aux_lemma =>
                                      try go_big_quiet_step (exact HM.out _)
                                      as_aux_lemma =>
                                      try go_big_quiet_step (exact HM.out _)
                                      as_aux_lemma =>
                                      try go_big_quiet_step (exact HM.out _)
                                      as_aux_lemma =>
                                      try go_big_quiet_step (exact HM.out _)
                                      as_aux_lemma =>
                                      try go_big_quiet_step (exact HM.out _)
                                      as_aux_lemma =>
                                      try go_big_quiet_step (exact HM.out _)
                                      as_aux_lemma =>
                                      try go_big_quiet_step (exact HM.out _)
                                      as_aux_lemma =>
                                      try go_big_quiet_step (exact HM.out _)
                                      as_aux_lemma =>
                                      try go_big_quiet_step (exact HM.out _)
                                      as_aux_lemma =>
                                      try go_big_quiet_step (exact HM.out _)
                                      as_aux_lemma =>
                                      try go_big_quiet_step (exact HM.out _)
                                      as_aux_lemma =>
                                      try go_big_quiet_step (exact HM.out _)
                                      as_aux_lemma =>
                                      try go_big_quiet_step (exact HM.out _)
                                      as_aux_lemma =>
                                      try go_big_quiet_step (exact HM.out _)
                                      as_aux_lemma =>
                                      try go_big_quiet_step (exact HM.out _)
                                      as_aux_lemma =>
                                      try go_big_quiet_step (exact HM.out _)
                                      as_aux_lemma =>
                                      try go_big_quiet_step (exact HM.out _)
                                      as_aux_lemma =>
                                      try go_big_quiet_step (exact HM.out _)
                                      as_aux_lemma =>
                                      try go_big_quiet_step (exact HM.out _)
                                      as_aux_lemma =>
                                      try go_big_quiet_step (exact HM.out _)
                                      as_aux_lemma =>
                                      try go_big_quiet_step (exact HM.out _)
                                      as_aux_lemma =>
                                      try go_big_quiet_step (exact HM.out _)
                                      as_aux_lemma =>
                                      try go_big_quiet_step (exact HM.out _)
                                      as_aux_lemma =>
                                      try go_big_quiet_step (exact HM.out _)
                                      as_aux_lemma =>
                                      try go_big_quiet_step (exact HM.out _)
                                      refine wpQuiet_nil ?_
                                      rintro _ ⟨z, rfl⟩
                                      have HF3 := Lib.hid (HF2.out.keep (wr.ext_below z))
                                      generalize wr.ext z = w1 at HF3 ⊢
                                      go_wp2_with fail
                                      go_roundg (n k - (i + 1))
                                      case rel => exact ⟨i + 1, by omega, rfl, by go_num, HF3.out⟩
                                      case measure => rw [HGI.out]; omega
                                  · as_aux_lemma =>
                                      have t2 : decide ((i : Int) < (n k : Int)) = false := decide_eq_false (by omega)
                                      obtain ⟨a0, c2, hr0, _, _, _, _⟩ := own_shape (HF2.out.ins hlt)
                                      have c0 : wr.cell? ⟨g, k, none⟩ = some (.slice a0 (n k) c2) := (HF2.out.outCell hlt).trans (congrArg some hr0)
                                      clear hr0
                                      go_wp2_with fail
                                      go_roundg (N - (k + 1))
                                      case rel => exact ⟨k + 1, by omega, rfl, by go_num, HF2.out⟩
                                      case measure => rw [HGK.out]; omega
                            · as_aux_lemma =>
                                have t1 : decide ((k : Int) < (N : Int)) = false := decide_eq_false (by omega)
                                have HE := Lib.hid HF.out.mv
                                clear HF HGK
                                go_wp2_with fail
                                go_ret
                                exact ⟨rfl, HE.out⟩
end Go.Proofs.YthhfgjcdopkmgaaGreatDoor
