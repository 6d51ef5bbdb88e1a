/- The document's own scanner: strings. -/
import Derived.Test.YthhfgjcdopkmgaaGreatDoorRfM
import Derived.Test.YthhfgjcdopkmgaaGreatDoorFlD
import Derived.OwnWalk
import Derived.BigRegion
import Derived.Deep.RegionLaw
set_option maxRecDepth 100000
namespace Go.Proofs.YthhfgjcdopkmgaaGreatDoor
open Go.Instr Go.RowKit ScnT FlT
set_option linter.unusedVariables false
set_option linter.unusedSimpArgs false
/-- A row of bytes of the call's own. -/
def Ob (base : Nat) (acc : Bs) (v : Value) (w : World) : Prop := w.ownsRow base 5 1 v acc.length (Lib.byteCells acc)
theorem Ob.grow {base : Nat} {acc l acc' : Bs} {v v' : Value} {w w' : World} (hG : Grown 5 base 1 v acc.length (Lib.byteCells acc) l.length (Lib.byteCells l) v' w w') (he : acc' = acc ++ l) : Ob base acc' v' w' := by
  subst he
  have := hG.1
  unfold Ob
  simpa [Lib.byteCells, List.map_append] using this
theorem byte_one (l : Bs) : ∀ u ∈ Lib.byteCells l, u.oneCell' = true := by
  intro u hu
  obtain ⟨b, _, rfl⟩ := List.mem_map.1 hu
  rfl
theorem add_at (r j : Nat) : (⟨r, 0, none⟩ : Addr).add j = ⟨r, j, none⟩ := by unfold Addr.add; split <;> simp_all
/-- The cells of a token that says nothing. -/
def ZeroTok (g : Nat) (w : World) : Prop := w.heap[g]? = some (.cells #[.int .u8 0, .string ⟨#[]⟩, .int .i64 0] 67)
theorem ZeroTok.cells {g : Nat} {w : World} (h : ZeroTok g w) : g < w.heap.size ∧ w.cell? ⟨g, 0, none⟩ = some (.int .u8 0) ∧ w.cell? ⟨g, 1, none⟩ = some (.string ⟨#[]⟩) ∧ w.cell? ⟨g, 2, none⟩ = some (.int .i64 0) ∧ w.frozen? ⟨g, 0, none⟩ = false ∧ w.frozen? ⟨g, 1, none⟩ = false ∧ w.frozen? ⟨g, 2, none⟩ = false :=
  ⟨(Array.getElem?_eq_some_iff.1 h).1, by rw [cell_of_row w g 0 _ 67 (0, 0) h]; rfl, by rw [cell_of_row w g 1 _ 67 (0, 0) h]; rfl, by rw [cell_of_row w g 2 _ 67 (0, 0) h]; rfl, frozen_of_row w g 0 _ _ h, frozen_of_row w g 1 _ _ h, frozen_of_row w g 2 _ _ h⟩
theorem ZeroTok.later {g : Nat} {w w' : World} (h : ZeroTok g w) (hb : Below (g + 1) w w') : ZeroTok g w' := (hb.block g (Nat.lt_succ_self g)).trans h
theorem text_str {base : Nat} {acc : Bs} {v : Value} {w : World} (h : Ob base acc v w) : (convert 22 9 v).run Tryz.prog w = .ok (.string (mkS acc)) w := by
  rcases h.2 with ⟨hv, h0⟩ | ⟨g, cap, cur, hv, _⟩
  · have : acc = [] := List.eq_nil_of_length_eq_zero h0
    subst this
    subst hv
    simp [go_sem, convert, Tryz.underlying22, Tryz.underlying5, Tryz.underlying9]
    first | done | rfl
  · subst hv
    have h' := h
    unfold Ob at h'
    refine run_convert_bytes_back _ _ _ _ ⟨g, 0, none⟩ cap acc Tryz.underlying22 Tryz.underlying5 Tryz.underlying9 fun j hj => ?_
    rw [add_at g j]
    rw [h'.cellAt j (by omega)]
    simp [Lib.byteCells, hj]

set_option maxHeartbeats 8000000 in
theorem rfText_any (S : ByteArray) (a : Nat) (w : World) (hS : S.size ≤ 100000) (ha : a < S.size) : Calls Tryz.prog 61 #[.string S, .int .i64 a] w fun e w' => rdT (stringT (restB S a)) a e ∧ Below w.heap.size w w' := by
  obtain ⟨i0, hi, hz0, hz1, hz2⟩ := info_parts (show (Tryz.prog.info? 5).map (fun i => (i.zero, i.size, i.bytes)) = some (some (.int .u8 0), 1, 1) by kernel_rfl)
  have HI := Lib.hid (And.intro hi (And.intro hz0 (And.intro hz1 hz2)))
  clear hi hz0 hz1 hz2
  have ha0 : (0 : Int) ≤ (a : Int) := by omega
  go_enter Tryz.func61, Tryz.ntmps61
  go_wp2_with fail
  go_loopg [7, 8] (S.size - (a + 1)) (fun gg v u wr => ∃ (i : Nat) (acc : Bs), a < i ∧ i ≤ S.size ∧ gg = S.size - i ∧ u = .int .i64 i ∧ acc.length ≤ i ∧ SayI S a i acc ∧ Ob (w.heap.size + 1) acc v wr ∧ ZeroTok w.heap.size wr ∧ Below w.heap.size w wr)
  case atStart => exact ⟨a + 1, [], by omega, by omega, rfl, by go_num, by simp, sayI_start S a, World.ownsRow_nil _ _ _ _, heap_alloc_new _ _, (Below.refl _ _).alloc (Nat.le_refl _) _⟩
  case round =>
    rename_i v
    obtain ⟨i, acc, hai, hi, hgk, rfl, hal, hsay, hO, hC, hb⟩ := hrel
    have HGK := Lib.hid hgk
    have HSAY := Lib.hid hsay
    have HO := Lib.hid hO
    have HC := Lib.hid hC
    have HB := Lib.hid hb
    have hsz := hb.size
    have hlt0 := hC.cells.1
    have i0' : (0 : Int) ≤ (i : Int) := by omega
    have HX2 := Lib.hid True.intro
    have HX3 := Lib.hid True.intro
    clear hgk hsay hO hC hb
    by_cases hlt : i < S.size
    · have t1 : (i : Int) < (S.size : Int) := by omega
      have t1' : ¬ ((S.size : Int) ≤ (i : Int)) := by omega
      by_cases h34 : S[i] = 34
      · have f34 : ((S[i].toNat : Int) == 34) = true := by rw [h34]; rfl
        have HE : Hid (stringT (restB S a) = .ok (5, acc, i - a + 1)) := sayI_quote HSAY.out hlt h34
        have HCV := Lib.hid (text_str HO.out)
        have HEND : Hid ((i : Int) + 1 = ((a + (i - a + 1) : Nat) : Int)) := by show _ = _; omega
        clear HSAY HO h34
        obtain ⟨_, k0, k1, k2, g0, g1, g2⟩ := HC.out.cells
        have hcv := HCV.out
        go_wp2_with fail
        refine bodyPost_ret (v := .tuple #[.agg #[.int .u8 5, .string (mkS acc), .int .i64 (a : Int)], .int .i64 ((i : Int) + 1), .bool true]) (by simp [results, Tryz.results61, go_sem, k0, k1, k2, g0, g1, g2]) rfl ⟨?_, ?_⟩
        · rw [HE.out]
          show _ = _
          rw [HEND.out]
          rfl
        · exact ((HB.out.setCell (p := ⟨w.heap.size, 0, none⟩) (Nat.le_refl _) _).setCell (p := ⟨w.heap.size, 1, none⟩) (Nat.le_refl _) _).setCell (p := ⟨w.heap.size, 2, none⟩) (Nat.le_refl _) _
      · have n34 := h34
        have f34 : ((S[i].toNat : Int) == 34) = false := by
          rw [beq_eq_false_iff_ne]
          intro e
          exact n34 (UInt8.toNat_inj.1 (by show _ = 34; omega))
        by_cases hbad : S[i].toNat < 32 ∨ 126 < S[i].toNat
        · have hrv := sayI_bad HSAY.out hlt hbad
          have HRV := Lib.hid hrv
          clear hrv
          by_cases h32 : S[i].toNat < 32
          · have f1 : decide ((S[i].toNat : Int) < 32) = true := decide_eq_true (by omega)
            clear hbad h34 n34
            have HE : Hid (stringT (restB S a) = .error 101) := HRV.out
            clear HSAY HO
            clear HRV
            obtain ⟨_, k0, k1, k2, g0, g1, g2⟩ := HC.out.cells
            go_wp2_with (first | (go_at_call 120; with_reducible refine (HX2.out _).mono ?_; rintro e w' ⟨rfl, rfl⟩) | (go_at_call 120; with_reducible refine (HX3.out _).mono ?_; rintro e w' ⟨rfl, rfl⟩))
            refine bodyPost_ret (v := .tuple #[.agg #[.int .u8 0, .string ⟨#[]⟩, .int .i64 0], .int .i64 0, .bool false]) (by simp [results, Tryz.results61, go_sem, k0, k1, k2, g0, g1, g2]) rfl ⟨by rw [HE.out]; exact ⟨_, _, _, _, rfl⟩, ?_⟩
            exact ((HB.out.setCell (p := ⟨w.heap.size, 0, none⟩) (Nat.le_refl _) _).setCell (p := ⟨w.heap.size, 1, none⟩) (Nat.le_refl _) _).setCell (p := ⟨w.heap.size, 2, none⟩) (Nat.le_refl _) _
          · have f1 : decide ((S[i].toNat : Int) < 32) = false := decide_eq_false (by omega)
            have f2 : decide (126 < (S[i].toNat : Int)) = true := decide_eq_true (by omega)
            clear hbad h34 n34
            have HE : Hid (stringT (restB S a) = .error 101) := HRV.out
            clear HSAY HO
            clear HRV
            obtain ⟨_, k0, k1, k2, g0, g1, g2⟩ := HC.out.cells
            go_wp2_with (first | (go_at_call 120; with_reducible refine (HX2.out _).mono ?_; rintro e w' ⟨rfl, rfl⟩) | (go_at_call 120; with_reducible refine (HX3.out _).mono ?_; rintro e w' ⟨rfl, rfl⟩))
            refine bodyPost_ret (v := .tuple #[.agg #[.int .u8 0, .string ⟨#[]⟩, .int .i64 0], .int .i64 0, .bool false]) (by simp [results, Tryz.results61, go_sem, k0, k1, k2, g0, g1, g2]) rfl ⟨by rw [HE.out]; exact ⟨_, _, _, _, rfl⟩, ?_⟩
            exact ((HB.out.setCell (p := ⟨w.heap.size, 0, none⟩) (Nat.le_refl _) _).setCell (p := ⟨w.heap.size, 1, none⟩) (Nat.le_refl _) _).setCell (p := ⟨w.heap.size, 2, none⟩) (Nat.le_refl _) _
        · have f1 : decide ((S[i].toNat : Int) < 32) = false := decide_eq_false (by omega)
          have f2 : decide (126 < (S[i].toNat : Int)) = false := decide_eq_false (by omega)
          by_cases h92 : S[i] = 92
          · have f92 : ((S[i].toNat : Int) == 92) = true := by rw [h92]; rfl
            by_cases hn : i + 1 < S.size
            · have p1 : ¬ ((S.size : Int) ≤ (i : Int) + 1) := by omega
              have p2 : (i : Int) + 1 < (S.size : Int) := by omega
              have p3 : (0 : Int) ≤ (i : Int) + 1 := by omega
              have p4 : ((i : Int) + 1).toNat = i + 1 := by omega
              by_cases d110 : S[i + 1] = 110
              · have e110 : ((S[i + 1].toNat : Int) == 110) = true := by rw [d110]; rfl
                have say := sayI_pair (x := 10) HSAY.out hai hn h92 (by rw [d110]; rfl)
                have SAY := Lib.hid say
                clear say h92 h34 n34 d110 hbad
                have HN0 : Hid (SayI S a (i + 2) (acc ++ [10])) := SAY.out
                clear HSAY
                go_wp2_with (at_builtin; refine wpList_append_two rfl _ _ 22 rfl (w.heap.size + 1) 5 i0 _ 1 1 Tryz.underlying22 HI.out.1 HI.out.2.1 HI.out.2.2.1 HI.out.2.2.2 rfl (by decide) _ acc.length _ rfl (HO.out.alloc (.cells #[.int .u8 10] 5)) ⟨wr.heap.size, 0, none⟩ 1 1 (by decide) rfl (Lib.byteCells [10]) rfl (cells_new wr (Lib.byteCells [10]) 5) (byte_one _) ?_ ?_ ?_ ?_)
                any_goals (first | omega | (unfold maxLen; omega) | (simp; omega))
                · intro v' w3 hG
                  have HN := Lib.hid (Ob.grow (l := [10]) hG rfl)
                  have hbb := hG.below (HO.out.alloc (.cells #[.int .u8 10] 5)) (by simp; omega)
                  have HB3 := Lib.hid ((HB.out.alloc hsz (.cells #[.int .u8 10] 5)).trans (hbb.mono (Nat.le_succ _)))
                  have HC3 := Lib.hid ((HC.out.later ((Below.refl (w.heap.size + 1) wr).alloc (by omega) (.cells #[.int .u8 10] 5))).later hbb)
                  clear hG hbb
                  go_wp2_with fail
                  go_roundg (S.size - (i + 2))
                  case rel => exact ⟨i + 2, _, by omega, by omega, rfl, by go_num, by simp; omega, HN0.out, HN.out, HC3.out, HB3.out⟩
                  case measure => rw [HGK.out]; omega
              · have m110 := d110
                have e110 : ((S[i + 1].toNat : Int) == 110) = false := by
                  rw [beq_eq_false_iff_ne]
                  intro e
                  exact m110 (UInt8.toNat_inj.1 (by show _ = 110; omega))
                clear m110
                by_cases d116 : S[i + 1] = 116
                · have e116 : ((S[i + 1].toNat : Int) == 116) = true := by rw [d116]; rfl
                  have say := sayI_pair (x := 9) HSAY.out hai hn h92 (by rw [d116]; rfl)
                  have SAY := Lib.hid say
                  clear say h92 h34 n34 d116 hbad
                  clear d110
                  have HN0 : Hid (SayI S a (i + 2) (acc ++ [9])) := SAY.out
                  clear HSAY
                  go_wp2_with (at_builtin; refine wpList_append_two rfl _ _ 22 rfl (w.heap.size + 1) 5 i0 _ 1 1 Tryz.underlying22 HI.out.1 HI.out.2.1 HI.out.2.2.1 HI.out.2.2.2 rfl (by decide) _ acc.length _ rfl (HO.out.alloc (.cells #[.int .u8 9] 5)) ⟨wr.heap.size, 0, none⟩ 1 1 (by decide) rfl (Lib.byteCells [9]) rfl (cells_new wr (Lib.byteCells [9]) 5) (byte_one _) ?_ ?_ ?_ ?_)
                  any_goals (first | omega | (unfold maxLen; omega) | (simp; omega))
                  · intro v' w3 hG
                    have HN := Lib.hid (Ob.grow (l := [9]) hG rfl)
                    have hbb := hG.below (HO.out.alloc (.cells #[.int .u8 9] 5)) (by simp; omega)
                    have HB3 := Lib.hid ((HB.out.alloc hsz (.cells #[.int .u8 9] 5)).trans (hbb.mono (Nat.le_succ _)))
                    have HC3 := Lib.hid ((HC.out.later ((Below.refl (w.heap.size + 1) wr).alloc (by omega) (.cells #[.int .u8 9] 5))).later hbb)
                    clear hG hbb
                    go_wp2_with fail
                    go_roundg (S.size - (i + 2))
                    case rel => exact ⟨i + 2, _, by omega, by omega, rfl, by go_num, by simp; omega, HN0.out, HN.out, HC3.out, HB3.out⟩
                    case measure => rw [HGK.out]; omega
                · have m116 := d116
                  have e116 : ((S[i + 1].toNat : Int) == 116) = false := by
                    rw [beq_eq_false_iff_ne]
                    intro e
                    exact m116 (UInt8.toNat_inj.1 (by show _ = 116; omega))
                  clear m116
                  by_cases d114 : S[i + 1] = 114
                  · have e114 : ((S[i + 1].toNat : Int) == 114) = true := by rw [d114]; rfl
                    have say := sayI_pair (x := 13) HSAY.out hai hn h92 (by rw [d114]; rfl)
                    have SAY := Lib.hid say
                    clear say h92 h34 n34 d114 hbad
                    clear d110
                    clear d116
                    have HN0 : Hid (SayI S a (i + 2) (acc ++ [13])) := SAY.out
                    clear HSAY
                    go_wp2_with (at_builtin; refine wpList_append_two rfl _ _ 22 rfl (w.heap.size + 1) 5 i0 _ 1 1 Tryz.underlying22 HI.out.1 HI.out.2.1 HI.out.2.2.1 HI.out.2.2.2 rfl (by decide) _ acc.length _ rfl (HO.out.alloc (.cells #[.int .u8 13] 5)) ⟨wr.heap.size, 0, none⟩ 1 1 (by decide) rfl (Lib.byteCells [13]) rfl (cells_new wr (Lib.byteCells [13]) 5) (byte_one _) ?_ ?_ ?_ ?_)
                    any_goals (first | omega | (unfold maxLen; omega) | (simp; omega))
                    · intro v' w3 hG
                      have HN := Lib.hid (Ob.grow (l := [13]) hG rfl)
                      have hbb := hG.below (HO.out.alloc (.cells #[.int .u8 13] 5)) (by simp; omega)
                      have HB3 := Lib.hid ((HB.out.alloc hsz (.cells #[.int .u8 13] 5)).trans (hbb.mono (Nat.le_succ _)))
                      have HC3 := Lib.hid ((HC.out.later ((Below.refl (w.heap.size + 1) wr).alloc (by omega) (.cells #[.int .u8 13] 5))).later hbb)
                      clear hG hbb
                      go_wp2_with fail
                      go_roundg (S.size - (i + 2))
                      case rel => exact ⟨i + 2, _, by omega, by omega, rfl, by go_num, by simp; omega, HN0.out, HN.out, HC3.out, HB3.out⟩
                      case measure => rw [HGK.out]; omega
                  · have m114 := d114
                    have e114 : ((S[i + 1].toNat : Int) == 114) = false := by
                      rw [beq_eq_false_iff_ne]
                      intro e
                      exact m114 (UInt8.toNat_inj.1 (by show _ = 114; omega))
                    clear m114
                    by_cases d92 : S[i + 1] = 92
                    · have e92 : ((S[i + 1].toNat : Int) == 92) = true := by rw [d92]; rfl
                      have hbyte : S[i + 1].toNat = 92 := by rw [d92]; rfl
                      have say := sayI_pair (x := S[i + 1]) HSAY.out hai hn h92 (by rw [d92]; rfl)
                      have SAY := Lib.hid say
                      clear say h92 h34 n34 d92 hbyte hbad
                      clear d110
                      clear d116
                      clear d114
                      have HN0 : Hid (SayI S a (i + 2) (acc ++ [S[i + 1]])) := SAY.out
                      clear HSAY
                      go_wp2_with (at_builtin; refine wpList_append_two rfl _ _ 22 rfl (w.heap.size + 1) 5 i0 _ 1 1 Tryz.underlying22 HI.out.1 HI.out.2.1 HI.out.2.2.1 HI.out.2.2.2 rfl (by decide) _ acc.length _ rfl (HO.out.alloc (.cells #[.int .u8 S[i + 1].toNat] 5)) ⟨wr.heap.size, 0, none⟩ 1 1 (by decide) rfl (Lib.byteCells [S[i + 1]]) rfl (cells_new wr (Lib.byteCells [S[i + 1]]) 5) (byte_one _) ?_ ?_ ?_ ?_)
                      any_goals (first | omega | (unfold maxLen; omega) | (simp; omega))
                      · intro v' w3 hG
                        have HN := Lib.hid (Ob.grow (l := [S[i + 1]]) hG rfl)
                        have hbb := hG.below (HO.out.alloc (.cells #[.int .u8 S[i + 1].toNat] 5)) (by simp; omega)
                        have HB3 := Lib.hid ((HB.out.alloc hsz (.cells #[.int .u8 S[i + 1].toNat] 5)).trans (hbb.mono (Nat.le_succ _)))
                        have HC3 := Lib.hid ((HC.out.later ((Below.refl (w.heap.size + 1) wr).alloc (by omega) (.cells #[.int .u8 S[i + 1].toNat] 5))).later hbb)
                        clear hG hbb
                        go_wp2_with fail
                        go_roundg (S.size - (i + 2))
                        case rel => exact ⟨i + 2, _, by omega, by omega, rfl, by go_num, by simp; omega, HN0.out, HN.out, HC3.out, HB3.out⟩
                        case measure => rw [HGK.out]; omega
                    · have m92 := d92
                      have e92 : ((S[i + 1].toNat : Int) == 92) = false := by
                        rw [beq_eq_false_iff_ne]
                        intro e
                        exact m92 (UInt8.toNat_inj.1 (by show _ = 92; omega))
                      clear m92
                      by_cases d34 : S[i + 1] = 34
                      · have e34 : ((S[i + 1].toNat : Int) == 34) = true := by rw [d34]; rfl
                        have hbyte : S[i + 1].toNat = 34 := by rw [d34]; rfl
                        have say := sayI_pair (x := S[i + 1]) HSAY.out hai hn h92 (by rw [d34]; rfl)
                        have SAY := Lib.hid say
                        clear say h92 h34 n34 d34 hbyte hbad
                        clear d110
                        clear d116
                        clear d114
                        clear d92
                        have HN0 : Hid (SayI S a (i + 2) (acc ++ [S[i + 1]])) := SAY.out
                        clear HSAY
                        go_wp2_with (at_builtin; refine wpList_append_two rfl _ _ 22 rfl (w.heap.size + 1) 5 i0 _ 1 1 Tryz.underlying22 HI.out.1 HI.out.2.1 HI.out.2.2.1 HI.out.2.2.2 rfl (by decide) _ acc.length _ rfl (HO.out.alloc (.cells #[.int .u8 S[i + 1].toNat] 5)) ⟨wr.heap.size, 0, none⟩ 1 1 (by decide) rfl (Lib.byteCells [S[i + 1]]) rfl (cells_new wr (Lib.byteCells [S[i + 1]]) 5) (byte_one _) ?_ ?_ ?_ ?_)
                        any_goals (first | omega | (unfold maxLen; omega) | (simp; omega))
                        · intro v' w3 hG
                          have HN := Lib.hid (Ob.grow (l := [S[i + 1]]) hG rfl)
                          have hbb := hG.below (HO.out.alloc (.cells #[.int .u8 S[i + 1].toNat] 5)) (by simp; omega)
                          have HB3 := Lib.hid ((HB.out.alloc hsz (.cells #[.int .u8 S[i + 1].toNat] 5)).trans (hbb.mono (Nat.le_succ _)))
                          have HC3 := Lib.hid ((HC.out.later ((Below.refl (w.heap.size + 1) wr).alloc (by omega) (.cells #[.int .u8 S[i + 1].toNat] 5))).later hbb)
                          clear hG hbb
                          go_wp2_with fail
                          go_roundg (S.size - (i + 2))
                          case rel => exact ⟨i + 2, _, by omega, by omega, rfl, by go_num, by simp; omega, HN0.out, HN.out, HC3.out, HB3.out⟩
                          case measure => rw [HGK.out]; omega
                      · have m34 := d34
                        have e34 : ((S[i + 1].toNat : Int) == 34) = false := by
                          rw [beq_eq_false_iff_ne]
                          intro e
                          exact m34 (UInt8.toNat_inj.1 (by show _ = 34; omega))
                        clear m34
                        by_cases d120 : S[i + 1] = 120
                        · have e120 : ((S[i + 1].toNat : Int) == 120) = true := by rw [d120]; rfl
                          by_cases h3 : i + 3 < S.size
                          · have r1 : ¬ ((S.size : Int) ≤ (i : Int) + 3) := by omega
                            have r2 : (i : Int) + 2 < (S.size : Int) := by omega
                            have r3 : (i : Int) + 3 < (S.size : Int) := by omega
                            have r4 : (0 : Int) ≤ (i : Int) + 2 := by omega
                            have r5 : (0 : Int) ≤ (i : Int) + 3 := by omega
                            have r6 : ((i : Int) + 2).toNat = i + 2 := by omega
                            have r7 : ((i : Int) + 3).toNat = i + 3 := by omega
                            have HX2 : Hid (∀ w, Calls Tryz.prog 120 #[.int .u8 (S[i + 2].toNat : Int)] w fun e w' => e = .returned (.int .u8 (hexN S[i + 2] : Int)) ∧ w = w') := fun w => rfHalf_any _ w
                            have HX3 : Hid (∀ w, Calls Tryz.prog 120 #[.int .u8 (S[i + 3].toNat : Int)] w fun e w' => e = .returned (.int .u8 (hexN S[i + 3] : Int)) ∧ w = w') := fun w => rfHalf_any _ w
                            have l2 := hex_le S[i + 2]
                            have l3 := hex_le S[i + 3]
                            have HSH := Lib.hid (fun h1 h2 => sayI_hex HSAY.out hai h3 h92 d120 h1 h2)
                            have HSN := Lib.hid (fun (h : 15 < hexN S[i + 2] ∨ 15 < hexN S[i + 3]) => sayI_nohex HSAY.out hn h92 d120 (fun _ => h))
                            clear h92 h34 n34 hbad d120
                            clear d110
                            clear d116
                            clear d114
                            clear d92
                            clear d34
                            generalize hexN S[i + 2] = x at *
                            generalize hexN S[i + 3] = y at *
                            by_cases hx : 15 < x
                            · have x1 : decide (15 < (x : Int)) = true := decide_eq_true (by omega)
                              have HRV := Lib.hid (HSN.out (.inl hx))
                              clear HSN HSH
                              have HE : Hid (stringT (restB S a) = .error 101) := HRV.out
                              clear HSAY HO
                              clear HRV
                              obtain ⟨_, k0, k1, k2, g0, g1, g2⟩ := HC.out.cells
                              go_wp2_with (first | (go_at_call 120; with_reducible refine (HX2.out _).mono ?_; rintro e w' ⟨rfl, rfl⟩) | (go_at_call 120; with_reducible refine (HX3.out _).mono ?_; rintro e w' ⟨rfl, rfl⟩))
                              refine bodyPost_ret (v := .tuple #[.agg #[.int .u8 0, .string ⟨#[]⟩, .int .i64 0], .int .i64 0, .bool false]) (by simp [results, Tryz.results61, go_sem, k0, k1, k2, g0, g1, g2]) rfl ⟨by rw [HE.out]; exact ⟨_, _, _, _, rfl⟩, ?_⟩
                              exact ((HB.out.setCell (p := ⟨w.heap.size, 0, none⟩) (Nat.le_refl _) _).setCell (p := ⟨w.heap.size, 1, none⟩) (Nat.le_refl _) _).setCell (p := ⟨w.heap.size, 2, none⟩) (Nat.le_refl _) _
                            · have x1 : decide (15 < (x : Int)) = false := decide_eq_false (by omega)
                              by_cases hy : 15 < y
                              · have y1 : decide (15 < (y : Int)) = true := decide_eq_true (by omega)
                                have HRV := Lib.hid (HSN.out (.inr hy))
                                clear HSN HSH
                                have HE : Hid (stringT (restB S a) = .error 101) := HRV.out
                                clear HSAY HO
                                clear HRV
                                obtain ⟨_, k0, k1, k2, g0, g1, g2⟩ := HC.out.cells
                                go_wp2_with (first | (go_at_call 120; with_reducible refine (HX2.out _).mono ?_; rintro e w' ⟨rfl, rfl⟩) | (go_at_call 120; with_reducible refine (HX3.out _).mono ?_; rintro e w' ⟨rfl, rfl⟩))
                                refine bodyPost_ret (v := .tuple #[.agg #[.int .u8 0, .string ⟨#[]⟩, .int .i64 0], .int .i64 0, .bool false]) (by simp [results, Tryz.results61, go_sem, k0, k1, k2, g0, g1, g2]) rfl ⟨by rw [HE.out]; exact ⟨_, _, _, _, rfl⟩, ?_⟩
                                exact ((HB.out.setCell (p := ⟨w.heap.size, 0, none⟩) (Nat.le_refl _) _).setCell (p := ⟨w.heap.size, 1, none⟩) (Nat.le_refl _) _).setCell (p := ⟨w.heap.size, 2, none⟩) (Nat.le_refl _) _
                              · have y1 : decide (15 < (y : Int)) = false := decide_eq_false (by omega)
                                have HN0 := Lib.hid (HSH.out (by omega) (by omega))
                                obtain ⟨d, hd⟩ : ∃ d : UInt8, UInt8.ofNat (16 * x + y) = d := ⟨_, rfl⟩
                                rw [hd] at HN0
                                have hdn : d.toNat = 16 * x + y := by rw [← hd]; simp; omega
                                have w1 : IntKind.u8.wrap (16 * (x : Int)) = 16 * (x : Int) := by rw [IntKind.wrap_u8]; omega
                                have w2 : IntKind.u8.wrap (16 * (x : Int) + (y : Int)) = (d.toNat : Int) := by rw [IntKind.wrap_u8]; omega
                                have wr2 : IntKind.i64.wrap ((i : Int) + 2) = (i : Int) + 2 := IntWalk.i64_in _ (by omega)
                                have wr3 : IntKind.i64.wrap ((i : Int) + 3) = (i : Int) + 3 := IntWalk.i64_in _ (by omega)
                                clear HSN HSH HSAY hd
                                go_upto_region 27 with (first | (go_at_call 120; with_reducible refine (HX2.out _).mono ?_; rintro e w' ⟨rfl, rfl⟩) | (go_at_call 120; with_reducible refine (HX3.out _).mono ?_; rintro e w' ⟨rfl, rfl⟩))
                                have HBC : Hid ([Value.int .u8 (16 * (x : Int) + (y : Int))] = Lib.byteCells [d]) := by show _ = _; simp [Lib.byteCells, hdn]
                                go_region_law (first
                                  | (go_simp; go_at_call 120; with_reducible refine (HX2.out _).mono ?_; rintro e w' ⟨rfl, rfl⟩)
                                  | (go_simp; go_at_call 120; with_reducible refine (HX3.out _).mono ?_; rintro e w' ⟨rfl, rfl⟩)
                                  | (refine step_append_two rfl (.tmp 101) (.tmp 114) 22 rfl (w.heap.size + 1) 5 i0 _ 1 1 Tryz.underlying22 HI.out.1 HI.out.2.1 HI.out.2.2.1 HI.out.2.2.2 rfl (by decide) _ acc.length _ rfl (row_keep (HO.out.alloc (.cells #[.int .u8 (16 * (x : Int) + (y : Int))] 5)) (fun _ _ => rfl)) ⟨wr.heap.size, 0, none⟩ 1 1 (by decide) rfl [.int .u8 (16 * (x : Int) + (y : Int))] rfl (cells_new wr [.int .u8 (16 * (x : Int) + (y : Int))] 5) (by intro u hu; obtain rfl : u = .int .u8 (16 * (x : Int) + (y : Int)) := (by simpa using hu); rfl) (by unfold maxLen; omega) (by omega) (by first | omega | (simp; done) | (simp; omega)) ?_; intro v' w3 hG))
                                all_goals
                                  have hbb := hG.below (row_keep (HO.out.alloc (.cells #[.int .u8 (16 * (x : Int) + (y : Int))] 5)) (fun _ _ => rfl)) (by first | omega | (simp; done) | (simp; omega))
                                  have HB3 := Lib.hid ((HB.out.alloc hsz (.cells #[.int .u8 (16 * (x : Int) + (y : Int))] 5)).drew.trans (hbb.mono (Nat.le_succ _)))
                                  have HC3 := Lib.hid ((HC.out.later ((Below.refl (w.heap.size + 1) wr).alloc (by omega) (.cells #[.int .u8 (16 * (x : Int) + (y : Int))] 5)).drew).later hbb)
                                  rw [HBC.out] at hG
                                  have HN := Lib.hid (Ob.grow (l := [d]) hG rfl)
                                  clear hG hbb
                                  go_wp2_with fail
                                  go_roundg (S.size - (i + 4))
                                  case rel => exact ⟨i + 4, _, by omega, by omega, rfl, by go_num, by simp; omega, HN0.out, HN.out, HC3.out, HB3.out⟩
                                  case measure => rw [HGK.out]; omega
                          · have r1 : (S.size : Int) ≤ (i : Int) + 3 := by omega
                            have HRV := Lib.hid (sayI_nohex HSAY.out hn h92 d120 (fun h => absurd h h3))
                            clear h92 h34 n34 hbad d120
                            clear d110
                            clear d116
                            clear d114
                            clear d92
                            clear d34
                            have HE : Hid (stringT (restB S a) = .error 101) := HRV.out
                            clear HSAY HO
                            clear HRV
                            obtain ⟨_, k0, k1, k2, g0, g1, g2⟩ := HC.out.cells
                            go_wp2_with (first | (go_at_call 120; with_reducible refine (HX2.out _).mono ?_; rintro e w' ⟨rfl, rfl⟩) | (go_at_call 120; with_reducible refine (HX3.out _).mono ?_; rintro e w' ⟨rfl, rfl⟩))
                            refine bodyPost_ret (v := .tuple #[.agg #[.int .u8 0, .string ⟨#[]⟩, .int .i64 0], .int .i64 0, .bool false]) (by simp [results, Tryz.results61, go_sem, k0, k1, k2, g0, g1, g2]) rfl ⟨by rw [HE.out]; exact ⟨_, _, _, _, rfl⟩, ?_⟩
                            exact ((HB.out.setCell (p := ⟨w.heap.size, 0, none⟩) (Nat.le_refl _) _).setCell (p := ⟨w.heap.size, 1, none⟩) (Nat.le_refl _) _).setCell (p := ⟨w.heap.size, 2, none⟩) (Nat.le_refl _) _
                        · have m120 := d120
                          have e120 : ((S[i + 1].toNat : Int) == 120) = false := by
                            rw [beq_eq_false_iff_ne]
                            intro e
                            exact m120 (UInt8.toNat_inj.1 (by show _ = 120; omega))
                          have HRV : Hid (stringT (restB S a) = .error 101) := by
                            refine sayI_nopair HSAY.out hn h92 d120 ?_
                            unfold pairB
                            simp [d110, d116, d114, d92, d34]
                          clear m120 d120 h92 h34 n34 hbad
                          clear d110
                          clear d116
                          clear d114
                          clear d92
                          clear d34
                          have HE : Hid (stringT (restB S a) = .error 101) := HRV.out
                          clear HSAY HO
                          clear HRV
                          obtain ⟨_, k0, k1, k2, g0, g1, g2⟩ := HC.out.cells
                          go_wp2_with (first | (go_at_call 120; with_reducible refine (HX2.out _).mono ?_; rintro e w' ⟨rfl, rfl⟩) | (go_at_call 120; with_reducible refine (HX3.out _).mono ?_; rintro e w' ⟨rfl, rfl⟩))
                          refine bodyPost_ret (v := .tuple #[.agg #[.int .u8 0, .string ⟨#[]⟩, .int .i64 0], .int .i64 0, .bool false]) (by simp [results, Tryz.results61, go_sem, k0, k1, k2, g0, g1, g2]) rfl ⟨by rw [HE.out]; exact ⟨_, _, _, _, rfl⟩, ?_⟩
                          exact ((HB.out.setCell (p := ⟨w.heap.size, 0, none⟩) (Nat.le_refl _) _).setCell (p := ⟨w.heap.size, 1, none⟩) (Nat.le_refl _) _).setCell (p := ⟨w.heap.size, 2, none⟩) (Nat.le_refl _) _
            · have p1 : (S.size : Int) ≤ (i : Int) + 1 := by omega
              have HRV := Lib.hid (sayI_lone HSAY.out hlt h92 (by omega))
              clear h92 h34 n34 hbad
              have HE : Hid (stringT (restB S a) = .error 101) := HRV.out
              clear HSAY HO
              clear HRV
              obtain ⟨_, k0, k1, k2, g0, g1, g2⟩ := HC.out.cells
              go_wp2_with (first | (go_at_call 120; with_reducible refine (HX2.out _).mono ?_; rintro e w' ⟨rfl, rfl⟩) | (go_at_call 120; with_reducible refine (HX3.out _).mono ?_; rintro e w' ⟨rfl, rfl⟩))
              refine bodyPost_ret (v := .tuple #[.agg #[.int .u8 0, .string ⟨#[]⟩, .int .i64 0], .int .i64 0, .bool false]) (by simp [results, Tryz.results61, go_sem, k0, k1, k2, g0, g1, g2]) rfl ⟨by rw [HE.out]; exact ⟨_, _, _, _, rfl⟩, ?_⟩
              exact ((HB.out.setCell (p := ⟨w.heap.size, 0, none⟩) (Nat.le_refl _) _).setCell (p := ⟨w.heap.size, 1, none⟩) (Nat.le_refl _) _).setCell (p := ⟨w.heap.size, 2, none⟩) (Nat.le_refl _) _
          · have n92 := h92
            have f92 : ((S[i].toNat : Int) == 92) = false := by
              rw [beq_eq_false_iff_ne]
              intro e
              exact n92 (UInt8.toNat_inj.1 (by show _ = 92; omega))
            have SAY := Lib.hid (sayI_plain HSAY.out hai hlt (by omega) (by omega) h34 h92)
            clear h92 h34 n34 n92 hbad
            have HN0 : Hid (SayI S a (i + 1) (acc ++ [S[i]])) := SAY.out
            clear HSAY
            go_wp2_with (at_builtin; refine wpList_append_two rfl _ _ 22 rfl (w.heap.size + 1) 5 i0 _ 1 1 Tryz.underlying22 HI.out.1 HI.out.2.1 HI.out.2.2.1 HI.out.2.2.2 rfl (by decide) _ acc.length _ rfl (HO.out.alloc (.cells #[.int .u8 S[i].toNat] 5)) ⟨wr.heap.size, 0, none⟩ 1 1 (by decide) rfl (Lib.byteCells [S[i]]) rfl (cells_new wr (Lib.byteCells [S[i]]) 5) (byte_one _) ?_ ?_ ?_ ?_)
            any_goals (first | omega | (unfold maxLen; omega) | (simp; omega))
            · intro v' w3 hG
              have HN := Lib.hid (Ob.grow (l := [S[i]]) hG rfl)
              have hbb := hG.below (HO.out.alloc (.cells #[.int .u8 S[i].toNat] 5)) (by simp; omega)
              have HB3 := Lib.hid ((HB.out.alloc hsz (.cells #[.int .u8 S[i].toNat] 5)).trans (hbb.mono (Nat.le_succ _)))
              have HC3 := Lib.hid ((HC.out.later ((Below.refl (w.heap.size + 1) wr).alloc (by omega) (.cells #[.int .u8 S[i].toNat] 5))).later hbb)
              clear hG hbb
              go_wp2_with fail
              go_roundg (S.size - (i + 1))
              case rel => exact ⟨i + 1, _, by omega, by omega, rfl, by go_num, by simp; omega, HN0.out, HN.out, HC3.out, HB3.out⟩
              case measure => rw [HGK.out]; omega
    · have t1 : ¬ ((i : Int) < (S.size : Int)) := by omega
      have t1' : (S.size : Int) ≤ (i : Int) := by omega
      have HRV := Lib.hid (sayI_end HSAY.out (by omega))
      have HE : Hid (stringT (restB S a) = .error 101) := HRV.out
      clear HSAY HO
      clear HRV
      obtain ⟨_, k0, k1, k2, g0, g1, g2⟩ := HC.out.cells
      go_wp2_with (first | (go_at_call 120; with_reducible refine (HX2.out _).mono ?_; rintro e w' ⟨rfl, rfl⟩) | (go_at_call 120; with_reducible refine (HX3.out _).mono ?_; rintro e w' ⟨rfl, rfl⟩))
      refine bodyPost_ret (v := .tuple #[.agg #[.int .u8 0, .string ⟨#[]⟩, .int .i64 0], .int .i64 0, .bool false]) (by simp [results, Tryz.results61, go_sem, k0, k1, k2, g0, g1, g2]) rfl ⟨by rw [HE.out]; exact ⟨_, _, _, _, rfl⟩, ?_⟩
      exact ((HB.out.setCell (p := ⟨w.heap.size, 0, none⟩) (Nat.le_refl _) _).setCell (p := ⟨w.heap.size, 1, none⟩) (Nat.le_refl _) _).setCell (p := ⟨w.heap.size, 2, none⟩) (Nat.le_refl _) _
end Go.Proofs.YthhfgjcdopkmgaaGreatDoor
