/- The document's own Quote. -/
import Derived.Test.YthkbdklbnmlpkabGreatScnY
import Derived.Test.YthkbdklbnmlpkabGreatFlD
import Derived.OwnWalk
import Derived.BigRegion
set_option maxRecDepth 100000
namespace Go.Proofs.YthkbdklbnmlpkabGreat
open Go.Instr Go.RowKit ScnT FlT
set_option linter.unusedVariables false
set_option linter.unusedSimpArgs false
/-- A row of bytes of the call's own. -/
def Ob (base : Nat) (acc : Bs) (v : Value) (w : World) : Prop := w.ownsRow base 5 1 v acc.length (Lib.byteCells acc)
theorem Ob.grow {base : Nat} {acc l acc' : Bs} {v v' : Value} {w w' : World} (hG : Grown 5 base 1 v acc.length (Lib.byteCells acc) l.length (Lib.byteCells l) v' w w') (he : acc' = acc ++ l) : Ob base acc' v' w' := by
  subst he
  have := hG.1
  unfold Ob
  simpa [Lib.byteCells, List.map_append] using this
theorem byte_one (l : Bs) : ∀ u ∈ Lib.byteCells l, u.oneCell' = true := by
  intro u hu
  obtain ⟨b, _, rfl⟩ := List.mem_map.1 hu
  rfl
theorem add_at (r j : Nat) : (⟨r, 0, none⟩ : Addr).add j = ⟨r, j, none⟩ := by unfold Addr.add; split <;> simp_all
/-- The five ways of a byte. -/
theorem quote_cases (c : UInt8) : (c.toNat = 10 ∧ quoteOne c = [92, 110]) ∨ (c.toNat = 9 ∧ quoteOne c = [92, 116]) ∨ (c.toNat = 13 ∧ quoteOne c = [92, 114]) ∨ (c.toNat = 92 ∧ quoteOne c = [92, 92]) ∨ (c.toNat = 34 ∧ quoteOne c = [92, 34]) ∨
    (c.toNat ≠ 10 ∧ c.toNat ≠ 9 ∧ c.toNat ≠ 13 ∧ c.toNat ≠ 92 ∧ c.toNat ≠ 34 ∧ ((c.toNat < 32 ∧ quoteOne c = [92, 120, digB (c >>> 4), digB (c &&& 15)]) ∨ (32 ≤ c.toNat ∧ 126 < c.toNat ∧ quoteOne c = [92, 120, digB (c >>> 4), digB (c &&& 15)]) ∨ (32 ≤ c.toNat ∧ c.toNat ≤ 126 ∧ quoteOne c = [c]))) := by
  revert c
  exact all256 (by decide)
set_option maxHeartbeats 4000000 in
theorem RefQuote_any (s : ByteArray) (w : World) (hm : s.size ≤ 1000000) : Calls Tryz.prog 6 #[.string s] w fun e w' => e = .returned (.string (mkS (quoteB s.data.toList))) ∧ Below w.heap.size w w' := by
  obtain ⟨i0, hi, hz0, hz1, hz2⟩ := info_parts (show (Tryz.prog.info? 5).map (fun i => (i.zero, i.size, i.bytes)) = some (some (.int .u8 0), 1, 1) by kernel_rfl)
  have HI := Lib.hid (And.intro hi (And.intro hz0 (And.intro hz1 hz2)))
  clear hi hz0 hz1 hz2
  go_enter Tryz.func6, Tryz.ntmps6
  go_wp2_with fail
  go_loopg [3, 4] s.size (fun gg v u wr => ∃ k : Nat, k ≤ s.size ∧ gg = s.size - k ∧ u = .int .i64 k ∧ Ob w.heap.size (34 :: (s.data.toList.take k).flatMap quoteOne) v wr ∧ Below w.heap.size w wr)
  case atStart =>
    refine ⟨0, by omega, rfl, rfl, ?_, (Below.refl _ _).alloc (Nat.le_refl _) _⟩
    exact World.ownsRow_lit w #[.int .u8 34] 1 (Nat.le_refl _) (by decide) rfl
  case round =>
    rename_i v
    obtain ⟨k, hk, hgk, rfl, hO, hb⟩ := hrel
    have HGK := Lib.hid hgk
    have HO := Lib.hid hO
    have HB := Lib.hid hb
    have HFL := Lib.hid (flat_len s k hk)
    obtain ⟨acc, hacc⟩ : ∃ acc, 34 :: (s.data.toList.take k).flatMap quoteOne = acc := ⟨_, rfl⟩
    have HLN : Hid (acc.length ≤ 4 * k + 1) := by show _ ≤ _; rw [← hacc]; have := HFL.out; simp only [List.length_cons]; omega
    rw [hacc] at HO
    have HAC := Lib.hid hacc
    have hsz := hb.size
    clear hgk hO hb hacc HFL
    by_cases hlt : k < s.size
    · have HTF := Lib.hid (take_flat s k hlt)
      have hlti : (k : Int) < (s.size : Int) := by omega
      have hkn : acc.length ≤ 4000004 := by have := HLN.out; omega
      rcases quote_cases s[k] with ⟨hc, hq⟩ | ⟨hc, hq⟩ | ⟨hc, hq⟩ | ⟨hc, hq⟩ | ⟨hc, hq⟩ | ⟨n1, n2, n3, n4, n5, ⟨hc, hq⟩ | ⟨hc1, hc, hq⟩ | ⟨hc1, hc, hq⟩⟩
      · have HQ := Lib.hid hq
        have hci : (s[k].toNat : Int) = 10 := by omega
        clear hq hc
        go_wp2_with (at_builtin; refine wpList_append_two rfl _ _ 35 rfl w.heap.size 5 i0 _ 1 1 Tryz.underlying35 HI.out.1 HI.out.2.1 HI.out.2.2.1 HI.out.2.2.2 rfl (by decide) _ acc.length _ rfl (HO.out.alloc (.cells #[.int .u8 92, .int .u8 110] 5)) ⟨wr.heap.size, 0, none⟩ 2 2 (by decide) rfl (Lib.byteCells [92, 110]) rfl (cells_new wr (Lib.byteCells [92, 110]) 5) (byte_one _) ?_ ?_ ?_ ?_)
        · unfold maxLen; omega
        · omega
        · simp; omega
        · intro v' w3 hG
          have HN := Lib.hid (Ob.grow (l := [92, 110]) hG rfl)
          have HB3 := Lib.hid ((HB.out.alloc hsz _).trans (hG.below (HO.out.alloc (.cells #[.int .u8 92, .int .u8 110] 5)) (by simp; omega)))
          clear hG
          go_wp2_with fail
          go_roundg (s.size - (k + 1))
          case rel => exact ⟨k + 1, by omega, rfl, by go_num, by rw [HTF.out, HQ.out, ← List.cons_append, HAC.out]; exact HN.out, HB3.out⟩
          case measure => rw [HGK.out]; omega
      · have HQ := Lib.hid hq
        have hci : (s[k].toNat : Int) = 9 := by omega
        clear hq hc
        go_wp2_with (at_builtin; refine wpList_append_two rfl _ _ 35 rfl w.heap.size 5 i0 _ 1 1 Tryz.underlying35 HI.out.1 HI.out.2.1 HI.out.2.2.1 HI.out.2.2.2 rfl (by decide) _ acc.length _ rfl (HO.out.alloc (.cells #[.int .u8 92, .int .u8 116] 5)) ⟨wr.heap.size, 0, none⟩ 2 2 (by decide) rfl (Lib.byteCells [92, 116]) rfl (cells_new wr (Lib.byteCells [92, 116]) 5) (byte_one _) ?_ ?_ ?_ ?_)
        · unfold maxLen; omega
        · omega
        · simp; omega
        · intro v' w3 hG
          have HN := Lib.hid (Ob.grow (l := [92, 116]) hG rfl)
          have HB3 := Lib.hid ((HB.out.alloc hsz _).trans (hG.below (HO.out.alloc (.cells #[.int .u8 92, .int .u8 116] 5)) (by simp; omega)))
          clear hG
          go_wp2_with fail
          go_roundg (s.size - (k + 1))
          case rel => exact ⟨k + 1, by omega, rfl, by go_num, by rw [HTF.out, HQ.out, ← List.cons_append, HAC.out]; exact HN.out, HB3.out⟩
          case measure => rw [HGK.out]; omega
      · have HQ := Lib.hid hq
        have hci : (s[k].toNat : Int) = 13 := by omega
        clear hq hc
        go_wp2_with (at_builtin; refine wpList_append_two rfl _ _ 35 rfl w.heap.size 5 i0 _ 1 1 Tryz.underlying35 HI.out.1 HI.out.2.1 HI.out.2.2.1 HI.out.2.2.2 rfl (by decide) _ acc.length _ rfl (HO.out.alloc (.cells #[.int .u8 92, .int .u8 114] 5)) ⟨wr.heap.size, 0, none⟩ 2 2 (by decide) rfl (Lib.byteCells [92, 114]) rfl (cells_new wr (Lib.byteCells [92, 114]) 5) (byte_one _) ?_ ?_ ?_ ?_)
        · unfold maxLen; omega
        · omega
        · simp; omega
        · intro v' w3 hG
          have HN := Lib.hid (Ob.grow (l := [92, 114]) hG rfl)
          have HB3 := Lib.hid ((HB.out.alloc hsz _).trans (hG.below (HO.out.alloc (.cells #[.int .u8 92, .int .u8 114] 5)) (by simp; omega)))
          clear hG
          go_wp2_with fail
          go_roundg (s.size - (k + 1))
          case rel => exact ⟨k + 1, by omega, rfl, by go_num, by rw [HTF.out, HQ.out, ← List.cons_append, HAC.out]; exact HN.out, HB3.out⟩
          case measure => rw [HGK.out]; omega
      · have HQ := Lib.hid hq
        have hci : (s[k].toNat : Int) = 92 := by omega
        clear hq hc
        go_wp2_with (at_builtin; refine wpList_append_two rfl _ _ 35 rfl w.heap.size 5 i0 _ 1 1 Tryz.underlying35 HI.out.1 HI.out.2.1 HI.out.2.2.1 HI.out.2.2.2 rfl (by decide) _ acc.length _ rfl (HO.out.alloc (.cells #[.int .u8 92, .int .u8 92] 5)) ⟨wr.heap.size, 0, none⟩ 2 2 (by decide) rfl (Lib.byteCells [92, 92]) rfl (cells_new wr (Lib.byteCells [92, 92]) 5) (byte_one _) ?_ ?_ ?_ ?_)
        · unfold maxLen; omega
        · omega
        · simp; omega
        · intro v' w3 hG
          have HN := Lib.hid (Ob.grow (l := [92, 92]) hG rfl)
          have HB3 := Lib.hid ((HB.out.alloc hsz _).trans (hG.below (HO.out.alloc (.cells #[.int .u8 92, .int .u8 92] 5)) (by simp; omega)))
          clear hG
          go_wp2_with fail
          go_roundg (s.size - (k + 1))
          case rel => exact ⟨k + 1, by omega, rfl, by go_num, by rw [HTF.out, HQ.out, ← List.cons_append, HAC.out]; exact HN.out, HB3.out⟩
          case measure => rw [HGK.out]; omega
      · have HQ := Lib.hid hq
        have hci : (s[k].toNat : Int) = 34 := by omega
        clear hq hc
        go_wp2_with (at_builtin; refine wpList_append_two rfl _ _ 35 rfl w.heap.size 5 i0 _ 1 1 Tryz.underlying35 HI.out.1 HI.out.2.1 HI.out.2.2.1 HI.out.2.2.2 rfl (by decide) _ acc.length _ rfl (HO.out.alloc (.cells #[.int .u8 92, .int .u8 34] 5)) ⟨wr.heap.size, 0, none⟩ 2 2 (by decide) rfl (Lib.byteCells [92, 34]) rfl (cells_new wr (Lib.byteCells [92, 34]) 5) (byte_one _) ?_ ?_ ?_ ?_)
        · unfold maxLen; omega
        · omega
        · simp; omega
        · intro v' w3 hG
          have HN := Lib.hid (Ob.grow (l := [92, 34]) hG rfl)
          have HB3 := Lib.hid ((HB.out.alloc hsz _).trans (hG.below (HO.out.alloc (.cells #[.int .u8 92, .int .u8 34] 5)) (by simp; omega)))
          clear hG
          go_wp2_with fail
          go_roundg (s.size - (k + 1))
          case rel => exact ⟨k + 1, by omega, rfl, by go_num, by rw [HTF.out, HQ.out, ← List.cons_append, HAC.out]; exact HN.out, HB3.out⟩
          case measure => rw [HGK.out]; omega
      · have HQ := Lib.hid hq
        have f10 : ((s[k].toNat : Int) == 10) = false := by simp; omega
        have f9 : ((s[k].toNat : Int) == 9) = false := by simp; omega
        have f13 : ((s[k].toNat : Int) == 13) = false := by simp; omega
        have f92 : ((s[k].toNat : Int) == 92) = false := by simp; omega
        have f34 : ((s[k].toNat : Int) == 34) = false := by simp; omega
        have f1 : decide ((s[k].toNat : Int) < 32) = true := by simp; omega
        clear hc
        have hlt256 := s[k].toNat_lt
        obtain ⟨d1, h1⟩ : ∃ n : Nat, s[k].toNat / 16 = n := ⟨_, rfl⟩
        obtain ⟨d2, h2⟩ : ∃ n : Nat, s[k].toNat % 16 = n := ⟨_, rfl⟩
        have l1 : d1 < 16 := by omega
        have l2 : d2 < 16 := by omega
        have l1' : (d1 : Int) < 16 := by omega
        have l2' : (d2 : Int) < 16 := by omega
        have q1 : (s[k].toNat : Int) / 16 = (d1 : Int) := by omega
        have q2 : (s[k].toNat : Int) % 16 = (d2 : Int) := by omega
        have HE : Hid ([92, 120, digB (s[k] >>> 4), digB (s[k] &&& 15)] = [92, 120, dgs[d1]'(by show d1 < 16; exact l1), dgs[d2]'(by show d2 < 16; exact l2)]) := by
          show _ = _
          obtain ⟨x1, x2⟩ := nib s[k]
          rw [x1, x2, h1, h2, ← dgs_at ⟨d1, l1⟩, ← dgs_at ⟨d2, l2⟩]
        clear hq h1 h2 n1 n2 n3 n4 n5 hlt256
        have w1 : IntKind.u8.wrap (d1 : Int) = (d1 : Int) := by rw [IntKind.wrap_u8]; omega
        have q3 : (s[k].toNat : Int).tmod 16 = (d2 : Int) := by rw [Int.tmod_eq_emod_of_nonneg (by omega)]; omega
        have w2 : IntKind.u8.wrap (d2 : Int) = (d2 : Int) := by rw [IntKind.wrap_u8]; omega
        unfold dgs at HE
        go_upto_region 16 with fail
        obtain ⟨L, hL⟩ : ∃ L : Bs, L = [92, 120, dgs[d1]'(by show d1 < 16; exact l1), dgs[d2]'(by show d2 < 16; exact l2)] := ⟨_, rfl⟩
        go_region_law (refine step_append_two rfl (.tmp 56) (.tmp 63) 35 rfl w.heap.size 5 i0 _ 1 1 Tryz.underlying35 HI.out.1 HI.out.2.1 HI.out.2.2.1 HI.out.2.2.2 rfl (by decide) _ acc.length _ rfl (row_keep (HO.out.alloc (.cells #[.int .u8 92, .int .u8 120, .int .u8 (dgs[d1]'(by show d1 < 16; exact l1)).toNat, .int .u8 (dgs[d2]'(by show d2 < 16; exact l2)).toNat] 5)) (fun _ _ => rfl)) ⟨wr.heap.size, 0, none⟩ 4 4 (by decide) rfl (Lib.byteCells [92, 120, dgs[d1]'(by show d1 < 16; exact l1), dgs[d2]'(by show d2 < 16; exact l2)]) rfl (cells_new wr (Lib.byteCells [92, 120, dgs[d1]'(by show d1 < 16; exact l1), dgs[d2]'(by show d2 < 16; exact l2)]) 5) (byte_one _) (by unfold maxLen; omega) (by omega) (by simp; omega) ?_; intro v' w3 hG)
        all_goals
          have HN := Lib.hid (Ob.grow (l := [92, 120, dgs[d1]'(by show d1 < 16; exact l1), dgs[d2]'(by show d2 < 16; exact l2)]) hG rfl)
          have HB3 : Hid (Below w.heap.size w w3) := by
            refine Below.trans ?_ (hG.below (row_keep (HO.out.alloc (.cells #[.int .u8 92, .int .u8 120, .int .u8 (dgs[d1]'(by show d1 < 16; exact l1)).toNat, .int .u8 (dgs[d2]'(by show d2 < 16; exact l2)).toNat] 5)) (fun _ _ => rfl)) (by simp; omega))
            exact (HB.out.alloc hsz _).drew
          clear hG
          go_wp2_with fail
          go_roundg (s.size - (k + 1))
          case rel => exact ⟨k + 1, by omega, rfl, by go_num, by rw [HTF.out, HQ.out, ← List.cons_append, HAC.out, HE.out]; exact HN.out, HB3.out⟩
          case measure => rw [HGK.out]; omega
      · have HQ := Lib.hid hq
        have f10 : ((s[k].toNat : Int) == 10) = false := by simp; omega
        have f9 : ((s[k].toNat : Int) == 9) = false := by simp; omega
        have f13 : ((s[k].toNat : Int) == 13) = false := by simp; omega
        have f92 : ((s[k].toNat : Int) == 92) = false := by simp; omega
        have f34 : ((s[k].toNat : Int) == 34) = false := by simp; omega
        have f1 : decide ((s[k].toNat : Int) < 32) = false := by simp; omega
        have f2 : decide (126 < (s[k].toNat : Int)) = true := by simp; omega
        clear hc hc1
        have hlt256 := s[k].toNat_lt
        obtain ⟨d1, h1⟩ : ∃ n : Nat, s[k].toNat / 16 = n := ⟨_, rfl⟩
        obtain ⟨d2, h2⟩ : ∃ n : Nat, s[k].toNat % 16 = n := ⟨_, rfl⟩
        have l1 : d1 < 16 := by omega
        have l2 : d2 < 16 := by omega
        have l1' : (d1 : Int) < 16 := by omega
        have l2' : (d2 : Int) < 16 := by omega
        have q1 : (s[k].toNat : Int) / 16 = (d1 : Int) := by omega
        have q2 : (s[k].toNat : Int) % 16 = (d2 : Int) := by omega
        have HE : Hid ([92, 120, digB (s[k] >>> 4), digB (s[k] &&& 15)] = [92, 120, dgs[d1]'(by show d1 < 16; exact l1), dgs[d2]'(by show d2 < 16; exact l2)]) := by
          show _ = _
          obtain ⟨x1, x2⟩ := nib s[k]
          rw [x1, x2, h1, h2, ← dgs_at ⟨d1, l1⟩, ← dgs_at ⟨d2, l2⟩]
        clear hq h1 h2 n1 n2 n3 n4 n5 hlt256
        have w1 : IntKind.u8.wrap (d1 : Int) = (d1 : Int) := by rw [IntKind.wrap_u8]; omega
        have q3 : (s[k].toNat : Int).tmod 16 = (d2 : Int) := by rw [Int.tmod_eq_emod_of_nonneg (by omega)]; omega
        have w2 : IntKind.u8.wrap (d2 : Int) = (d2 : Int) := by rw [IntKind.wrap_u8]; omega
        unfold dgs at HE
        go_upto_region 16 with fail
        obtain ⟨L, hL⟩ : ∃ L : Bs, L = [92, 120, dgs[d1]'(by show d1 < 16; exact l1), dgs[d2]'(by show d2 < 16; exact l2)] := ⟨_, rfl⟩
        go_region_law (refine step_append_two rfl (.tmp 56) (.tmp 63) 35 rfl w.heap.size 5 i0 _ 1 1 Tryz.underlying35 HI.out.1 HI.out.2.1 HI.out.2.2.1 HI.out.2.2.2 rfl (by decide) _ acc.length _ rfl (row_keep (HO.out.alloc (.cells #[.int .u8 92, .int .u8 120, .int .u8 (dgs[d1]'(by show d1 < 16; exact l1)).toNat, .int .u8 (dgs[d2]'(by show d2 < 16; exact l2)).toNat] 5)) (fun _ _ => rfl)) ⟨wr.heap.size, 0, none⟩ 4 4 (by decide) rfl (Lib.byteCells [92, 120, dgs[d1]'(by show d1 < 16; exact l1), dgs[d2]'(by show d2 < 16; exact l2)]) rfl (cells_new wr (Lib.byteCells [92, 120, dgs[d1]'(by show d1 < 16; exact l1), dgs[d2]'(by show d2 < 16; exact l2)]) 5) (byte_one _) (by unfold maxLen; omega) (by omega) (by simp; omega) ?_; intro v' w3 hG)
        all_goals
          have HN := Lib.hid (Ob.grow (l := [92, 120, dgs[d1]'(by show d1 < 16; exact l1), dgs[d2]'(by show d2 < 16; exact l2)]) hG rfl)
          have HB3 : Hid (Below w.heap.size w w3) := by
            refine Below.trans ?_ (hG.below (row_keep (HO.out.alloc (.cells #[.int .u8 92, .int .u8 120, .int .u8 (dgs[d1]'(by show d1 < 16; exact l1)).toNat, .int .u8 (dgs[d2]'(by show d2 < 16; exact l2)).toNat] 5)) (fun _ _ => rfl)) (by simp; omega))
            exact (HB.out.alloc hsz _).drew
          clear hG
          go_wp2_with fail
          go_roundg (s.size - (k + 1))
          case rel => exact ⟨k + 1, by omega, rfl, by go_num, by rw [HTF.out, HQ.out, ← List.cons_append, HAC.out, HE.out]; exact HN.out, HB3.out⟩
          case measure => rw [HGK.out]; omega
      · have HQ := Lib.hid hq
        have f10 : ((s[k].toNat : Int) == 10) = false := by simp; omega
        have f9 : ((s[k].toNat : Int) == 9) = false := by simp; omega
        have f13 : ((s[k].toNat : Int) == 13) = false := by simp; omega
        have f92 : ((s[k].toNat : Int) == 92) = false := by simp; omega
        have f34 : ((s[k].toNat : Int) == 34) = false := by simp; omega
        have f1 : decide ((s[k].toNat : Int) < 32) = false := by simp; omega
        have f2 : decide (126 < (s[k].toNat : Int)) = false := by simp; omega
        clear hq hc hc1 n1 n2 n3 n4 n5
        go_wp2_with (at_builtin; refine wpList_append_two rfl _ _ 35 rfl w.heap.size 5 i0 _ 1 1 Tryz.underlying35 HI.out.1 HI.out.2.1 HI.out.2.2.1 HI.out.2.2.2 rfl (by decide) _ acc.length _ rfl (HO.out.alloc (.cells #[.int .u8 s[k].toNat] 5)) ⟨wr.heap.size, 0, none⟩ 1 1 (by decide) rfl (Lib.byteCells [s[k]]) rfl (cells_new wr (Lib.byteCells [s[k]]) 5) (byte_one _) ?_ ?_ ?_ ?_)
        · unfold maxLen; omega
        · omega
        · simp; omega
        · intro v' w3 hG
          have HN := Lib.hid (Ob.grow (l := [s[k]]) hG rfl)
          have HB3 := Lib.hid ((HB.out.alloc hsz _).trans (hG.below (HO.out.alloc (.cells #[.int .u8 s[k].toNat] 5)) (by simp; omega)))
          clear hG
          go_wp2_with fail
          go_roundg (s.size - (k + 1))
          case rel => exact ⟨k + 1, by omega, rfl, by go_num, by rw [HTF.out, HQ.out, ← List.cons_append, HAC.out]; exact HN.out, HB3.out⟩
          case measure => rw [HGK.out]; omega
    · have hkS : k = s.size := by omega
      have HE : Hid (acc ++ [34] = quoteB s.data.toList) := by
        show _ = _
        rw [← HAC.out, hkS, List.take_of_length_le (by simp)]
        rfl
      have hge : ¬ ((k : Int) < (s.size : Int)) := by omega
      have hkn : acc.length ≤ 4000004 := by have := HLN.out; omega
      clear hkS
      go_wp2_with (at_builtin; refine wpList_append_two rfl _ _ 35 rfl w.heap.size 5 i0 _ 1 1 Tryz.underlying35 HI.out.1 HI.out.2.1 HI.out.2.2.1 HI.out.2.2.2 rfl (by decide) _ acc.length _ rfl (HO.out.alloc (.cells #[.int .u8 34] 5)) ⟨wr.heap.size, 0, none⟩ 1 1 (by decide) rfl (Lib.byteCells [34]) rfl (cells_new wr (Lib.byteCells [34]) 5) (byte_one _) ?_ ?_ ?_ ?_)
      · unfold maxLen; omega
      · omega
      · first | omega | (simp; omega)
      · intro v' w3 hG
        have HN := Lib.hid (Ob.grow (l := [34]) hG rfl)
        have HB3 := Lib.hid ((HB.out.alloc hsz _).trans (hG.below (HO.out.alloc (.cells #[.int .u8 34] 5)) (by simp; omega)))
        obtain ⟨r, c3, hv, _, _, _, _⟩ := own_head hG.1 (by omega)
        have hlen : (quoteB s.data.toList).length = acc.length + 1 := by rw [← HE.out]; simp
        unfold row at hv
        try simp only [List.length_cons, List.length_nil, Nat.zero_add] at hv
        subst hv
        clear hG
        rw [HE.out] at HN
        have hcv : (convert 35 9 (.slice (some ⟨r, 0, none⟩) (acc.length + 1) c3)).run Tryz.prog w3 = .ok (.string (mkS (quoteB s.data.toList))) w3 := by
          have h0 := HN.out
          unfold Ob at h0
          rw [hlen] at h0
          rw [← hlen]
          refine run_convert_bytes_back _ _ _ _ ⟨r, 0, none⟩ c3 (quoteB s.data.toList) Tryz.underlying35 Tryz.underlying5 Tryz.underlying9 fun j hj => ?_
          rw [add_at r j]
          rw [h0.cellAt j (by omega)]
          simp [Lib.byteCells, hj]
        clear hlen
        go_wp2_with fail
        go_ret
        exact ⟨rfl, HB3.out⟩
end Go.Proofs.YthkbdklbnmlpkabGreat
