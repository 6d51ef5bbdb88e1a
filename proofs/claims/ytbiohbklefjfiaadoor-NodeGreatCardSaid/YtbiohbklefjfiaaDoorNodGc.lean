/- NodeGreat: the walk. -/
import Derived.Test.YtbiohbklefjfiaaDoorNodGb
set_option maxRecDepth 100000
namespace Go.Proofs.YtbiohbklefjfiaaDoor
open Go.Instr Go.RowKit NodT ShapeR
set_option linter.unusedVariables false
set_option maxHeartbeats 8000000 in
theorem NodeGreat_any (w : World) (ho : OpsAt 1 w) : Calls Tryd.prog 4 #[] w fun e w' => e = .returned (.bool true) ∧ Below w.heap.size w w' := by
  have HO := Lib.hid (⟨ho, Below.refl _ _⟩ : Gr w w)
  have HE := Lib.hid ho.lt
  clear ho
  go_enter Tryd.func4, Tryd.ntmps4
  go_wp2_with fail
  go_loopg [1] 7 (fun gg v1 wr => ∃ d : Nat, 55 ≤ d ∧ d ≤ 62 ∧ gg = 62 - d ∧ v1 = .int .i64 d ∧ Gr w wr)
  case atStart => exact ⟨55, by omega, by omega, by omega, rfl, HO.out⟩
  case round =>
    obtain ⟨d, hd1, hd2, hgk, rfl, hgr⟩ := hrel
    have HGK := Lib.hid hgk
    have HGR := Lib.hid hgr
    clear hgk hgr
    by_cases hlt : d < 62
    · have t1 : decide ((d : Int) < 62) = true := by simp; omega
      go_wp2_with fail
      refine (lawof_any _ _ _ _ _ _).mono ?_
      rintro e w1 ⟨rfl, hb1⟩
      have HI0 := Lib.hid (Gi.start HGR.out hb1)
      clear hb1
      go_wp2_with fail
      generalize hw1 : (w1.alloc (.cells #[.int .u8 21, .string ⟨#[49]⟩, .int .i64 0, .int .i64 0, .slice none 0 0] 25)) = W1 at *
      clear hw1
      generalize w1.heap.size = g at *
      go_loopg [3] d (fun gg v3 wr => ∃ (k : Nat) (x : Nd), k ≤ d ∧ gg = d - k ∧ v3 = .int .i64 k ∧ Gi w g k x wr)
      case atStart => exact ⟨0, _, by omega, rfl, rfl, HI0.out⟩
      case round =>
        obtain ⟨k, x, hk, hgk2, rfl, hgi⟩ := hrel
        have HGK2 := Lib.hid hgk2
        have HGI := Lib.hid hgi
        clear hgk2 hgi HI0
        by_cases hkd : k < d
        · have t2 : decide ((k : Int) < (d : Int)) = true := by simp; omega
          obtain ⟨c0, c1, c2, c3, c4, f0, f1, f2, f3, f4⟩ := HGI.out.box
          go_wp2_with fail
          refine (lawof_any _ _ _ _ _ _).mono ?_
          rintro e w2 ⟨rfl, hb2⟩
          have HST := Lib.hid (HGI.out.step hb2)
          have hlt2 := HGI.out.lt
          obtain ⟨d0, d1, d2, d3, d4, q0, q1, q2, q3, q4⟩ := HGI.out.box.under (((Below.refl _ _).alloc (Nat.le_refl _) _).trans (hb2.mono (by simp))) hlt2
          unfold put5 at HST
          clear hb2 c0 c1 c2 c3 c4 f0 f1 f2 f3 f4
          go_wp2_with fail
          go_roundg (d - (k + 1))
          case rel => exact ⟨k + 1, _, by omega, rfl, by go_num, HST.out⟩
          case measure => rw [HGK2.out]; omega
        · have hkd' : k = d := by omega
          have t2 : decide ((k : Int) < (d : Int)) = false := by simp; omega
          obtain ⟨c0, c1, c2, c3, c4, f0, f1, f2, f3, f4⟩ := HGI.out.box
          go_wp2_with fail
          refine (lawof_any _ _ _ _ _ _).mono ?_
          rintro e w2 ⟨rfl, hb2⟩
          have hlt2 := HGI.out.lt
          have hy := HGI.out.inx.wrap hlt2 hb2 17 ⟨#[]⟩ (by decide) (by decide)
          have hg2 : Gr w w2 := HGI.out.gr.later (((Below.refl _ _).alloc (Nat.le_refl _) _).trans (hb2.mono (by simp)))
          have hl2 : g < w2.heap.size := by have := hb2.size; simp at this; omega
          have hex := HGI.out.er
          have HY := Lib.hid hy
          have HG2 := Lib.hid hg2
          have HEX := Lib.hid hex
          clear hy hg2 hex hb2 c0 c1 c2 c3 c4 f0 f1 f2 f3 f4
          go_wp2_with fail
          refine (action_any _ _ _ _).mono ?_
          rintro e w3 ⟨rfl, hb3⟩
          have HZ := Lib.hid (HY.out.wrap hl2 hb3 9 ⟨#[]⟩ (by decide) (by decide))
          have HG3 := Lib.hid (HG2.out.later (((Below.refl _ _).alloc (Nat.le_refl _) _).trans (hb3.mono (by simp))))
          clear hb3
          obtain ⟨z, hz⟩ : ∃ z : Nd, z = .mk 9 ⟨#[]⟩ 0 0 (some ⟨w2.heap.size, 0, none⟩) 1 [.mk 17 ⟨#[]⟩ 0 0 (some ⟨wr.heap.size, 0, none⟩) 1 [x]] := ⟨_, rfl⟩
          have hez : er z = great d := by
            rw [hz]
            show Nd.mk 9 ⟨#[]⟩ 0 0 none 0 [Nd.mk 17 ⟨#[]⟩ 0 0 none 0 [NodT.er x]] = _
            rw [HEX.out, hkd']
            rfl
          have hrz : rightB z = decide ((d : Int) ≤ 57) := by rw [← rightB_er, hez]; exact right_great d hd1 hlt
          have hdz : ((deep z : Nat) : Int) = (d : Int) + 3 := by rw [← deep_er, hez, deep_great]; omega
          have hmz : many z ≤ 1000000 := by rw [← many_er, hez, many_great]; omega
          have hzv : z.val = .agg #[.int .u8 9, .string ⟨#[]⟩, .int .i64 0, .int .i64 0, .slice (some ⟨w2.heap.size, 0, none⟩) 1 1] := by rw [hz]; rfl
          have HZ2 : Hid (InX w3 g z) := by show InX w3 g z; rw [hz]; exact HZ.out
          have HR : Hid (∀ W, Below w3.heap.size w3 W → Calls Tryd.prog 16 #[.agg #[.int .u8 9, .string ⟨#[]⟩, .int .i64 0, .int .i64 0, .slice (some ⟨w2.heap.size, 0, none⟩) 1 1]] W fun e w' => e = .returned (.bool (decide ((d : Int) ≤ 57))) ∧ Below W.heap.size W w') := by
            intro W hW
            have := Right_any z W _ (HZ2.out.later hW).in_ (Nat.le_refl _) hmz (HG3.out.later hW).ops
            rw [hzv, hrz] at this
            exact this
          have HD : Hid (∀ W, Below w3.heap.size w3 W → Calls Tryd.prog 17 #[.agg #[.int .u8 9, .string ⟨#[]⟩, .int .i64 0, .int .i64 0, .slice (some ⟨w2.heap.size, 0, none⟩) 1 1]] W fun e w' => e = .returned (.int .i64 ((d : Int) + 3)) ∧ Below W.heap.size W w') := by
            intro W hW
            have := Deep_any z W _ (HZ2.out.later hW).in_ (Nat.le_refl _) hmz
            rw [hzv, hdz] at this
            exact this
          clear hz hez hrz hdz hmz hzv HZ HZ2 HEX HY HG2
          obtain ⟨b, hbd⟩ : ∃ b, decide ((d : Int) ≤ 57) = b := ⟨_, rfl⟩
          rw [hbd] at HR
          have HAL : Hid (Below w3.heap.size w3 (w3.alloc (.cells #[.int .u8 9, .string ⟨#[]⟩, .int .i64 0, .int .i64 0, .slice (some ⟨w2.heap.size, 0, none⟩) 1 1] 25))) := (Below.refl _ _).alloc (Nat.le_refl _) _
          have HB4 : Hid ((w3.alloc (.cells #[.int .u8 9, .string ⟨#[]⟩, .int .i64 0, .int .i64 0, .slice (some ⟨w2.heap.size, 0, none⟩) 1 1] 25)).heap[w3.heap.size]? = some (.cells (Nd.mk 9 ⟨#[]⟩ 0 0 (some ⟨w2.heap.size, 0, none⟩) 1 [.mk 17 ⟨#[]⟩ 0 0 (some ⟨wr.heap.size, 0, none⟩) 1 [x]]).cs.toArray 25)) := heap_alloc_new _ _
          go_wp2_with fail
          refine (HR.out _ HAL.out).mono ?_
          rintro e w4 ⟨rfl, hb4⟩
          have HB5 := Lib.hid (HAL.out.trans (hb4.mono (by simp)))
          obtain ⟨c0, c1, c2, c3, c4⟩ := cell_at ((hb4.block w3.heap.size (by simp)).trans HB4.out)
          have c0' : w4.cell? ⟨w3.heap.size, 0, none⟩ = some (.int .u8 9) := c0
          have c1' : w4.cell? ⟨w3.heap.size, 1, none⟩ = some (.string ⟨#[]⟩) := c1
          have c2' : w4.cell? ⟨w3.heap.size, 2, none⟩ = some (.int .i64 0) := c2
          have c3' : w4.cell? ⟨w3.heap.size, 3, none⟩ = some (.int .i64 0) := c3
          have c4' : w4.cell? ⟨w3.heap.size, 4, none⟩ = some (.slice (some ⟨w2.heap.size, 0, none⟩) 1 1) := c4
          clear hb4 c0 c1 c2 c3 c4
          go_wp2_with fail
          refine (HD.out _ HB5.out).mono ?_
          rintro e w5 ⟨rfl, hb5⟩
          have HB6 := Lib.hid (HB5.out.trans (hb5.mono HB5.out.size))
          clear hb5 c0' c1' c2' c3' c4'
          go_wp2_with fail
          go_roundg (62 - (d + 1))
          case rel => exact ⟨d + 1, by omega, by omega, rfl, by go_num, HG3.out.later HB6.out⟩
          case measure => rw [HGK.out]; omega
    · have t1 : decide ((d : Int) < 62) = false := by simp; omega
      obtain ⟨i0, hi, hz0, hz1, hz2⟩ := info_parts Tryd.infoNode
      have HI := Lib.hid hi
      have HZ := Lib.hid (And.intro hz0 (And.intro hz1 hz2))
      clear hi hz0 hz1 hz2
      obtain ⟨N, hN⟩ : ∃ N : Nat, N = 32767 := ⟨_, rfl⟩
      have HN := Lib.hid hN
      have hNb : N ≤ 32767 := by omega
      have hNi : (32767 : Int) = (N : Int) := by rw [hN]; rfl
      clear hN
      go_wp2_with (refine wpList_make_full _ rfl _ _ 23 rfl w.heap.size 25 i0 _ 5 Tryd.underlying23 HI.out HZ.out.1 HZ.out.2.1 _ _ 32767 32767 N rfl rfl hNi hNi (by rw [HZ.out.2.2]; omega) (by unfold maxLen; omega) HGR.out.below.size ?_; intro w1 hown hgrow)
      have hw0 : Wd w wr.heap.size N 0 w1 := by
        have hb : Below wr.heap.size wr w1 := below_of_grown hgrow (Nat.le_refl _) (fun g e => by cases e)
        refine ⟨?_, HGR.out.below.size, HE.out, HGR.out.later hb⟩
        rcases hown.2 with ⟨h, _⟩ | ⟨g', cap, cur, hv, _, hg', _, _, hsz, _⟩
        · cases h
        · obtain ⟨rfl, rfl⟩ : wr.heap.size = g' ∧ N = cap := by simpa using hv
          refine ⟨cur.toList, by rw [Array.length_toList, hsz]; rfl, ?_⟩
          rw [hg']
          rfl
      have HW0 := Lib.hid hw0
      clear hw0 hown hgrow hNi HZ HI
      generalize wr.heap.size = g at *
      go_loopg [6] N (fun gg v6 wx => ∃ k : Nat, k ≤ N ∧ gg = N - k ∧ v6 = .int .i64 k ∧ Wd w g N k wx)
      case atStart => exact ⟨0, by omega, rfl, rfl, HW0.out⟩
      case round =>
        obtain ⟨k, hk, hgk2, rfl, hwd⟩ := hrel
        have HGK2 := Lib.hid hgk2
        have HWD := Lib.hid hwd
        clear hgk2 hwd HW0
        by_cases hkN : k < N
        · have t2 : decide ((k : Int) < (N : Int)) = true := by simp; omega
          have hki : (k : Int) < (N : Int) := by omega
          have hk0 : (0 : Int) ≤ (k : Int) := by omega
          go_wp2_with fail
          refine (lawof_any _ _ _ _ _ _).mono ?_
          rintro e w2 ⟨rfl, hb2⟩
          obtain ⟨hst, hth⟩ := HWD.out.step hkN hb2
          have HST := Lib.hid hst
          have HTH := Lib.hid hth
          clear hst hth hb2
          have HST2 : Hid (Wd w g N (k + 1) (((((w2.setCell ⟨g, k * 5, none⟩ (.int .u8 18)).setCell ⟨g, k * 5 + 1, none⟩ (.string ⟨#[]⟩)).setCell ⟨g, k * 5 + 2, none⟩ (.int .i64 0)).setCell ⟨g, k * 5 + 3, none⟩ (.int .i64 0)).setCell ⟨g, k * 5 + 4, none⟩ (.slice none 0 0))) := HST.out
          obtain ⟨v0, c0⟩ := Option.isSome_iff_exists.1 (HTH.out 0 (by omega)).1
          obtain ⟨v1, c1⟩ := Option.isSome_iff_exists.1 (HTH.out 1 (by omega)).1
          obtain ⟨v2, c2⟩ := Option.isSome_iff_exists.1 (HTH.out 2 (by omega)).1
          obtain ⟨v3, c3⟩ := Option.isSome_iff_exists.1 (HTH.out 3 (by omega)).1
          obtain ⟨v4, c4⟩ := Option.isSome_iff_exists.1 (HTH.out 4 (by omega)).1
          have f0 := (HTH.out 0 (by omega)).2
          have f1 := (HTH.out 1 (by omega)).2
          have f2 := (HTH.out 2 (by omega)).2
          have f3 := (HTH.out 3 (by omega)).2
          have f4 := (HTH.out 4 (by omega)).2
          rw [Nat.add_zero] at c0 f0
          clear HST HTH
          go_wp2_with fail
          go_roundg (N - (k + 1))
          case rel => exact ⟨k + 1, by omega, rfl, by go_num, HST2.out⟩
          case measure => rw [HGK2.out]; omega
        · obtain rfl : k = N := by omega
          have t2 : decide ((k : Int) < (k : Int)) = false := by simp
          have hheap : wr.heap[g]? = some (.cells (cells (List.replicate k brk)).toArray 25) := by
            obtain ⟨rest, hr, hh⟩ := HWD.out.row
            have : rest = [] := List.eq_nil_of_length_eq_zero (by omega)
            rw [this, List.append_nil] at hh
            exact hh
          have hge := HWD.out.ge
          have hglt := lt_of_heap hheap
          have hr1 : rightB (.mk 9 ⟨#[]⟩ 0 0 (some ⟨g, 0, none⟩) k (List.replicate k brk)) = true := by rw [right_wide]; exact decide_eq_true (by have := HN.out; omega)
          have HR1 : Hid (∀ W, Below wr.heap.size wr W → Calls Tryd.prog 16 #[.agg #[.int .u8 9, .string ⟨#[]⟩, .int .i64 0, .int .i64 0, .slice (some ⟨g, 0, none⟩) k k]] W fun e w' => e = .returned (.bool true) ∧ Below W.heap.size W w') := by
            intro W hW
            have hW2 : W.heap[g]? = _ := (hW.block g hglt).trans hheap
            have hin := wide_in (own_of_heap (base := 0) (Nat.zero_le _) (by unfold maxLen; omega) hW2) (Nat.le_refl _) (by unfold maxLen; omega)
            have := Right_any _ W _ hin (Nat.le_refl _) (by rw [many_wide]; omega) (HWD.out.gr.later hW).ops
            rw [hr1, val_mk, List.length_replicate] at this
            exact this
          have HH := Lib.hid hheap
          have HGW := Lib.hid HWD.out.gr
          clear hr1 hheap HWD HGK2
          go_wp2_with fail
          refine (action_any _ _ _ _).mono ?_
          rintro e w2 ⟨rfl, hb2⟩
          have HB2 := Lib.hid hb2
          clear hb2
          go_wp2_with fail
          refine (HR1.out _ HB2.out).mono ?_
          rintro e w3 ⟨rfl, hb3⟩
          have HB3 := Lib.hid (HB2.out.trans (hb3.mono HB2.out.size))
          clear hb3
          go_wp2_with fail
          refine (lawof_any _ _ _ _ _ _).mono ?_
          rintro e w4 ⟨rfl, hb4⟩
          have HB4 := Lib.hid (HB3.out.trans (hb4.mono HB3.out.size))
          clear hb4
          obtain ⟨i1, hi, hz0, hz1, hz2⟩ := info_parts Tryd.infoNode
          have HI := Lib.hid hi
          have HZ := Lib.hid (And.intro hz0 (And.intro hz1 hz2))
          clear hi hz0 hz1 hz2
          have HAL : Hid (Below wr.heap.size wr (w4.alloc (.cells #[.int .u8 18, .string ⟨#[]⟩, .int .i64 0, .int .i64 0, .slice none 0 0] 25))) := HB4.out.trans (((Below.refl _ _).alloc (Nat.le_refl _) _).mono HB4.out.size)
          have HOW : Hid ((w4.alloc (.cells #[.int .u8 18, .string ⟨#[]⟩, .int .i64 0, .int .i64 0, .slice none 0 0] 25)).ownsRow w.heap.size 25 5 (.slice (some ⟨g, 0, none⟩) k k) k (cells (List.replicate k brk))) :=
            own_of_heap hge (by unfold maxLen; omega) ((HAL.out.block g hglt).trans HH.out)
          have HNE : Hid (∀ ad, (some ⟨w4.heap.size, 0, none⟩ : Option Addr) = some ad → ∀ j u, brk.cs[j]? = some u → (w4.alloc (.cells #[.int .u8 18, .string ⟨#[]⟩, .int .i64 0, .int .i64 0, .slice none 0 0] 25)).cell? (ad.add j) = some u) := by
            rintro ad had j u hu
            obtain rfl := Option.some.inj had
            exact cells_new w4 brk.cs 25 _ rfl j u hu
          go_wp2_with (at_builtin; refine wpList_append_wanted rfl (.tmp 52) (.tmp 54) 23 rfl w.heap.size 25 i1 _ 5 64 Tryd.underlying23 HI.out HZ.out.1 HZ.out.2.1 HZ.out.2.2 rfl (by decide) (.slice (some ⟨g, 0, none⟩) k k) k _ rfl HOW.out (some ⟨w4.heap.size, 0, none⟩) 1 1 rfl (fun h => by cases h) brk.cs rfl HNE.out (fun v hv => cs_oneCell brk v hv) ?_ ?_ ?_ ?_)
          · unfold maxLen; omega
          · omega
          · have h5 := HGW.out.below.size
            have h6 := HAL.out.size
            omega
          intro v' w6 hown' hgrow _
          obtain ⟨g', c', rfl, hc', hm'⟩ : ∃ g' c', v' = .slice (some ⟨g', 0, none⟩) (k + 1) c' ∧ k + 1 ≤ c' ∧ c' ≤ maxLen := by
            rcases hown'.2 with ⟨_, h0⟩ | ⟨g', c', cur, hv, _, _, h5, h6, _⟩
            · omega
            · exact ⟨g', c', hv, h5, h6⟩
          have hcs : cells (List.replicate k brk) ++ brk.cs = cells (List.replicate (k + 1) brk) := by rw [List.replicate_succ', cells_append, cells_one]
          rw [hcs] at hown'
          have hb6 : Below w.heap.size w w6 := by
            have h5 := HGW.out.below.size
            have h6 := HAL.out.size
            exact (HGW.out.below.trans (HAL.out.mono h5)).trans (below_of_grown hgrow (by omega) (fun x hx => by obtain rfl := Option.some.inj hx; exact hge))
          have ho6 : OpsAt 1 w6 := by
            have h7 := HO.out.ops
            exact h7.under hb6
          have hr2 : rightB (.mk 9 ⟨#[]⟩ 0 0 (some ⟨g', 0, none⟩) c' (List.replicate (k + 1) brk)) = false := by rw [right_wide]; exact decide_eq_false (by have := HN.out; omega)
          have HR2 : Hid (∀ W, Below w6.heap.size w6 W → Calls Tryd.prog 16 #[.agg #[.int .u8 9, .string ⟨#[]⟩, .int .i64 0, .int .i64 0, .slice (some ⟨g', 0, none⟩) (k + 1) c']] W fun e w' => e = .returned (.bool false) ∧ Below W.heap.size W w') := by
            intro W hW
            have hin := ((wide_in hown' hc' hm').under hW).more hW.size
            have := Right_any _ W _ hin (Nat.le_refl _) (by rw [many_wide]; omega) (ho6.under hW)
            rw [hr2, val_mk, List.length_replicate] at this
            exact this
          have HB6 := Lib.hid hb6
          have HO6 := Lib.hid ho6
          clear hown' hgrow hcs hr2 hb6 ho6 HOW HNE HAL HI HZ HR1 HH
          go_wp2_with fail
          refine (action_any _ _ _ _).mono ?_
          rintro e w7 ⟨rfl, hb7⟩
          have HB7 := Lib.hid hb7
          clear hb7
          go_wp2_with fail
          refine (HR2.out _ HB7.out).mono ?_
          rintro e w8 ⟨rfl, hb8⟩
          have HB8 := Lib.hid (HB7.out.trans (hb8.mono HB7.out.size))
          clear hb8
          go_wp2_with fail
          refine (awake_any w8 (HO6.out.under HB8.out)).mono ?_
          rintro e w9 ⟨rfl, hb9⟩
          have HB9 := Lib.hid (HB8.out.trans (hb9.mono HB8.out.size))
          clear hb9
          go_wp2_with fail
          go_ret
          exact ⟨rfl, HB6.out.trans (HB9.out.mono HB6.out.size)⟩
end Go.Proofs.YtbiohbklefjfiaaDoor
