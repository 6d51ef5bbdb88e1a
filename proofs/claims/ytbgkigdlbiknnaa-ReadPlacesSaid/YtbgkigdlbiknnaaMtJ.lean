/- ReadPlaces: what is told stands at its place. -/
import Derived.Test.YtbgkigdlbiknnaaMtI
import Derived.Deep.QuietTactic
import Derived.BigQuiet
import Derived.Deep.Draws
set_option maxRecDepth 100000
set_option linter.unusedSimpArgs false
namespace Go.Proofs.Ytbgkigdlbiknnaa
open Go.Instr Go.RowKit LexT
set_option linter.unusedVariables false
set_option maxHeartbeats 16000000 in
theorem ReadPlaces_any (s : ByteArray) (w : World) (hm : s.size ≤ maxLen) : Calls Try.prog 3 #[.string s] w fun e w' => e = .returned (.bool true) ∧ Below w.heap.size w w' := by
  have hls : s.data.toList.length = s.size := by simp
  by_cases h1 : s.size ≤ 20000
  · have g1 : decide ((20000 : Int) < (s.size : Int)) = false := by simp; omega
    have HT := Lib.hid (fun ww => Text_any s ww hm)
    clear hm
    cases htx : textT s.data.toList with
    | error x =>
      obtain ⟨c, q⟩ := x
      rw [htx] at HT
      obtain ⟨hc0, hq⟩ := fault_in htx
      rw [hls] at hq
      have n0 : ((c : Int) != 0) = true := by simp; omega
      have q0 : decide ((q : Int) ≥ (0 : Int)) = true := by simp
      have q1 : decide (q ≤ s.size) = true := by simpa using hq
      clear htx hq hls
      go_enter Try.func3, Try.ntmps3
      go_wp2_with fail
      refine (awake_any w).mono ?_
      rintro e w1 ⟨rfl, hb1⟩
      have HB1 := Lib.hid hb1
      clear hb1
      go_wp2_with fail
      refine (HT.out w1).mono ?_
      rintro e w2 (⟨x, S, xs, hR, _⟩ | ⟨c', q', hR, rfl, hb2⟩)
      · cases hR
      · injection hR with hR
        injection hR with hR1 hR2
        subst hR1 hR2
        have HB2 : Hid (Below w.heap.size w w2) := HB1.out.trans (hb2.mono HB1.out.size)
        clear hb2 HB1
        go_wp2_with fail
        go_ret
        exact ⟨rfl, (HB2.out.alloc HB2.out.size _).alloc (by simp; have := HB2.out.size; omega) _⟩
    | ok x =>
      obtain ⟨x2, hx2, hpl⟩ := around htx (by rw [hls]; exact h1)
      have hst := told_all htx
      have HSM := Lib.hid (And.intro (told_small htx) (told_small hx2))
      rw [htx] at HT
      have hcat : (ByteArray.mk #[47, 47, 32, 37, 10, 9] ++ s ++ ByteArray.mk #[32, 47, 47, 32, 123]) = mkS (preP ++ s.data.toList ++ sufP) := by
        have e1 : (ByteArray.mk #[47, 47, 32, 37, 10, 9]) = mkS preP := rfl
        have e2 : (ByteArray.mk #[32, 47, 47, 32, 123]) = mkS sufP := rfl
        rw [e1, e2, show s = mkS s.data.toList from (mkS_of s).symm, mkS_app, mkS_app, mkS_list]
      have HT2 : Hid (∀ ww, Calls Try.prog 6 #[.string (ByteArray.mk #[47, 47, 32, 37, 10, 9] ++ s ++ ByteArray.mk #[32, 47, 47, 32, 123])] ww (ToldT (.ok x2) ww)) := by
        intro ww
        rw [hcat, ← hx2]
        have := Text_any (mkS (preP ++ s.data.toList ++ sufP)) ww (by rw [mkS_size]; simp [preP, sufP, maxLen]; omega)
        rw [mkS_list] at this
        exact this
      have HST := Lib.hid hst
      have HPL := Lib.hid hpl
      have HL1 := Lib.hid h1
      clear htx hx2 hpl hst hcat hls
      go_enter Try.func3, Try.ntmps3
      go_wp2_with fail
      refine (awake_any w).mono ?_
      rintro e w1 ⟨rfl, hb1⟩
      have HB1 := Lib.hid hb1
      clear hb1
      go_wp2_with fail
      refine (HT.out w1).mono ?_
      rintro e w2 (⟨x', S, xs, hR, rfl, hat, hnd, hge, hb2⟩ | ⟨c', q', hR, rfl, hb2⟩)
      case inr => cases hR
      injection hR with hR
      subst hR
      obtain ⟨Sd, Sr, ao, n, c, bo, m, d, rfl, rfl, hd, hr⟩ := text_open hat
      obtain ⟨⟨e0, e1⟩, hb3, hs3⟩ := alloc2 w2 (.cells #[.slice ao n c, .slice bo m d] 26) (.cells #[.int .i64 0, .int .i64 0] 29)
      obtain ⟨W0, hW0⟩ : ∃ V, V = (w2.alloc (.cells #[.slice ao n c, .slice bo m d] 26)).alloc (.cells #[.int .i64 0, .int .i64 0] 29) := ⟨_, rfl⟩
      rw [← hW0] at e0 e1 hb3 hs3
      have HW0 := Lib.hid hW0
      have HN : Hid (n = x.decls.length ∧ m = x.rules.length ∧ n ≤ 9223372036854775807 ∧ m ≤ 9223372036854775807) := by
        have h1 := hd.count
        have h2 := hr.count
        rw [flat_length declC 4 (fun _ => rfl)] at h1
        rw [flat_length ruleC 4 (fun _ => rfl)] at h2
        have h3 := hd.small
        have h4 := hr.small
        unfold maxLen at h3 h4
        exact ⟨by have h1 : x.decls.length * 4 = n * 4 := h1; omega, by have h2 : x.rules.length * 4 = m * 4 := h2; omega, h3, h4⟩
      have H0 : Hid (At W0 (.row 35 4 (x.decls.flatMap declC)) Sd (.slice ao n c) ∧ At W0 (.row 38 4 (x.rules.flatMap ruleC)) Sr (.slice bo m d) ∧ W0.heap[w2.heap.size]? = some (.cells #[.slice ao n c, .slice bo m d] 26 (0, 0)) ∧ W0.heap[w2.heap.size + 1]? = some (.cells #[.int .i64 0, .int .i64 0] 29 (0, 0)) ∧ Below w.heap.size w W0 ∧ W0.heap.size = w2.heap.size + 2 ∧ w.heap.size ≤ w2.heap.size) := by
        have hbw := HB1.out.trans (hb2.mono HB1.out.size)
        exact ⟨hd.same _ _ _ (fun s hs => hb3.block s (At.lt _ _ _ hd s hs)), hr.same _ _ _ (fun s hs => hb3.block s (At.lt _ _ _ hr s hs)), e0, e1, hbw.trans (hb3.mono hbw.size), hs3, hbw.size⟩
      clear hat hnd hge hb2 hd hr hb3 hs3 hW0 HB1
      obtain ⟨⟨g0, g1'⟩, _⟩ := two_facts e0
      obtain ⟨⟨f0, f1⟩, _⟩ := two_facts e1
      clear e0 e1
      go_upto_region 6 with fail
      rw [← HW0.out]
      go_wp2_with fail
      clear f0 f1
      go_loopg [5] n (fun gg v wr => ∃ i : Nat, i ≤ n ∧ gg = n - i ∧ v = .int .i64 i ∧ Below W0.heap.size W0 wr)
      case atStart => exact ⟨0, by omega, rfl, rfl, Below.refl _ _⟩
      case round =>
        obtain ⟨i, hi, hgi, rfl, hbl⟩ := hrel
        have HB := Lib.hid hbl
        have HG := Lib.hid hgi
        obtain ⟨⟨k0, k1⟩, _⟩ := two_facts ((hbl.block w2.heap.size (by have := H0.out.2.2.2.2.2.1; omega)).trans H0.out.2.2.1)
        clear hbl hgi g0 g1'
        by_cases hlt : i < n
        · obtain ⟨y, hy⟩ := get_some (l := x.decls) (i := i) (by have := HN.out.1; omega)
          obtain ⟨ga, va, Sb, rfl, hna, hga, hva, hca⟩ := H0.out.1.elem i hlt
          rw [flat_elem declC 4 (fun _ => rfl) _ i y hy] at hva
          obtain ⟨ao1, n1, c1, S1, rfl, _⟩ := declParts hva
          have ka0 : wr.cell? ⟨ga, i * 4, none⟩ = some (.string (mkS y.kind)) := (HB.out.cell (p := ⟨ga, i * 4, none⟩) hga).trans (by have := hca 0 _ rfl; simpa using this)
          have ka3 : wr.cell? ⟨ga, i * 4 + 3, none⟩ = some (.int .i64 (y.at_ : Int)) := (HB.out.cell (p := ⟨ga, i * 4 + 3, none⟩) hga).trans (hca 3 _ rfl)
          have HE : Hid (∀ ww, Calls Try.prog 7 #[.string s, .int .i64 (y.at_ : Int), .string (ByteArray.mk #[37] ++ mkS y.kind)] ww fun e w' => e = .returned (.bool true) ∧ w' = ww) := fun ww => stands_st s _ y.at_ (37 :: y.kind) ww (by have := HL1.out; omega) (by rw [show ByteArray.mk #[37] = mkS [37] from rfl, mkS_app]; rfl) (HST.out.1 y (List.mem_of_getElem? hy))
          have i1 : (i : Int) < (n : Int) := by omega
          have i0 : (0 : Int) ≤ (i : Int) := by omega
          have i2 : ¬ (9223372036854775807 < 1 + List.length y.kind) := by
            have h5 := (HST.out.1 y (List.mem_of_getElem? hy)).1
            rw [List.length_cons] at h5
            have h6 := HL1.out
            have h7 : s.data.toList.length = s.size := by simp
            omega
          clear hca hva hy
          go_wp2_with fail
          go_quiet ((go_at_call 7; exact Calls.quiet_of_same (HE.out _)))
          go_wp2_with fail
          go_roundg (n - (i + 1))
          case rel =>
            have hsml := HN.out.2.2.1
            exact ⟨i + 1, by omega, rfl, by refine congrArg _ ?_; unfold wrap64; omega, below_dr HB.out _⟩
          case measure => rw [HG.out]; omega
        · have i1 : ¬ (i : Int) < (n : Int) := by omega
          obtain ⟨W1, rfl⟩ : ∃ V, V = wr := ⟨_, rfl⟩
          clear hi
          go_wp2_with fail
          go_loopg [6] m (fun gg v wr => ∃ i : Nat, i ≤ m ∧ gg = m - i ∧ v = .int .i64 i ∧ Below W0.heap.size W0 wr)
          case atStart => exact ⟨0, by omega, rfl, rfl, HB.out⟩
          case round =>
            obtain ⟨j, hj, hgj, rfl, hbl⟩ := hrel
            obtain ⟨wq, rfl⟩ : ∃ V, V = wr := ⟨_, rfl⟩
            have HB2 := Lib.hid hbl
            have HG2 := Lib.hid hgj
            clear k0 k1 i1 hlt
            obtain ⟨⟨k0, k1⟩, _⟩ := two_facts ((hbl.block w2.heap.size (by have := H0.out.2.2.2.2.2.1; omega)).trans H0.out.2.2.1)
            clear hbl hgj
            by_cases hlt : j < m
            · obtain ⟨r, hy⟩ := get_some (l := x.rules) (i := j) (by have := HN.out.2.1; omega)
              obtain ⟨ga, va, Sb, rfl, hna, hga, hva, hca⟩ := H0.out.2.1.elem j hlt
              rw [flat_elem ruleC 4 (fun _ => rfl) _ j r hy] at hva
              obtain ⟨ao1, n1, c1, S1, bo1, m1, d1, S2, rfl, _, hra⟩ := ruleParts hva
              have hmem := List.mem_of_getElem? hy
              have ka0 : wq.cell? ⟨ga, j * 4, none⟩ = some (.string (mkS r.name)) := (HB2.out.cell (p := ⟨ga, j * 4, none⟩) hga).trans (by have := hca 0 _ rfl; simpa using this)
              have ka3 : wq.cell? ⟨ga, j * 4 + 3, none⟩ = some (.int .i64 (r.at_ : Int)) := (HB2.out.cell (p := ⟨ga, j * 4 + 3, none⟩) hga).trans (hca 3 _ rfl)
              have HK2 : Hid (∀ ww, Below W0.heap.size W0 ww → ww.cell? ⟨ga, j * 4 + 2, none⟩ = some (.slice bo1 m1 d1) ∧ ww.cell? ⟨w2.heap.size, 1, none⟩ = some (.slice (some ⟨ga, 0, none⟩) m d)) := fun ww hb => ⟨(hb.cell (p := ⟨ga, j * 4 + 2, none⟩) hga).trans (hca 2 _ rfl), (hb.cell (p := ⟨w2.heap.size, 1, none⟩) (by have := H0.out.2.2.2.2.2.1; show w2.heap.size < _; omega)).trans (two_facts H0.out.2.2.1).1.2⟩
              have HRA := Lib.hid hra
              have HLJ := Lib.hid hlt
              have HE : Hid (∀ ww, Calls Try.prog 7 #[.string s, .int .i64 (r.at_ : Int), .string (mkS r.name)] ww fun e w' => e = .returned (.bool true) ∧ w' = ww) := fun ww => stands_st s _ r.at_ r.name ww (by have := HL1.out; omega) rfl (HST.out.2 r hmem).1
              have HSR := Lib.hid (HST.out.2 r hmem).2
              have HM1 : Hid (m1 = r.alts.length ∧ m1 ≤ 9223372036854775807) := by
                have h1 := hra.count
                rw [flat_length altC 6 (fun _ => rfl)] at h1
                have h3 := hra.small
                unfold maxLen at h3
                exact ⟨by have h1 : r.alts.length * 6 = m1 * 6 := h1; omega, h3⟩
              have i1 : (j : Int) < (m : Int) := by omega
              have i0 : (0 : Int) ≤ (j : Int) := by omega
              clear hca hva hy hra hmem
              go_wp2_with fail
              go_quiet ((go_at_call 7; exact Calls.quiet_of_same (HE.out _)))
              go_wp2_with fail
              obtain ⟨w3, hw3⟩ : ∃ V, V = wq.drewN nq := ⟨_, rfl⟩
              rw [← hw3]
              have HB3 : Hid (Below W0.heap.size W0 w3) := by rw [hw3]; exact below_dr HB2.out _
              clear hw3
              obtain ⟨kb, ka⟩ := HK2.out w3 HB3.out
              clear k0 k1 ka0 ka3
              go_wp2_with fail
              go_loopg [7] m1 (fun gg v wr => ∃ i : Nat, i ≤ m1 ∧ gg = m1 - i ∧ v = .int .i64 i ∧ Below W0.heap.size W0 wr)
              case atStart => exact ⟨0, by omega, rfl, rfl, HB3.out⟩
              case round =>
                obtain ⟨k, hk, hgk, rfl, hbl⟩ := hrel
                obtain ⟨wa, rfl⟩ : ∃ V, V = wr := ⟨_, rfl⟩
                have HB4 := Lib.hid hbl
                have HG4 := Lib.hid hgk
                clear kb ka
                obtain ⟨kb, ka⟩ := HK2.out wa hbl
                clear hbl hgk
                by_cases hlk : k < m1
                · obtain ⟨a, hy⟩ := get_some (l := r.alts) (i := k) (by have := HM1.out.1; omega)
                  obtain ⟨gb, vb, Sc, rfl, hnb, hgb, hvb, hcb⟩ := HRA.out.elem k hlk
                  rw [flat_elem altC 6 (fun _ => rfl) _ k a hy] at hvb
                  have hmem := List.mem_of_getElem? hy
                  obtain ⟨ao2, n2, c2, S3, rfl, hwa⟩ := altParts hvb
                  have hcells : ∀ j u, [Value.slice ao2 n2 c2, .string (mkS a.prec), .bool a.has, .string (mkS a.action), .int .i64 (IntKind.i64.wrap (a.where_ : Int)), .int .i64 (a.at_ : Int)][j]? = some u → wa.cell? ⟨gb, k * 6 + j, none⟩ = some u := fun j u hu => (HB4.out.cell (p := ⟨gb, k * 6 + j, none⟩) hgb).trans (hcb j u hu)
                  have z0 : wa.cell? ⟨gb, k * 6, none⟩ = some (.slice ao2 n2 c2) := by have := hcells 0 _ rfl; simpa using this
                  have z1 := hcells 1 _ rfl
                  have z2 := hcells 2 _ rfl
                  have z3 := hcells 3 _ rfl
                  have z4 := hcells 4 _ rfl
                  have z5 := hcells 5 _ rfl
                  have HSA := Lib.hid (HSR.out a hmem)
                  have HM2 : Hid (n2 = a.words.length ∧ n2 ≤ 9223372036854775807) := by
                    have h1 := hwa.count
                    rw [flat_length (wdC 44) 3 (fun x => wdC_length _ x)] at h1
                    have h3 := hwa.small
                    unfold maxLen at h3
                    exact ⟨by omega, h3⟩
                  have HWA := Lib.hid hwa
                  obtain ⟨aw, ap, ah, aa, awh, aat⟩ := a
                  obtain ⟨wv, hwv⟩ : ∃ wv : Int, IntKind.i64.wrap (awh : Int) = wv := ⟨_, rfl⟩
                  have HWV := Lib.hid hwv
                  dsimp only at z0 z1 z2 z3 z4 z5
                  rw [hwv] at z4
                  clear hwv
                  obtain ⟨w5, hw5⟩ : ∃ V, V = wa.alloc (.cells #[.slice ao2 n2 c2, .string (mkS ap), .bool ah, .string (mkS aa), .int .i64 wv, .int .i64 (aat : Int)] 41) := ⟨_, rfl⟩
                  have hk5 : w5.heap[wa.heap.size]? = some (.cells #[.slice ao2 n2 c2, .string (mkS ap), .bool ah, .string (mkS aa), .int .i64 wv, .int .i64 (aat : Int)] 41 (0, 0)) := by rw [hw5]; exact heap_alloc_new wa _
                  have HB5 : Hid (Below W0.heap.size W0 w5 ∧ w5.heap.size = wa.heap.size + 1) := ⟨by rw [hw5]; exact HB4.out.alloc HB4.out.size _, by rw [hw5]; simp⟩
                  have HW5 := Lib.hid hw5
                  obtain ⟨⟨t0, t1, t2, t3, t4, t5⟩, _⟩ := six_facts hk5
                  have HK5 := Lib.hid t0
                  have i1 : (k : Int) < (m1 : Int) := by omega
                  have i0 : (0 : Int) ≤ (k : Int) := by omega
                  have j1 : (j : Int) < (m : Int) := by have := HLJ.out; omega
                  have j0 : (0 : Int) ≤ (j : Int) := by omega
                  clear hcells hcb hvb hy hmem hwa hw5 hk5
                  go_upto_region 22 with fail
                  rw [← HW5.out]
                  have hkb : wa.heap.size < w5.heap.size := by have := HB5.out.2; omega
                  have HTH : Hid (therePs s aw) := ths_theres HSA.out.2
                  clear z0 z1 z2 z3 z4 z5 kb ka
                  cases ah
                  case' false =>
                    go_wp2_with fail
                  case' true =>
                    obtain ⟨hwh, hst9⟩ := HSA.out.1 rfl
                    dsimp only at hwh hst9
                    have hs1 := hst9.1
                    rw [List.length_cons, List.length_append, List.length_singleton] at hs1
                    have h6 := HL1.out
                    have h7 : s.data.toList.length = s.size := by simp
                    rw [h7] at hs1
                    obtain ⟨p, rfl⟩ : ∃ p, awh = p + 1 := ⟨awh - 1, by omega⟩
                    have hwv : wv = (p : Int) + 1 := by
                      rw [← HWV.out]
                      refine (IntWalk.i64_in _ ?_).trans ?_ <;> omega
                    subst hwv
                    have hw1 : wrap64 (p : Int) = (p : Int) := by unfold wrap64; omega
                    have hw2 : wrap64 ((p : Int) + 1 - 1) = (p : Int) := by rw [show (p : Int) + 1 - 1 = (p : Int) by omega]; exact hw1
                    have hc1 : ¬ (9223372036854775807 < 1 + List.length aa) := by omega
                    have hc2 : ¬ (9223372036854775807 < 1 + List.length aa + 1) := by omega
                    have HE2 : Hid (∀ ww, Calls Try.prog 7 #[.string s, .int .i64 (p : Int), .string (ByteArray.mk #[123] ++ mkS aa ++ ByteArray.mk #[125])] ww fun e w' => e = .returned (.bool true) ∧ w' = ww) := fun ww => stands_st s _ p (123 :: (aa ++ [125])) ww (by omega) (by rw [show ByteArray.mk #[123] = mkS [123] from rfl, show ByteArray.mk #[125] = mkS [125] from rfl, mkS_app, mkS_app]; exact congrArg mkS (by simp)) hst9
                    clear hwh hst9 hs1 h6 h7
                    go_wp2_with fail
                    refine (HE2.out _).mono ?_
                    rintro e w6 ⟨rfl, hw6⟩
                    rw [hw6]
                    clear hw6
                    go_wp2_with fail
                  all_goals
                    go_loopg [9] n2 (fun gg v wr => ∃ i : Nat, i ≤ n2 ∧ gg = n2 - i ∧ v = .int .i64 i ∧ Below w5.heap.size w5 wr)
                    case atStart => exact ⟨0, by omega, rfl, rfl, Below.refl _ _⟩
                    case round =>
                      obtain ⟨l, hl, hgl, rfl, hbl⟩ := hrel
                      have HB7 := Lib.hid hbl
                      have HG7 := Lib.hid hgl
                      clear t0
                      have t0 : wr.cell? ⟨wa.heap.size, 0, none⟩ = some (.slice ao2 n2 c2) := (hbl.cell (p := ⟨wa.heap.size, 0, none⟩) hkb).trans HK5.out
                      have hbw : Below W0.heap.size W0 wr := HB5.out.1.trans (hbl.mono HB5.out.1.size)
                      clear hbl hgl
                      by_cases hll : l < n2
                      · obtain ⟨y, hy⟩ := get_some (l := aw) (i := l) (by have h9 : n2 = aw.length := HM2.out.1; omega)
                        obtain ⟨gc, vc, Se, rfl, hnc, hgc, hvc, hcc⟩ := HWA.out.elem l hll
                        rw [flat_elem (wdC 44) 3 (fun x => wdC_length _ x) _ l y hy] at hvc
                        obtain ⟨v0, v1, v2, rfl⟩ := list3 vc ((AtL.length _ _ _ hvc).trans (wdC_length _ y))
                        have ka0 : wr.cell? ⟨gc, l * 3, none⟩ = some v0 := (hbw.cell (p := ⟨gc, l * 3, none⟩) hgc).trans (by have := hcc 0 _ rfl; simpa using this)
                        have ka1 : wr.cell? ⟨gc, l * 3 + 1, none⟩ = some v1 := (hbw.cell (p := ⟨gc, l * 3 + 1, none⟩) hgc).trans (hcc 1 _ rfl)
                        have ka2 : wr.cell? ⟨gc, l * 3 + 2, none⟩ = some v2 := (hbw.cell (p := ⟨gc, l * 3 + 2, none⟩) hgc).trans (hcc 2 _ rfl)
                        have HE3 : Hid (Calls Try.prog 8 #[.string s, .agg #[v0, v1, v2]] wr fun e w' => e = .returned (.bool true) ∧ Below wr.heap.size wr w') := there_yes s (by have := HL1.out; omega) y (therePs_mem _ HTH.out y (List.mem_of_getElem? hy)) Se [v0, v1, v2] wr (hvc.same _ _ _ (fun g hg => hbw.block g (AtL.lt _ _ _ hvc g hg)))
                        have l1 : (l : Int) < (n2 : Int) := by omega
                        have l0 : (0 : Int) ≤ (l : Int) := by omega
                        clear hcc hvc hy
                        go_wp2_with fail
                        refine HE3.out.mono ?_
                        rintro e w8 ⟨rfl, hb8⟩
                        have HB8 := Lib.hid (HB7.out.trans (hb8.mono HB7.out.size))
                        clear hb8
                        go_wp2_with fail
                        go_roundg (n2 - (l + 1))
                        case rel =>
                          have hsml := HM2.out.2
                          exact ⟨l + 1, by omega, rfl, by refine congrArg _ ?_; unfold wrap64; omega, HB8.out⟩
                        case measure => rw [HG7.out]; omega
                      · have l1 : ¬ (l : Int) < (n2 : Int) := by omega
                        have HBW := Lib.hid hbw
                        go_wp2_with fail
                        go_roundg (m1 - (k + 1))
                        case rel =>
                          have hsml := HM1.out.2
                          exact ⟨k + 1, by omega, rfl, by refine congrArg _ ?_; unfold wrap64; omega, HBW.out⟩
                        case measure => rw [HG4.out]; omega
                · have k1' : ¬ (k : Int) < (m1 : Int) := by omega
                  have j1 : (j : Int) < (m : Int) := by have := HLJ.out; omega
                  have j0 : (0 : Int) ≤ (j : Int) := by omega
                  go_wp2_with fail
                  go_roundg (m - (j + 1))
                  case rel =>
                    have hsml := HN.out.2.2.2
                    have hjm := HLJ.out
                    exact ⟨j + 1, by omega, rfl, by refine congrArg _ ?_; unfold wrap64; omega, HB4.out⟩
                  case measure => rw [HG2.out]; have := HLJ.out; omega
            · have i1 : ¬ (j : Int) < (m : Int) := by omega
              obtain ⟨W2, rfl⟩ : ∃ V, V = wq := ⟨_, rfl⟩
              go_wp2_with fail
              refine (HT2.out _).mono ?_
              rintro e w3 (⟨x', S', xs', hR, rfl, hat, hnd, hge, hb3⟩ | ⟨c', q', hR, rfl, hb3⟩)
              case inr => cases hR
              injection hR with hR
              subst hR
              obtain ⟨Sd', Sr', ao', n', c', bo', m', d', rfl, rfl, hd', hr'⟩ := text_open hat
              obtain ⟨⟨e0, e1⟩, hb4, hs4⟩ := alloc2 w3 (.cells #[.slice ao' n' c', .slice bo' m' d'] 26) (.cells #[.int .i64 0, .int .i64 0] 29)
              obtain ⟨W7, hW7⟩ : ∃ V, V = (w3.alloc (.cells #[.slice ao' n' c', .slice bo' m' d'] 26)).alloc (.cells #[.int .i64 0, .int .i64 0] 29) := ⟨_, rfl⟩
              rw [← hW7] at e0 e1 hb4 hs4
              have HW7 := Lib.hid hW7
              have hbw : Below W0.heap.size W0 W7 := (HB2.out.trans (hb3.mono HB2.out.size)).trans (hb4.mono (by have := HB2.out.size; have := hb3.size; omega))
              have HPT : Hid (∀ ww, Below W7.heap.size W7 ww → Calls Try.prog 10 #[.agg #[.slice ao n c, .slice bo m d]] ww (CopP (textC (plT x)) ww)) := fun ww hb => plain_of x HSM.out.1 (Sd ++ Sr) [.slice ao n c, .slice bo m d] ww ((text_close H0.out.1 H0.out.2.1).same _ _ _ (fun g hg => (hb.block g (by have := AtL.lt _ _ _ (text_close H0.out.1 H0.out.2.1) g hg; have := hbw.size; omega)).trans (hbw.block g (AtL.lt _ _ _ (text_close H0.out.1 H0.out.2.1) g hg))))
              have HPU : Hid (∀ ww, Below W7.heap.size W7 ww → Calls Try.prog 10 #[.agg #[.slice ao' n' c', .slice bo' m' d']] ww (CopP (textC (plT x)) ww)) := fun ww hb => by
                rw [← HPL.out]
                exact plain_of x2 HSM.out.2 (Sd' ++ Sr') [.slice ao' n' c', .slice bo' m' d'] ww (hat.same _ _ _ (fun g hg => (hb.block g (by have := AtL.lt _ _ _ hat g hg; omega)).trans (hb4.block g (AtL.lt _ _ _ hat g hg))))
              have HBW : Hid (Below w.heap.size w W7 ∧ w.heap.size ≤ W7.heap.size) := ⟨H0.out.2.2.2.2.1.trans (hbw.mono H0.out.2.2.2.2.1.size), by have := hbw.size; have := H0.out.2.2.2.2.1.size; omega⟩
              clear k0 k1
              obtain ⟨⟨k0, k1⟩, _⟩ := two_facts ((hbw.block w2.heap.size (by have := H0.out.2.2.2.2.2.1; omega)).trans H0.out.2.2.1)
              obtain ⟨⟨l0, l1⟩, _⟩ := two_facts e0
              obtain ⟨⟨f0, f1⟩, _⟩ := two_facts e1
              have B0 : Below W7.heap.size W7 W7.drew := (Below.refl _ _).drew
              have HCL : Hid (∀ ww, Below W7.heap.size W7 ww → (ww.cell? ⟨w2.heap.size, 0, none⟩ = some (.slice ao n c) ∧ ww.cell? ⟨w2.heap.size, 1, none⟩ = some (.slice bo m d)) ∧ (ww.cell? ⟨w3.heap.size, 0, none⟩ = some (.slice ao' n' c') ∧ ww.cell? ⟨w3.heap.size, 1, none⟩ = some (.slice bo' m' d'))) := fun ww hb => ⟨⟨(hb.cell (p := ⟨w2.heap.size, 0, none⟩) (World.block_lt_of_cell? _ _ k0)).trans k0, (hb.cell (p := ⟨w2.heap.size, 1, none⟩) (World.block_lt_of_cell? _ _ k1)).trans k1⟩, (hb.cell (p := ⟨w3.heap.size, 0, none⟩) (World.block_lt_of_cell? _ _ l0)).trans l0, (hb.cell (p := ⟨w3.heap.size, 1, none⟩) (World.block_lt_of_cell? _ _ l1)).trans l1⟩
              clear hat hnd hge hb3 hd' hr' e0 e1 hb4 hs4 hW7 hbw
              go_upto_region 30 with fail
              rw [← HW7.out]
              go_wp2_with fail
              clear HT HT2 HST HSM HPL HL1 HN H0 HG HG2 HB HB2 HW0 HW7 hlt hj B0 g1
              have B0 : Below W7.heap.size W7 W7.drew := (Below.refl _ _).drew
              go_region_law (
                (go_simp
                 first
                  | (go_at_call 9
                     refine (SameSource_one (plT x) ST SU vyT vyU wU (hatT.same _ _ _ (fun g hg => hbU.block g (AtL.lt _ _ _ hatT g hg))) hatU).mono ?_
                     rintro e w9 ⟨rfl, hb9⟩)
                  | (go_at_call 10
                     refine (HPU.out _ BT).mono ?_
                     rintro e wU ⟨vyU, SU, rfl, hatU, hndU, hgeU, hbU⟩
                     have BU : Below W7.heap.size W7 wU := BT.trans (hbU.mono BT.size))
                  | (go_at_call 10
                     refine (HPT.out _ B0).mono ?_
                     rintro e wT ⟨vyT, ST, rfl, hatT, hndT, hgeT, hbT⟩
                     have BT : Below W7.heap.size W7 wT := B0.trans (hbT.mono (Nat.le_refl _))
                     obtain ⟨⟨p0, p1⟩, p2, p3⟩ := HCL.out _ BT)))
              all_goals
                go_wp2_with fail
                go_ret
                exact ⟨rfl, HBW.out.1.trans ((BU.trans (hb9.mono BU.size)).mono HBW.out.2)⟩
  · have g1 : decide ((20000 : Int) < (s.size : Int)) = true := by simp; omega
    clear hm hls
    go_enter Try.func3, Try.ntmps3
    go_wp2_with fail
    refine (awake_any w).mono ?_
    rintro e w1 ⟨rfl, hb1⟩
    have HB1 := Lib.hid hb1
    clear hb1
    go_wp2_with fail
    go_ret
    exact ⟨rfl, HB1.out⟩
end Go.Proofs.Ytbgkigdlbiknnaa
