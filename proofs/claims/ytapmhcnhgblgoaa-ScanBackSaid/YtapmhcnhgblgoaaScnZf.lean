/- ScanBack: the walk. -/
import Derived.Test.YtapmhcnhgblgoaaScnZe
set_option maxRecDepth 100000
namespace ScnT
theorem back_step {us : List Tok} {n : Nat} (hp : us.Pairwise fun a b => a.place < b.place) (hle : ∀ t ∈ us, t.place ≤ n ∧ t.kind ≠ 7) (k : Nat) (hk : k + 1 < (us ++ [(⟨7, [], n⟩ : Tok)]).length) :
    ∃ t u, (us ++ [(⟨7, [], n⟩ : Tok)])[k]? = some t ∧ (us ++ [(⟨7, [], n⟩ : Tok)])[k + 1]? = some u ∧ t.place ≤ u.place ∧ (t.place = u.place → u.kind = 7) := by
  simp only [List.length_append, List.length_cons, List.length_nil] at hk
  have hk1 : k < us.length := by omega
  have e1 : (us ++ [(⟨7, [], n⟩ : Tok)])[k]? = some us[k] := by rw [List.getElem?_append_left hk1]; exact List.getElem?_eq_getElem hk1
  by_cases h2 : k + 1 < us.length
  · have e2 : (us ++ [(⟨7, [], n⟩ : Tok)])[k + 1]? = some us[k + 1] := by rw [List.getElem?_append_left h2]; exact List.getElem?_eq_getElem h2
    have := List.pairwise_iff_getElem.1 hp k (k + 1) hk1 h2 (by omega)
    exact ⟨_, _, e1, e2, by omega, fun h => by omega⟩
  · have e2 : (us ++ [(⟨7, [], n⟩ : Tok)])[k + 1]? = some ⟨7, [], n⟩ := by
      rw [List.getElem?_append_right (by omega)]
      have : k + 1 - us.length = 0 := by omega
      rw [this]; rfl
    exact ⟨_, _, e1, e2, (hle _ (List.getElem_mem hk1)).1, fun _ => rfl⟩
end ScnT
namespace Go.Proofs.Ytapmhcnhgblgoaa
open Go.Instr Go.RowKit ScnT
set_option linter.unusedVariables false
set_option maxHeartbeats 4000000 in
theorem ScanBack_any (s : ByteArray) (w : World) (hm : s.size ≤ maxLen) : Calls Try.prog 3 #[.string s] w fun e w' => e = .returned (.bool true) ∧ Below w.heap.size w w' := by
  have hm' := hm
  unfold maxLen at hm
  by_cases h1 : s.size ≤ 70000
  · have g1 : decide ((70000 : Int) < (s.size : Int)) = false := by simp; omega
    have hback := back s.data.toList
    have hls : s.data.toList.length = s.size := by simp
    rw [hls] at hback
    have HT := Lib.hid (fun ww => Tokens_any s ww hm')
    have HSH : Hid (∀ out, tokensT s.data.toList = .ok out → ∀ t ∈ out, t.text.length ≤ 65536) := fun out h => tokens_short h
    clear hm'
    cases htk : tokensT s.data.toList with
    | error x =>
      obtain ⟨c, q⟩ := x
      rw [htk] at hback HT
      obtain ⟨hc0, hc1, hq⟩ := hback
      have n0 : ((c : Int) != 0) = true := by simp; omega
      have HQ := Lib.hid hq
      clear htk hq hls
      go_enter Try.func3, Try.ntmps3
      go_wp2_with fail
      refine (awake_any w).mono ?_
      rintro e w1 ⟨rfl, hb1⟩
      have HB1 := Lib.hid hb1
      clear hb1
      go_wp2_with fail
      refine (HT.out w1).mono ?_
      rintro e w2 (⟨out, tv, hR, _⟩ | ⟨c', q', hR, rfl, hb2⟩)
      · cases hR
      · injection hR with hR
        injection hR with hR1 hR2
        subst hR1 hR2
        have HB2 : Hid (Below w.heap.size w w2) := HB1.out.trans (hb2.mono HB1.out.size)
        clear hb2 HB1
        have q0 : decide ((q : Int) ≥ (0 : Int)) = true := by simp
        by_cases hq : q < s.size
        · have q1 : decide ((q : Int) < (s.size : Int)) = true := by simp; omega
          go_wp2_with fail
          go_ret
          exact ⟨rfl, HB2.out.alloc HB2.out.size _⟩
        · have q1 : decide ((q : Int) < (s.size : Int)) = false := by simp; omega
          have q2 : decide ((65536 : Int) < (s.size : Int)) = true := by have := HQ.out; simp; omega
          go_wp2_with fail
          go_ret
          exact ⟨rfl, HB2.out.alloc HB2.out.size _⟩
    | ok out =>
      rw [htk] at hback HT
      obtain ⟨us, hout, hpw, hle, hw⟩ := hback
      have hsh := HSH.out out htk
      have HST : Hid (∀ k, k + 1 < out.length → ∃ t u, out[k]? = some t ∧ out[k + 1]? = some u ∧ t.place ≤ u.place ∧ (t.place = u.place → u.kind = 7)) := by
        intro k hk
        rw [hout] at hk ⊢
        exact back_step hpw hle k hk
      have HLAST : Hid (out[us.length]? = some ⟨7, [], s.size⟩) := by
        show _ = _
        rw [hout, List.getElem?_append_right (Nat.le_refl _)]
        simp
      have hlen : out.length = us.length + 1 := by rw [hout]; simp
      have HTAKE : Hid (out.take (out.length - 1) = us) := by
        show _ = _
        rw [hlen, hout]
        simp
      have HW := Lib.hid hw
      have HAL : Hid (∀ m e, alikeB us m → alikeB out (m ++ [⟨7, [], e⟩])) := by
        intro m e h
        unfold alikeB at h ⊢
        rw [hout, List.map_append, List.map_append, h]
        rfl
      clear hpw hle hw hout htk HSH
      have HSHT := Lib.hid hsh
      clear hsh
      go_enter Try.func3, Try.ntmps3
      go_wp2_with fail
      refine (awake_any w).mono ?_
      rintro e w1 ⟨rfl, hb1⟩
      have HB1 := Lib.hid hb1
      clear hb1
      go_wp2_with fail
      refine (HT.out w1).mono ?_
      rintro e w2 (⟨out', tv, hR, rfl, hown, hout, hb2⟩ | ⟨c', q', hR, _⟩)
      · injection hR with hR
        subst hR
        have HB2 : Hid (Below w.heap.size w w2) := HB1.out.trans (hb2.mono HB1.out.size)
        obtain ⟨ao, c, rfl, htka⟩ := toks_of_own hown
        clear hb2 hown HB1
        obtain ⟨g, rfl, hgl, c0, c1, c2⟩ := htka.at_ us.length _ HLAST.out
        have hcl := htka.len
        have hcc := htka.cap
        unfold maxLen at hcc
        have HWR : Hid (∀ ww, ToksAt ww (some ⟨g, 0, none⟩) c out → Calls Try.prog 7 #[.slice (some ⟨g, 0, none⟩) (us.length + 1) c] ww fun e w' => e = .returned (.string (mkS (writtenB us))) ∧ Below ww.heap.size ww w') := by
          intro ww hww
          have := written_any out _ c ww hww hout HSHT.out
          rw [HTAKE.out, hlen] at this
          exact this
        have HALK : Hid (∀ (vs : List Tok) (bo : Option Addr) (d : Nat) (ww : World), ToksAt ww (some ⟨g, 0, none⟩) c out → ToksAt ww bo d vs → alikeB out vs → Calls Try.prog 8 #[.slice (some ⟨g, 0, none⟩) (us.length + 1) c, .slice bo vs.length d] ww fun e w' => e = .returned (.bool true) ∧ Below ww.heap.size ww w') := by
          intro vs bo d ww h1 h2 h3
          have := alike_yes out vs _ _ c d ww h1 h2 h3
          rw [hlen] at this
          exact this
        rw [hlen] at hcl hout
        have HTKA := Lib.hid htka
        rw [hlen]
        have hst2 : ∀ k, k < us.length → ∃ t u, out[k]? = some t ∧ out[k + 1]? = some u ∧ t.place ≤ u.place ∧ (t.place = u.place → u.kind = 7) := fun k hk => HST.out k (by omega)
        have HST2 := Lib.hid hst2
        have HUL := Lib.hid hlen
        clear hst2 HST htka hlen
        have c0' : w2.cell? ⟨g, us.length * 3, none⟩ = some (.int .u8 7) := c0
        clear c0 c1
        obtain ⟨m, hm2⟩ : ∃ m, us.length = m := ⟨_, rfl⟩
        rw [hm2] at c0' c2 hcl hout HWR HALK HST2 ⊢
        have HM := Lib.hid hm2
        clear hm2
        have HBF : Hid (Below w2.heap.size w2 (w2.alloc (.cells #[.int .i64 0, .int .i64 0] 26))) := (Below.refl _ _).alloc (Nat.le_refl _) _
        have hng : ¬ g = w2.heap.size := by omega
        go_wp2_with fail
        go_loopg [5] m (fun g v5 wr => ∃ k j : Nat, k ≤ m ∧ j = k + 1 ∧ g = m - k ∧ v5 = .int .i64 (j : Int) ∧ Below w2.heap.size w2 wr)
        case atStart => exact ⟨0, 1, by omega, rfl, by omega, rfl, HBF.out⟩
        case round =>
          obtain ⟨k, j, hk, hjk, hgk, rfl, hb⟩ := hrel
          have HGK := Lib.hid hgk
          have HB := Lib.hid hb
          clear hgk hb
          by_cases hlt : k < m
          · obtain ⟨t, u, ht, hu, hle, hsame⟩ := HST2.out k (by have := HM.out; omega)
            have hu' : out[j]? = some u := by rw [hjk]; exact hu
            obtain ⟨g', hg', hgl', _, _, c3⟩ := (HTKA.out.under HB.out).at_ k t ht
            obtain ⟨g'', hg'', hgl'', d0, _, d2⟩ := (HTKA.out.under HB.out).at_ j u hu'
            obtain rfl : g = g' := by injection hg' with hg'; injection hg'
            obtain rfl : g = g'' := by injection hg'' with hg''; injection hg''
            have hj1 : IntKind.i64.wrap ((j : Int) - 1) = (k : Int) := by rw [IntWalk.i64_in _ (by omega)]; omega
            have hki : (j : Int) < (m : Int) + 1 := by omega
            have hk0 : (0 : Int) ≤ (k : Int) := by omega
            have hkk : (k : Int) < (m : Int) + 1 := by omega
            have n1 : decide ((u.place : Int) < (t.place : Int)) = false := by simp; omega
            clear ht hu hu' hg' hg'' hgl''
            have HJ := Lib.hid hjk
            clear hjk
            by_cases heq : t.place = u.place
            · have n2 : ((u.place : Int) == (t.place : Int)) = true := by simp [heq]
              have n3 : ((u.kind : Int) != 7) = false := by simp [hsame heq]
              clear heq hsame
              go_wp2_with fail
              go_quiet (fail)
              go_wp2_with fail
              go_roundg (m - (k + 1))
              case rel => exact ⟨k + 1, j + 1, by omega, by have := HJ.out; omega, rfl, by go_num, HB.out.trans ((drawn_below _ _).mono HB.out.size)⟩
              case measure => rw [HGK.out]; omega
            · have n2 : ((u.place : Int) == (t.place : Int)) = false := by simp; omega
              clear heq hsame
              go_wp2_with fail
              go_quiet (fail)
              go_wp2_with fail
              go_roundg (m - (k + 1))
              case rel => exact ⟨k + 1, j + 1, by omega, by have := HJ.out; omega, rfl, by go_num, HB.out.trans ((drawn_below _ _).mono HB.out.size)⟩
              case measure => rw [HGK.out]; omega
          · have hkm : k = m := by omega
            go_wp2_with fail
            refine (HWR.out wr (HTKA.out.under HB.out)).mono ?_
            rintro e w3 ⟨rfl, hb3⟩
            obtain ⟨x, hx⟩ : ∃ x, mkS (writtenB us) = x := ⟨_, rfl⟩
            rw [hx]
            have HX : Hid (x.data.toList = writtenB us) := by show _ = _; rw [← hx]; simp
            have hxs : x.size ≤ maxLen := by
              have h5 := written_le us fun t ht => HSHT.out t (by rw [← HTAKE.out] at ht; exact List.mem_of_mem_take ht)
              have h6 : x.size = (writtenB us).length := by rw [← HX.out]; simp
              have h7 := HM.out
              unfold maxLen
              rw [h6]
              exact Nat.le_trans h5 (Nat.le_trans (Nat.mul_le_mul_right _ (show us.length ≤ 70000 by omega)) (by decide))
            have HXS := Lib.hid hxs
            clear hxs hx
            have HB3 : Hid (Below w2.heap.size w2 w3) := HB.out.trans (hb3.mono HB.out.size)
            clear hb3
            go_wp2_with fail
            refine (Tokens_any x w3 HXS.out).mono ?_
            by_cases hxl : x.size ≤ 65536
            · have gx : decide ((65536 : Int) < (x.size : Int)) = false := by simp; omega
              obtain ⟨mm, ee, h1, h2⟩ := HW.out (by rw [← HX.out]; simpa using hxl)
              rw [HX.out, h1]
              have HAL2 : Hid (alikeB out (mm ++ [⟨7, [], ee⟩])) := HAL.out mm ee h2
              clear h1 h2
              generalize mm ++ [(⟨7, [], ee⟩ : Tok)] = vs at *
              rintro e w4 (⟨out2, tv, hR, rfl, hown, hout2, hb4⟩ | ⟨c', q', hR, _⟩)
              · injection hR with hR
                subst hR
                obtain ⟨bo, d, rfl, htk2⟩ := toks_of_own hown
                have hcl2 := htk2.len
                have hcc2 := htk2.cap
                unfold maxLen at hcc2
                have HTK2 := Lib.hid htk2
                have HB4 : Hid (Below w2.heap.size w2 w4) := HB3.out.trans (hb4.mono HB3.out.size)
                clear hb4 hown htk2
                have HCA : Hid (∀ ww, Below w4.heap.size w4 ww → Calls Try.prog 8 #[.slice (some ⟨g, 0, none⟩) (m + 1) c, .slice bo vs.length d] ww fun e w' => e = .returned (.bool true) ∧ Below ww.heap.size ww w') := by
                  intro ww hww
                  have h8 := HALK.out vs bo d ww (HTKA.out.under (HB4.out.trans (hww.mono HB4.out.size))) (HTK2.out.under hww) HAL2.out
                  exact h8
                go_wp2_with fail
                refine (HCA.out _ ((Below.refl _ _).alloc (Nat.le_refl _) _)).mono ?_
                rintro e w5 ⟨rfl, hb5⟩
                have HB5 : Hid (Below w2.heap.size w2 w5) := (HB4.out.alloc HB4.out.size _).trans (hb5.mono (HB4.out.alloc HB4.out.size _).size)
                clear hb5
                go_wp2_with fail
                go_ret
                exact ⟨rfl, HB2.out.trans (HB5.out.mono HB2.out.size)⟩
              · cases hR
            · have gx : decide ((65536 : Int) < (x.size : Int)) = true := by simp; omega
              rintro e w4 (⟨out2, tv, hR, rfl, hown, hout2, hb4⟩ | ⟨c', q', hR, rfl, hb4⟩)
              · have HB4 : Hid (Below w2.heap.size w2 w4) := HB3.out.trans (hb4.mono HB3.out.size)
                clear hb4 hown
                go_wp2_with fail
                go_ret
                exact ⟨rfl, HB2.out.trans ((HB4.out.alloc HB4.out.size _).mono HB2.out.size)⟩
              · have HB4 : Hid (Below w2.heap.size w2 w4) := HB3.out.trans (hb4.mono HB3.out.size)
                clear hb4
                go_wp2_with fail
                go_ret
                exact ⟨rfl, HB2.out.trans ((HB4.out.alloc HB4.out.size _).mono HB2.out.size)⟩
      · cases hR
  · have g1 : decide ((70000 : Int) < (s.size : Int)) = true := by simp; omega
    go_enter Try.func3, Try.ntmps3
    go_wp2_with fail
    refine (awake_any w).mono ?_
    rintro e w1 ⟨rfl, hb1⟩
    have HB1 := Lib.hid hb1
    clear hb1
    go_wp2_with fail
    go_ret
    exact ⟨rfl, HB1.out⟩
end Go.Proofs.Ytapmhcnhgblgoaa
