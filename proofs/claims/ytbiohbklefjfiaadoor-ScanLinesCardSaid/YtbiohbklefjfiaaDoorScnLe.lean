/- ScanLines: the walk. -/
import Derived.Test.YtbiohbklefjfiaaDoorScnLd
import Derived.Test.YtbiohbklefjfiaaDoorScnZe
set_option maxRecDepth 100000
namespace Go.Proofs.YtbiohbklefjfiaaDoor
open Go.Instr Go.RowKit ScnT
set_option linter.unusedVariables false
set_option maxHeartbeats 8000000 in
theorem ScanLines_any (s : ByteArray) (w : World) (hm : s.size ≤ maxLen) : Calls Tryd.prog 6 #[.string s] w fun e w' => e = .returned (.bool true) ∧ Below w.heap.size w w' := by
  have hm' := hm
  unfold maxLen at hm
  by_cases h1 : s.size ≤ 20000
  · have g1 : decide ((20000 : Int) < (s.size : Int)) = false := by simp; omega
    have HC := Lib.hid (fun ww => Go.Proofs.Tryd.strings_Count_one s 10 ww)
    by_cases h2 : Lib.countByte s.data.toList 10 ≤ 2000
    · have g2 : decide ((2000 : Int) < (Lib.countByte s.data.toList 10 : Int)) = false := by simp; omega
      have hback := back s.data.toList
      have hls : s.data.toList.length = s.size := by simp
      have HT := Lib.hid (fun ww => Tokens_any s ww hm')
      have HRA := Lib.hid (fun ww => ReplaceAll_any s ww h1 h2)
      have hlen := lines_len s.data.toList (by rw [hls]; exact h1) h2
      obtain ⟨cn, hcn⟩ : ∃ cn, Lib.countByte s.data.toList 10 = cn := ⟨_, rfl⟩
      rw [hcn] at HC g2
      clear hm' hls hcn h2
      cases htk : tokensT s.data.toList with
      | error x =>
        obtain ⟨c, q⟩ := x
        rw [htk] at hback HT
        obtain ⟨hc0, hc1, hq⟩ := hback
        have n0 : ((c : Int) != 0) = true := by simp; omega
        clear htk hq hlen HRA
        go_enter Tryd.func6, Tryd.ntmps6
        go_wp2_with fail
        refine (awake_any w).mono ?_
        rintro e w1 ⟨rfl, hb1⟩
        have HB1 := Lib.hid hb1
        clear hb1
        go_wp2_with (go_at_call 23; refine (HC.out _).mono ?_; rintro e w' ⟨rfl, hw⟩; rw [hw])
        refine (HT.out w1).mono ?_
        rintro e w2 (⟨out, tv, hR, _⟩ | ⟨c', q', hR, rfl, hb2⟩)
        · cases hR
        · injection hR with hR
          injection hR with hR1 hR2
          subst hR1 hR2
          have HB2 : Hid (Below w.heap.size w w2) := HB1.out.trans (hb2.mono HB1.out.size)
          clear hb2 HB1
          go_wp2_with fail
          go_ret
          exact ⟨rfl, HB2.out.alloc HB2.out.size _⟩
      | ok out =>
        rw [htk] at HT
        obtain ⟨out', htk', hal⟩ := lines_told s.data.toList out htk hlen
        have HAL := Lib.hid hal
        obtain ⟨x, hx⟩ : ∃ x, mkS (ed s.data.toList) = x := ⟨_, rfl⟩
        rw [hx] at HRA
        have hxe : ((⟨#[9, 13, 32, 47, 47, 32, 103, 111, 10]⟩ : ByteArray) ++ x ++ ⟨#[9, 47, 47, 32, 48, 48, 55]⟩).data.toList = headE ++ dr s.data.toList := by
          rw [← hx, show (⟨#[9, 13, 32, 47, 47, 32, 103, 111, 10]⟩ : ByteArray) = mkS headE from rfl, show (⟨#[9, 47, 47, 32, 48, 48, 55]⟩ : ByteArray) = mkS tailE from rfl, mkS_append, mkS_append]
          unfold dr
          simp
        have hxs : x.size ≤ 65536 := by
          rw [← hx]
          have e1 : (mkS (ed s.data.toList)).size = (ed s.data.toList).length := by simp
          have e2 := hlen
          unfold dr at e2
          rw [List.length_append, List.length_append] at e2
          omega
        have HT2 : Hid (∀ ww, Calls Tryd.prog 24 #[.string ((⟨#[9, 13, 32, 47, 47, 32, 103, 111, 10]⟩ : ByteArray) ++ x ++ ⟨#[9, 47, 47, 32, 48, 48, 55]⟩)] ww (Told (.ok out') ww)) := by
          intro ww
          have h9 := Tokens_any ((⟨#[9, 13, 32, 47, 47, 32, 103, 111, 10]⟩ : ByteArray) ++ x ++ ⟨#[9, 47, 47, 32, 48, 48, 55]⟩) ww (by
            rw [ByteArray.size_append, ByteArray.size_append, show (⟨#[9, 13, 32, 47, 47, 32, 103, 111, 10]⟩ : ByteArray).size = 9 from rfl, show (⟨#[9, 47, 47, 32, 48, 48, 55]⟩ : ByteArray).size = 7 from rfl]
            unfold maxLen
            omega)
          rw [hxe, htk'] at h9
          exact h9
        clear htk htk' hal hx hxe hlen hback
        go_enter Tryd.func6, Tryd.ntmps6
        go_wp2_with fail
        refine (awake_any w).mono ?_
        rintro e w1 ⟨rfl, hb1⟩
        have HB1 := Lib.hid hb1
        clear hb1
        go_wp2_with (go_at_call 23; refine (HC.out _).mono ?_; rintro e w' ⟨rfl, hw⟩; rw [hw])
        refine (HT.out w1).mono ?_
        rintro e w2 (⟨out1, tv, hR, rfl, hown, hout, hb2⟩ | ⟨c', q', hR, _⟩)
        · injection hR with hR
          subst hR
          have HB2 : Hid (Below w.heap.size w w2) := HB1.out.trans (hb2.mono HB1.out.size)
          obtain ⟨ao, c, rfl, htka⟩ := toks_of_own hown
          have HTKA := Lib.hid htka
          have hcl := htka.len
          have hcc := htka.cap
          unfold maxLen at hcc
          clear hb2 hown HB1 htka
          have HBF : Hid (Below w2.heap.size w2 (w2.alloc (.cells #[.int .i64 0, .int .i64 0] 41))) := (Below.refl _ _).alloc (Nat.le_refl _) _
          go_wp2_with (go_at_call 25; refine (HRA.out _).mono ?_)
          rintro e w3 ⟨rfl, hb3⟩
          have HB3 : Hid (Below w2.heap.size w2 w3) := HBF.out.trans (hb3.mono HBF.out.size)
          clear hb3 HBF
          go_wp2_with fail
          refine (HT2.out w3).mono ?_
          rintro e w4 (⟨out2, tv, hR, rfl, hown, hout2, hb4⟩ | ⟨c', q', hR, _⟩)
          · injection hR with hR
            subst hR
            obtain ⟨bo, d, rfl, htk2⟩ := toks_of_own hown
            have hcl2 := htk2.len
            have hcc2 := htk2.cap
            unfold maxLen at hcc2
            have HTK2 := Lib.hid htk2
            have HB4 : Hid (Below w2.heap.size w2 w4) := HB3.out.trans (hb4.mono HB3.out.size)
            clear hb4 hown htk2
            have HCA : Hid (∀ ww, Below w4.heap.size w4 ww → Calls Tryd.prog 26 #[.slice ao out.length c, .slice bo out'.length d] ww fun e w' => e = .returned (.bool true) ∧ Below ww.heap.size ww w') := by
              intro ww hww
              exact alike_yes out out' ao bo c d ww (HTKA.out.under (HB4.out.trans (hww.mono HB4.out.size))) (HTK2.out.under hww) HAL.out
            go_wp2_with fail
            refine (HCA.out _ ((Below.refl _ _).alloc (Nat.le_refl _) _)).mono ?_
            rintro e w5 ⟨rfl, hb5⟩
            have HB5 : Hid (Below w2.heap.size w2 w5) := (HB4.out.alloc HB4.out.size _).trans (hb5.mono (HB4.out.alloc HB4.out.size _).size)
            clear hb5
            go_wp2_with fail
            go_ret
            exact ⟨rfl, HB2.out.trans (HB5.out.mono HB2.out.size)⟩
          · cases hR
        · cases hR
    · have g2 : decide ((2000 : Int) < (Lib.countByte s.data.toList 10 : Int)) = true := by simp; omega
      obtain ⟨cn, hcn⟩ : ∃ cn, Lib.countByte s.data.toList 10 = cn := ⟨_, rfl⟩
      rw [hcn] at HC g2
      clear hcn h2
      go_enter Tryd.func6, Tryd.ntmps6
      go_wp2_with fail
      refine (awake_any w).mono ?_
      rintro e w1 ⟨rfl, hb1⟩
      have HB1 := Lib.hid hb1
      clear hb1
      go_wp2_with (go_at_call 23; refine (HC.out _).mono ?_; rintro e w' ⟨rfl, hw⟩; rw [hw])
      go_ret
      exact ⟨rfl, HB1.out⟩
  · have g1 : decide ((20000 : Int) < (s.size : Int)) = true := by simp; omega
    go_enter Tryd.func6, Tryd.ntmps6
    go_wp2_with fail
    refine (awake_any w).mono ?_
    rintro e w1 ⟨rfl, hb1⟩
    have HB1 := Lib.hid hb1
    clear hb1
    go_wp2_with fail
    go_ret
    exact ⟨rfl, HB1.out⟩
end Go.Proofs.YtbiohbklefjfiaaDoor
