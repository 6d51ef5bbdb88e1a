/- ScanSays: the walk. -/
import Derived.Test.YtapmhcnhgblgoaaScnZa
set_option maxRecDepth 100000
namespace Go.Proofs.Ytapmhcnhgblgoaa
open Go.Instr Go.RowKit ScnT
set_option linter.unusedVariables false
set_option maxHeartbeats 2000000 in
theorem ScanSays_any (s t : ByteArray) (w : World) (hs : s.size ≤ maxLen) (ht : t.size ≤ maxLen) : Calls Try.prog 4 #[.string s, .string t] w fun e w' => e = .returned (.bool true) ∧ Below w.heap.size w w' := by
  unfold maxLen at hs ht
  by_cases h1 : s.size ≤ 7500
  · have g1 : decide ((7500 : Int) < (s.size : Int)) = false := by simp; omega
    by_cases h2 : t.size ≤ 7500
    · have g2 : decide ((7500 : Int) < (t.size : Int)) = false := by simp; omega
      have HQ1 := Lib.hid (fun ww => Quote_any s ww (by omega))
      have HQ2 := Lib.hid (fun ww => Quote_any t ww (by omega))
      obtain ⟨p, q, r, htok⟩ := says_two s.data.toList t.data.toList (by simp; omega) (by simp; omega)
      have HTOK := Lib.hid htok
      have l1 := quote_le s.data.toList
      have l2 := quote_le t.data.toList
      have ls : s.data.toList.length = s.size := by simp
      have lt : t.data.toList.length = t.size := by simp
      rw [ls] at l1
      rw [lt] at l2
      obtain ⟨x, hx⟩ : ∃ x, mkS (quoteB s.data.toList) = x := ⟨_, rfl⟩
      obtain ⟨y, hy⟩ : ∃ y, mkS (quoteB t.data.toList) = y := ⟨_, rfl⟩
      have hxs : x.size ≤ 40000 := by rw [← hx]; simp; omega
      have hys : y.size ≤ 40000 := by rw [← hy]; simp; omega
      have HX : Hid ((x ++ ⟨#[32]⟩ ++ y).data.toList = quoteB s.data.toList ++ (32 :: quoteB t.data.toList)) := by
        show _ = _
        rw [← hx, ← hy, show (⟨#[32]⟩ : ByteArray) = mkS [32] from rfl, mkS_append, mkS_append]
        simp
      have hsz : (x ++ ⟨#[32]⟩ ++ y).size ≤ maxLen := by
        rw [ByteArray.size_append, ByteArray.size_append, show (⟨#[32]⟩ : ByteArray).size = 1 from rfl]
        unfold maxLen
        omega
      have HSZ := Lib.hid hsz
      clear hsz
      rw [hx] at HQ1
      rw [hy] at HQ2
      clear hx hy htok l1 l2 ls lt hs ht
      go_enter Try.func4, Try.ntmps4
      go_wp2_with fail
      refine (awake_any w).mono ?_
      rintro e w1 ⟨rfl, hb1⟩
      have HB1 := Lib.hid hb1
      clear hb1
      go_wp2_with fail
      refine (HQ1.out w1).mono ?_
      rintro e w2 ⟨rfl, hb2⟩
      have HB2 : Hid (Below w.heap.size w w2) := HB1.out.trans (hb2.mono HB1.out.size)
      clear hb2 HB1
      go_wp2_with fail
      refine (HQ2.out w2).mono ?_
      rintro e w3 ⟨rfl, hb3⟩
      have HB3 : Hid (Below w.heap.size w w3) := HB2.out.trans (hb3.mono HB2.out.size)
      clear hb3 HB2
      go_wp2_with fail
      refine (Tokens_any _ w3 HSZ.out).mono ?_
      rintro e w4 (⟨out, tv, hR, rfl, hown, hout, hb⟩ | ⟨c, qq, hR, rfl, hb⟩)
      · rw [HX.out, HTOK.out] at hR
        injection hR with hR
        subst hR
        obtain ⟨ao, c, rfl, htk⟩ := toks_of_own hown
        have hcc := htk.cap
        unfold maxLen at hcc
        have hcl := htk.len
        obtain ⟨g, rfl, hgl, c0, c1, c2⟩ := htk.at_ 0 _ rfl
        obtain ⟨g', hg', hgl', d0, d1, d2⟩ := htk.at_ 1 _ rfl
        obtain rfl : g = g' := by injection hg' with hg'; injection hg'
        obtain ⟨g'', hg'', hgl'', e0, e1, e2⟩ := htk.at_ 2 _ rfl
        obtain rfl : g = g'' := by injection hg'' with hg''; injection hg''
        have HB4 : Hid (Below w.heap.size w w4) := HB3.out.trans (hb.mono HB3.out.size)
        simp only [mkS_of] at c1 d1
        simp only [List.length_cons, List.length_nil, Nat.zero_mul, Nat.one_mul] at *
        clear hown htk hb HB3 hg' hg'' hgl' hgl'' hout
        have hng : ¬ g = w4.heap.size := by omega
        go_wp2_with fail
        go_ret
        exact ⟨ret_bool (by rw [mkS_toList]; rfl), HB4.out.alloc HB4.out.size _⟩
      · rw [HX.out, HTOK.out] at hR
        cases hR
    · have g2 : decide ((7500 : Int) < (t.size : Int)) = true := by simp; omega
      go_enter Try.func4, Try.ntmps4
      go_wp2_with fail
      refine (awake_any w).mono ?_
      rintro e w1 ⟨rfl, hb1⟩
      have HB1 := Lib.hid hb1
      clear hb1
      go_wp2_with fail
      go_ret
      exact ⟨rfl, HB1.out⟩
  · have g1 : decide ((7500 : Int) < (s.size : Int)) = true := by simp; omega
    go_enter Try.func4, Try.ntmps4
    go_wp2_with fail
    refine (awake_any w).mono ?_
    rintro e w1 ⟨rfl, hb1⟩
    have HB1 := Lib.hid hb1
    clear hb1
    go_wp2_with fail
    go_ret
    exact ⟨rfl, HB1.out⟩
end Go.Proofs.Ytapmhcnhgblgoaa
