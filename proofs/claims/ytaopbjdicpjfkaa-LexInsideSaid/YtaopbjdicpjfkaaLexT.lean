/- LexInside: the walk. -/
import Derived.Test.YtaopbjdicpjfkaaLexP
import Derived.Test.YtaopbjdicpjfkaaLexS
import Derived.Lib.SmallJoins
set_option maxRecDepth 100000
namespace LexT
open Go Go.RowKit
set_option linter.unusedVariables false
theorem join_one (x : ByteArray) : ((⟨#[123]⟩ : ByteArray) ++ x ++ ⟨#[125]⟩).data.toList = 123 :: (x.data.toList ++ [125]) := by simp [ByteArray.data_append]
theorem join_two (a b : ByteArray) : ((⟨#[120, 32, 123]⟩ : ByteArray) ++ a ++ ⟨#[125, 123]⟩ ++ b ++ ⟨#[125, 32, 121]⟩).data.toList = 120 :: 32 :: 123 :: (a.data.toList ++ 125 :: 123 :: (b.data.toList ++ [125, 32, 121])) := by simp [ByteArray.data_append]
theorem join_in (a b : ByteArray) : (a ++ (⟨#[123]⟩ : ByteArray) ++ b ++ ⟨#[125]⟩).data.toList = a.data.toList ++ 123 :: (b.data.toList ++ [125]) := by simp [ByteArray.data_append]
theorem join_side (a b : ByteArray) : ((⟨#[123]⟩ : ByteArray) ++ a ++ ⟨#[125, 10, 123]⟩ ++ b ++ ⟨#[125]⟩).data.toList = 123 :: (a.data.toList ++ 125 :: 10 :: 123 :: (b.data.toList ++ [125])) := by simp [ByteArray.data_append]
theorem oneB_err {x : ByteArray} {e : Nat × Nat} (h : tokensT (123 :: (x.data.toList ++ [125])) = .error e) : oneB x.data.toList = false := by unfold oneB; rw [h]
theorem oneB_ok {x : ByteArray} {out : List Tok} (h : tokensT (123 :: (x.data.toList ++ [125])) = .ok out) : oneB x.data.toList = (out.length == 2 && (match out[0]? with | some t => t.kind == 9 && t.text == x.data.toList | none => false)) := by unfold oneB; rw [h]; cases e : out[0]? <;> simp [e]
theorem size_of (s : ByteArray) : s.size = s.data.toList.length := by simp
end LexT
namespace Go.Proofs.Ytaopbjdicpjfkaa
open Go.Instr Go.RowKit LexT
set_option linter.unusedVariables false
set_option maxHeartbeats 2000000 in
theorem one_any (x : ByteArray) (w : World) (hx : x.size ≤ 100000) : Calls Try.prog 8 #[.string x] w fun e w' => e = .returned (.bool (oneB x.data.toList)) ∧ Below w.heap.size w w' := by
  have HT := Lib.hid (Tokens_any ((⟨#[123]⟩ : ByteArray) ++ x ++ ⟨#[125]⟩) w (by unfold maxLen; rw [size_of, join_one]; simp; omega))
  rw [join_one] at HT
  go_enter Try.func8, Try.ntmps8
  go_wp2_with fail
  refine HT.out.mono ?_
  rintro e w1 (⟨out, tv, hR, rfl, hown, hout, hb⟩ | ⟨c, q, hR, rfl, hb⟩)
  · have HE := Lib.hid (oneB_ok hR)
    obtain ⟨ao, c, rfl, hk⟩ := toks_of_own hown
    have hcl := hk.len
    have hcc := hk.cap
    unfold maxLen at hcc
    have HB := Lib.hid hb
    have HKT := Lib.hid hk
    clear hR hown hb
    have HBA : Hid (Below w.heap.size w (w1.alloc (.cells #[.int .i64 0, .int .i64 0] 26))) := HB.out.alloc HB.out.size _
    by_cases h2 : out.length = 2
    · obtain ⟨t, ht⟩ : ∃ t, out[0]? = some t := ⟨_, List.getElem?_eq_getElem (by omega)⟩
      obtain ⟨g, rfl, hgl, c0, c1, c2⟩ := hk.at_ 0 t ht
      have c0' : w1.cell? ⟨g, 0, none⟩ = some (.int .u8 (t.kind : Int)) := c0
      have c1' : w1.cell? ⟨g, 1, none⟩ = some (.string (mkS t.text)) := c1
      have HE2 : Hid (oneB x.data.toList = (t.kind == 9 && t.text == x.data.toList)) := by
        show _ = _
        rw [HE.out, h2, ht]; rfl
      have hng : ¬ g = w1.heap.size := by omega
      rw [h2] at hcl ⊢
      clear hk ht c0 c1 c2 HE h2
      by_cases h9 : t.kind = 9
      · have e9 : ((t.kind : Int) == 9) = true := by simp [h9]
        obtain ⟨y, hy⟩ : ∃ y, mkS t.text = y := ⟨_, rfl⟩
        rw [hy] at c1'
        by_cases hxy : t.text = x.data.toList
        · have : y = x := by rw [← hy, hxy]; exact mkS_of x
          subst this
          have HF : Hid (oneB y.data.toList = true) := by show _ = _; rw [HE2.out, h9, hxy]; simp
          clear h9 hxy hy HE2
          go_wp2_with fail
          go_ret
          exact ⟨ret_bool HF.out.symm, HBA.out⟩
        · have hb1 : (y.toList == x.toList) = false := by
            rw [← hy, mkS_toList, Lib.toList_data]; simpa using hxy
          have HF : Hid (oneB x.data.toList = false) := by show _ = _; rw [HE2.out, h9]; simpa using hxy
          clear h9 hxy hy HE2
          go_wp2_with fail
          go_ret
          exact ⟨ret_bool HF.out.symm, HBA.out⟩
      · have e9 : ((t.kind : Int) == 9) = false := by simp; omega
        have HF : Hid (oneB x.data.toList = false) := by show _ = _; rw [HE2.out]; simp [h9]
        clear h9 HE2
        go_wp2_with fail
        go_ret
        exact ⟨ret_bool HF.out.symm, HBA.out⟩
    · have e2 : ((out.length : Int) == 2) = false := by simp; omega
      have HF : Hid (oneB x.data.toList = false) := by show _ = _; rw [HE.out]; simp [h2]
      clear h2 HE hk
      go_wp2_with fail
      go_ret
      exact ⟨ret_bool HF.out.symm, HBA.out⟩
  · have HF := Lib.hid (oneB_err hR)
    have hc : ((c : Int) == 0) = false := by
      have hbk := back (123 :: (x.data.toList ++ [125]))
      rw [hR] at hbk
      simp; omega
    have HB := Lib.hid hb
    clear hR hb
    go_wp2_with fail
    go_ret
    exact ⟨ret_bool HF.out.symm, HB.out.alloc HB.out.size _⟩
set_option maxHeartbeats 4000000 in
theorem LexInside_any (a b : ByteArray) (w : World) (hma : a.size ≤ maxLen) (hmb : b.size ≤ maxLen) : Calls Try.prog 4 #[.string a, .string b] w fun e w' => e = .returned (.bool true) ∧ Below w.heap.size w w' := by
  unfold maxLen at hma hmb
  by_cases h1 : a.size ≤ 10000
  · have g1 : decide ((10000 : Int) < (a.size : Int)) = false := by simp; omega
    by_cases h2 : b.size ≤ 10000
    · have g2 : decide ((10000 : Int) < (b.size : Int)) = false := by simp; omega
      have HOA := Lib.hid (fun ww => one_any a ww (by omega))
      have HOB := Lib.hid (fun ww => one_any b ww (by omega))
      cases ea : oneB a.data.toList
      · rw [ea] at HOA
        clear ea
        go_enter Try.func4, Try.ntmps4
        go_wp2_with fail
        refine (awake_any w).mono ?_
        rintro e w1 ⟨rfl, hb1⟩
        have HB1 := Lib.hid hb1
        clear hb1
        go_wp2_with fail
        refine (HOA.out w1).mono ?_
        rintro e w2 ⟨rfl, hb2⟩
        have HB2 : Hid (Below w.heap.size w w2) := HB1.out.trans (hb2.mono HB1.out.size)
        clear hb2
        go_wp2_with fail
        go_ret
        exact ⟨rfl, HB2.out⟩
      · rw [ea] at HOA
        cases eb : oneB b.data.toList
        · rw [eb] at HOB
          clear ea eb
          go_enter Try.func4, Try.ntmps4
          go_wp2_with fail
          refine (awake_any w).mono ?_
          rintro e w1 ⟨rfl, hb1⟩
          have HB1 := Lib.hid hb1
          clear hb1
          go_wp2_with fail
          refine (HOA.out w1).mono ?_
          rintro e w2 ⟨rfl, hb2⟩
          have HB2 : Hid (Below w.heap.size w w2) := HB1.out.trans (hb2.mono HB1.out.size)
          clear hb2
          go_wp2_with fail
          refine (HOB.out w2).mono ?_
          rintro e w3 ⟨rfl, hb3⟩
          have HB3 : Hid (Below w.heap.size w w3) := HB2.out.trans (hb3.mono HB2.out.size)
          clear hb3
          go_wp2_with fail
          go_ret
          exact ⟨rfl, HB3.out⟩
        · rw [eb] at HOB
          have la : a.data.toList.length ≤ 10000 := by simpa using h1
          have lb : b.data.toList.length ≤ 10000 := by simpa using h2
          obtain ⟨p2, p3, p4, hside⟩ := side_by ea eb la lb
          have hin := within_one ea eb la lb
          have htw := within_two ea eb la lb
          clear ea eb la lb
          have s1 : ((⟨#[120, 32, 123]⟩ : ByteArray) ++ a ++ ⟨#[125, 123]⟩ ++ b ++ ⟨#[125, 32, 121]⟩).size ≤ 100000 := by rw [size_of, join_two]; simp; omega
          have s2 : (a ++ (⟨#[123]⟩ : ByteArray) ++ b ++ ⟨#[125]⟩).size ≤ 100000 := by rw [size_of, join_in]; simp; omega
          have s3 : ((⟨#[123]⟩ : ByteArray) ++ a ++ ⟨#[125, 10, 123]⟩ ++ b ++ ⟨#[125]⟩).size ≤ 100000 := by rw [size_of, join_side]; simp; omega
          have HTK := Lib.hid (fun ww => Tokens_any ((⟨#[120, 32, 123]⟩ : ByteArray) ++ a ++ ⟨#[125, 123]⟩ ++ b ++ ⟨#[125, 32, 121]⟩) ww (by unfold maxLen; omega))
          have HIN := Lib.hid (fun ww => one_any (a ++ (⟨#[123]⟩ : ByteArray) ++ b ++ ⟨#[125]⟩) ww s2)
          have HTW := Lib.hid (fun ww => one_any ((⟨#[123]⟩ : ByteArray) ++ a ++ ⟨#[125, 10, 123]⟩ ++ b ++ ⟨#[125]⟩) ww s3)
          rw [join_two, hside] at HTK
          rw [join_in, hin] at HIN
          rw [join_side, htw] at HTW
          clear hside hin htw s1 s2 s3
          go_enter Try.func4, Try.ntmps4
          go_wp2_with fail
          refine (awake_any w).mono ?_
          rintro e w1 ⟨rfl, hb1⟩
          have HB1 := Lib.hid hb1
          clear hb1
          go_wp2_with fail
          refine (HOA.out w1).mono ?_
          rintro e w2 ⟨rfl, hb2⟩
          have HB2 : Hid (Below w.heap.size w w2) := HB1.out.trans (hb2.mono HB1.out.size)
          clear hb2
          go_wp2_with fail
          refine (HOB.out w2).mono ?_
          rintro e w3 ⟨rfl, hb3⟩
          have HB3 : Hid (Below w.heap.size w w3) := HB2.out.trans (hb3.mono HB2.out.size)
          clear hb3
          go_wp2_with fail
          refine (HTK.out w3).mono ?_
          rintro e w4 (⟨out, tv, hR, rfl, hown, hout, hb4⟩ | ⟨c', q', hR, _⟩)
          · injection hR with hR
            subst hR
            obtain ⟨ao, c, rfl, hk⟩ := toks_of_own hown
            have hcl := hk.len
            have hcc := hk.cap
            unfold maxLen at hcc
            have hcl' : 5 ≤ c := hcl
            obtain ⟨g, rfl, hgl, c0, c1, c2⟩ := hk.at_ 1 _ rfl
            obtain ⟨g', hg', _, d0, d1, d2⟩ := hk.at_ 2 _ rfl
            obtain rfl : g = g' := by injection hg' with hg'; injection hg'
            have c0' : w4.cell? ⟨g, 3, none⟩ = some (.int .u8 9) := c0
            have c1' : w4.cell? ⟨g, 4, none⟩ = some (.string a) := by rw [← mkS_of a]; exact c1
            have d0' : w4.cell? ⟨g, 6, none⟩ = some (.int .u8 9) := d0
            have d1' : w4.cell? ⟨g, 7, none⟩ = some (.string b) := by rw [← mkS_of b]; exact d1
            have hng : ¬ g = w4.heap.size := by omega
            have HB4 : Hid (Below w.heap.size w (w4.alloc (.cells #[.int .i64 0, .int .i64 0] 26))) := (HB3.out.trans (hb4.mono HB3.out.size)).alloc ((HB3.out.trans (hb4.mono HB3.out.size)).size) _
            clear c0 c1 c2 d0 d1 d2 hg' hk hown hb4 hcl
            go_wp2_with fail
            refine (HIN.out _).mono ?_
            rintro e w5 ⟨rfl, hb5⟩
            have HB5 : Hid (Below w.heap.size w w5) := HB4.out.trans (hb5.mono HB4.out.size)
            clear hb5
            go_wp2_with fail
            refine (HTW.out w5).mono ?_
            rintro e w6 ⟨rfl, hb6⟩
            have HB6 : Hid (Below w.heap.size w w6) := HB5.out.trans (hb6.mono HB5.out.size)
            clear hb6
            go_wp2_with fail
            go_ret
            exact ⟨rfl, HB6.out⟩
          · cases hR
    · have g2 : decide ((10000 : Int) < (b.size : Int)) = true := by simp; omega
      go_enter Try.func4, Try.ntmps4
      go_wp2_with fail
      refine (awake_any w).mono ?_
      rintro e w1 ⟨rfl, hb1⟩
      have HB1 := Lib.hid hb1
      clear hb1
      go_wp2_with fail
      go_ret
      exact ⟨rfl, HB1.out⟩
  · have g1 : decide ((10000 : Int) < (a.size : Int)) = true := by simp; omega
    go_enter Try.func4, Try.ntmps4
    go_wp2_with fail
    refine (awake_any w).mono ?_
    rintro e w1 ⟨rfl, hb1⟩
    have HB1 := Lib.hid hb1
    clear hb1
    go_wp2_with fail
    go_ret
    exact ⟨rfl, HB1.out⟩
end Go.Proofs.Ytaopbjdicpjfkaa
