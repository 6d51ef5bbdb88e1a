import Derived.Test.YtldedhfbpongmaaDoorNodQ
import Derived.Test.YtldedhfbpongmaaDoorRows
import Derived.WalkKit
import Derived.WalkLawsBesides
import Derived.WalkSpells
import Derived.Below
import Derived.Outline
import Derived.Lib.Hide
import Derived.Handy
import Derived.LoopTactic
import Derived.Deep.LoopGhost
import Derived.Lib.Strings
set_option maxRecDepth 100000
namespace NodT
def dg (c : UInt8) : Bool := decide (48 ≤ c.toNat) && decide (c.toNat ≤ 57)
def lt (c : UInt8) : Bool := decide (97 ≤ c.toNat) && decide (c.toNat ≤ 122) || decide (65 ≤ c.toNat) && decide (c.toNat ≤ 90) || decide (c.toNat = 95)
def digitsB (s : ByteArray) : Bool := !s.data.toList.isEmpty && s.data.toList.all dg
def wholeB (s : ByteArray) : Bool := digitsB s && (!(s.data.toList.head? == some 48) || decide (s.size = 1))
def words : List (List UInt8) := [[98, 114, 101, 97, 107], [99, 97, 115, 101], [99, 104, 97, 110], [99, 111, 110, 115, 116], [99, 111, 110, 116, 105, 110, 117, 101], [100, 101, 102, 97, 117, 108, 116], [100, 101, 102, 101, 114], [101, 108, 115, 101], [102, 97, 108, 108, 116, 104, 114, 111, 117, 103, 104], [102, 97, 108, 115, 101], [102, 111, 114], [102, 117, 110, 99], [103, 111], [103, 111, 116, 111], [105, 102], [105, 109, 112, 111, 114, 116], [105, 110, 116, 101, 114, 102, 97, 99, 101], [109, 97, 112], [112, 97, 99, 107, 97, 103, 101], [114, 97, 110, 103, 101], [114, 101, 116, 117, 114, 110], [115, 101, 108, 101, 99, 116], [115, 116, 114, 117, 99, 116], [115, 119, 105, 116, 99, 104], [116, 114, 117, 101], [116, 121, 112, 101], [118, 97, 114]]
def takenB (s : ByteArray) : Bool := words.any fun l => s.toList == l
def nameB (s : ByteArray) : Bool := !s.toList.isEmpty && !(s.toList == [95]) && decide (s.size ≤ 40) && !(s.data.toList.head?.any dg) && !takenB s && s.data.toList.all fun c => lt c || dg c
theorem all_take_snoc (s : ByteArray) (f : UInt8 → Bool) (k : Nat) (h : k < s.size) : (s.data.toList.take (k + 1)).all f = ((s.data.toList.take k).all f && f s[k]) := by
  have : s.data.toList.take (k + 1) = s.data.toList.take k ++ [s[k]] := by
    rw [List.take_succ_eq_append_getElem (by simpa using h)]; rfl
  rw [this]
  simp
theorem all_false_of (s : ByteArray) (f : UInt8 → Bool) (k : Nat) (h : k < s.size) (hf : f s[k] = false) : s.data.toList.all f = false := by
  rw [← Bool.not_eq_true, List.all_eq_true]
  intro h'
  have := h' s[k] (by simp [ByteArray.getElem_eq_getElem_data])
  rw [hf] at this
  cases this
theorem all_full (s : ByteArray) (f : UInt8 → Bool) : (s.data.toList.take s.size).all f = s.data.toList.all f := by
  rw [List.take_of_length_le (by simp)]
end NodT
namespace Go.Proofs.YtldedhfbpongmaaDoor
open Go.Instr Go.RowKit NodT
set_option linter.unusedVariables false
theorem ret_bool {a b : Bool} (h : a = b) : Ending.returned (.bool a) = .returned (.bool b) := by rw [h]
theorem isDigit_any (c : UInt8) (w : World) : Calls Tryd.prog 42 #[.int .u8 c.toNat] w fun e w' => e = .returned (.bool (dg c)) ∧ w = w' := by
  have hlt := c.toNat_lt
  have hd : Hid (dg c = (decide (48 ≤ c.toNat) && decide (c.toNat ≤ 57))) := rfl
  generalize c.toNat = n at *
  by_cases h1 : 48 ≤ n <;> by_cases h2 : n ≤ 57
  all_goals try omega
  all_goals
    obtain ⟨b, e⟩ : ∃ b : Bool, Hid (dg c = b) := ⟨_, rfl⟩
    have eb := e.out
    rw [hd.out] at eb
    simp [h1, h2] at eb
    subst eb
    go_enter Tryd.func42, Tryd.ntmps42
    go_wp2_with fail
    go_ret
    exact ⟨ret_bool (by rw [e.out] <;> first | rfl | (simp; done) | (simp; omega)), rfl⟩
theorem isLetter_any (c : UInt8) (w : World) : Calls Tryd.prog 44 #[.int .u8 c.toNat] w fun e w' => e = .returned (.bool (lt c)) ∧ w = w' := by
  have hlt := c.toNat_lt
  have hd : Hid (lt c = (decide (97 ≤ c.toNat) && decide (c.toNat ≤ 122) || decide (65 ≤ c.toNat) && decide (c.toNat ≤ 90) || decide (c.toNat = 95))) := rfl
  generalize c.toNat = n at *
  by_cases h1 : 97 ≤ n <;> by_cases h2 : n ≤ 122 <;> by_cases h3 : 65 ≤ n <;> by_cases h4 : n ≤ 90 <;> by_cases h5 : n = 95
  all_goals try omega
  all_goals
    obtain ⟨b, e⟩ : ∃ b : Bool, Hid (lt c = b) := ⟨_, rfl⟩
    have eb := e.out
    rw [hd.out] at eb
    simp [h1, h2, h3, h4, h5] at eb
    subst eb
    go_enter Tryd.func44, Tryd.ntmps44
    go_wp2_with fail
    go_ret
    exact ⟨ret_bool (by rw [e.out] <;> first | rfl | (simp; done) | (simp; omega)), rfl⟩

theorem isDigits_any (s : ByteArray) (w : World) (hs : s.size ≤ maxLen) : Calls Tryd.prog 45 #[.string s] w fun e w' => e = .returned (.bool (digitsB s)) ∧ w = w' := by
  unfold maxLen at hs
  have HD : Hid (digitsB s = (!s.data.toList.isEmpty && s.data.toList.all dg)) := rfl
  go_enter Tryd.func45, Tryd.ntmps45
  go_wp2_with fail
  go_loopg [3, 6] s.size (fun g i3 i wr => ∃ k : Nat, k ≤ s.size ∧ g = s.size - k ∧ i = .int .i64 k ∧ (s.data.toList.take k).all dg = true ∧ w = wr)
  case atStart => exact ⟨0, by omega, rfl, rfl, by simp, rfl⟩
  case round =>
    obtain ⟨k, hk, hgk, rfl, hX, rfl⟩ := hrel
    have HGK := Lib.hid hgk
    have HX := Lib.hid hX
    clear hgk hX
    by_cases hlt : k < s.size
    · have HS := Lib.hid (all_take_snoc s dg k hlt)
      have HF := Lib.hid (all_false_of s dg k hlt)
      cases hd : dg s[k]
      · have HN := Lib.hid hd
        have hc := isDigit_any s[k] w
        rw [hd] at hc
        clear hd
        go_wp2_with (go_at_call 42; refine hc.mono ?_; rintro e w' ⟨rfl, rfl⟩)
        go_ret
        exact ⟨by rw [HD.out, HF.out HN.out]; simp, rfl⟩
      · have HN := Lib.hid hd
        have hc := isDigit_any s[k] w
        rw [hd] at hc
        clear hd
        go_wp2_with (go_at_call 42; refine hc.mono ?_; rintro e w' ⟨rfl, rfl⟩)
        go_roundg (s.size - (k + 1))
        case rel => exact ⟨k + 1, by omega, rfl, by go_num, by rw [HS.out, HX.out, HN.out]; rfl, rfl⟩
        case measure => rw [HGK.out]; omega
    · have hkl : k = s.size := by omega
      rw [hkl, all_full] at HX
      clear hkl
      go_wp2_with fail
      go_ret
      exact ⟨ret_bool (by rw [HD.out, HX.out]; simp [Lib.toList_data]), rfl⟩

theorem isWhole_any (s : ByteArray) (w : World) (hs : s.size ≤ maxLen) : Calls Tryd.prog 33 #[.string s] w fun e w' => e = .returned (.bool (wholeB s)) ∧ w = w' := by
  have hs' := hs
  unfold maxLen at hs
  have HD : Hid (wholeB s = (digitsB s && (!(s.data.toList.head? == some 48) || decide (s.size = 1)))) := rfl
  have hc := isDigits_any s w hs'
  clear hs'
  cases hd : digitsB s
  · rw [hd] at hc HD
    clear hd
    go_enter Tryd.func33, Tryd.ntmps33
    go_wp2_with (go_at_call 45; refine hc.mono ?_; rintro e w' ⟨rfl, rfl⟩)
    go_ret
    exact ⟨ret_bool (by rw [HD.out]; rfl), rfl⟩
  · rw [hd] at hc HD
    have h0 : 0 < s.size := by
      unfold digitsB at hd
      simp only [Bool.and_eq_true, Bool.not_eq_true', List.isEmpty_eq_false_iff] at hd
      rcases Nat.eq_zero_or_pos s.size with h | h
      · exact absurd (List.eq_nil_of_length_eq_zero (by simpa using h)) hd.1
      · exact h
    have hh : s.data.toList.head? = some s[0] := by
      rw [List.head?_eq_getElem?]
      simp [ByteArray.getElem_eq_getElem_data, h0]
    rw [hh] at HD
    clear hd hh
    have hbl := s[0].toNat_lt
    by_cases hz : s[0].toNat = 48
    · have hz' : s[0] = 48 := UInt8.toNat_inj.1 hz
      have hne : ((s[0].toNat : Int) != 48) = false := by simp [hz]
      have HZ := Lib.hid hz'
      clear hz hz'
      by_cases h1 : s.size = 1
      · have he : ((s.size : Int) == 1) = true := by simp [h1]
        have HZ1 := Lib.hid h1
        clear h1
        go_enter Tryd.func33, Tryd.ntmps33
        go_wp2_with (go_at_call 45; refine hc.mono ?_; rintro e w' ⟨rfl, rfl⟩)
        go_ret
        exact ⟨ret_bool (by rw [HD.out, HZ1.out]; simp), rfl⟩
      · have he : ((s.size : Int) == 1) = false := by simp; omega
        have HZ1 := Lib.hid h1
        clear h1
        go_enter Tryd.func33, Tryd.ntmps33
        go_wp2_with (go_at_call 45; refine hc.mono ?_; rintro e w' ⟨rfl, rfl⟩)
        go_ret
        exact ⟨ret_bool (by rw [HD.out, HZ.out]; simp [HZ1.out]), rfl⟩
    · have hne : ((s[0].toNat : Int) != 48) = true := by simp; omega
      have HZ : Hid (¬ s[0] = 48) := fun h => hz (by rw [h]; rfl)
      clear hz
      go_enter Tryd.func33, Tryd.ntmps33
      go_wp2_with (go_at_call 45; refine hc.mono ?_; rintro e w' ⟨rfl, rfl⟩)
      go_ret
      exact ⟨ret_bool (by rw [HD.out]; simp [HZ.out]), rfl⟩

set_option maxHeartbeats 1000000 in
theorem isTaken_any (s : ByteArray) (w : World) : Calls Tryd.prog 43 #[.string s] w fun e w' => e = .returned (.bool (takenB s)) ∧ w = w' := by
  have HD : Hid (takenB s = words.any fun l => s.toList == l) := rfl
  go_enter Tryd.func43, Tryd.ntmps43
  go_wp2_with fail
  all_goals
    go_ret
    refine ⟨ret_bool ?_, rfl⟩
    rw [HD.out]
    first | (simp [words, *]; done) | (exfalso; simp_all; done)

theorem isName_any (s : ByteArray) (w : World) (hs : s.size ≤ maxLen) : Calls Tryd.prog 32 #[.string s] w fun e w' => e = .returned (.bool (nameB s)) ∧ w = w' := by
  unfold maxLen at hs
  have HD : Hid (nameB s = (!s.toList.isEmpty && !(s.toList == [95]) && decide (s.size ≤ 40) && !(s.data.toList.head?.any dg) && !takenB s && s.data.toList.all fun c => lt c || dg c)) := rfl
  by_cases ok : s.toList.isEmpty = false ∧ (s.toList == [95]) = false ∧ s.size ≤ 40 ∧ s.data.toList.head?.any dg = false ∧ takenB s = false
  · obtain ⟨a1, a2, a3, a4, a5⟩ := ok
    have h0 : 0 < s.size := by
      rcases Nat.eq_zero_or_pos s.size with h | h
      · rw [Lib.toList_data, List.eq_nil_of_length_eq_zero (l := s.data.toList) (by simpa using h)] at a1
        cases a1
      · exact h
    have hh : s.data.toList.head? = some s[0] := by
      rw [List.head?_eq_getElem?]
      simp [ByteArray.getElem_eq_getElem_data, h0]
    rw [hh] at a4
    have hdd : dg s[0] = false := by simpa using a4
    have hd0 := isDigit_any s[0] w
    rw [hdd] at hd0
    have ht := isTaken_any s w
    rw [a5] at ht
    have HD2 : Hid (nameB s = s.data.toList.all fun c => lt c || dg c) := by
      show _ = _
      rw [HD.out, a1, a2, hh, a5]
      simp [a3, hdd]
    have H0 := Lib.hid hd0
    have HT := Lib.hid ht
    have hg : decide ((40 : Int) < (s.size : Int)) = false := by simp; omega
    clear hd0 ht hdd a4 a5 hh HD
    go_enter Tryd.func32, Tryd.ntmps32
    go_wp2_with (first | (go_at_call 42; refine H0.out.mono ?_; rintro e w' ⟨rfl, rfl⟩) | (go_at_call 43; refine HT.out.mono ?_; rintro e w' ⟨rfl, rfl⟩))
    clear H0 HT a1 a2
    go_loopg [3, 26] s.size (fun g i3 i wr => ∃ k : Nat, k ≤ s.size ∧ g = s.size - k ∧ i = .int .i64 k ∧ ((s.data.toList.take k).all fun c => lt c || dg c) = true ∧ w = wr)
    case atStart => exact ⟨0, by omega, rfl, rfl, by simp, rfl⟩
    case round =>
      obtain ⟨k, hk, hgk, rfl, hX, rfl⟩ := hrel
      have HGK := Lib.hid hgk
      have HX := Lib.hid hX
      clear hgk hX
      by_cases hlt : k < s.size
      · have HS := Lib.hid (all_take_snoc s (fun c => lt c || dg c) k hlt)
        have HF := Lib.hid (all_false_of s (fun c => lt c || dg c) k hlt)
        have hl := isLetter_any s[k] w
        have hc := isDigit_any s[k] w
        cases hd : lt s[k] <;> cases hd2 : dg s[k]
        all_goals
          rw [hd] at hl
          rw [hd2] at hc
          have N1 := Lib.hid hd
          have N2 := Lib.hid hd2
          have HL := Lib.hid hl
          have HC := Lib.hid hc
          clear hd hd2 hl hc
          go_wp2_with (first | (go_at_call 42; refine HC.out.mono ?_; rintro e w' ⟨rfl, rfl⟩) | (go_at_call 44; refine HL.out.mono ?_; rintro e w' ⟨rfl, rfl⟩))
        · go_ret
          exact ⟨ret_bool (by rw [HD2.out, HF.out (by show (lt s[k] || dg s[k]) = false; rw [N1.out, N2.out]; rfl)]), rfl⟩
        all_goals
          go_roundg (s.size - (k + 1))
          case rel => exact ⟨k + 1, by omega, rfl, by go_num, by rw [HS.out, HX.out]; show (true && (lt s[k] || dg s[k])) = true; rw [N1.out, N2.out]; rfl, rfl⟩
          case measure => rw [HGK.out]; omega
      · have hkl : k = s.size := by omega
        rw [hkl, all_full] at HX
        clear hkl
        go_wp2_with fail
        go_ret
        exact ⟨ret_bool (by rw [HD2.out, HX.out]), rfl⟩
  · cases a1 : s.toList.isEmpty
    · cases a2 : (s.toList == [95])
      · by_cases a3 : s.size ≤ 40
        · have h0 : 0 < s.size := by
            rcases Nat.eq_zero_or_pos s.size with h | h
            · rw [Lib.toList_data, List.eq_nil_of_length_eq_zero (l := s.data.toList) (by simpa using h)] at a1
              cases a1
            · exact h
          have hh : s.data.toList.head? = some s[0] := by
            rw [List.head?_eq_getElem?]
            simp [ByteArray.getElem_eq_getElem_data, h0]
          have hg : decide ((40 : Int) < (s.size : Int)) = false := by simp; omega
          cases a4 : dg s[0]
          · cases a5 : takenB s
            · exact absurd ⟨a1, a2, a3, by rw [hh]; simpa using a4, a5⟩ ok
            · have hd0 := isDigit_any s[0] w
              rw [a4] at hd0
              have ht := isTaken_any s w
              rw [a5] at ht
              have HF : Hid (nameB s = false) := by show _ = _; rw [HD.out, a5]; simp
              have H0 := Lib.hid hd0
              have HT := Lib.hid ht
              clear hd0 ht a4 a5 ok hh
              go_enter Tryd.func32, Tryd.ntmps32
              go_wp2_with (first | (go_at_call 42; refine H0.out.mono ?_; rintro e w' ⟨rfl, rfl⟩) | (go_at_call 43; refine HT.out.mono ?_; rintro e w' ⟨rfl, rfl⟩))
              go_ret
              exact ⟨ret_bool (by rw [HF.out]), rfl⟩
          · have hd0 := isDigit_any s[0] w
            rw [a4] at hd0
            have HF : Hid (nameB s = false) := by show _ = _; rw [HD.out, hh]; simp [a4]
            have H0 := Lib.hid hd0
            clear hd0 a4 ok hh
            go_enter Tryd.func32, Tryd.ntmps32
            go_wp2_with (go_at_call 42; refine H0.out.mono ?_; rintro e w' ⟨rfl, rfl⟩)
            go_ret
            exact ⟨ret_bool (by rw [HF.out]), rfl⟩
        · have hg : decide ((40 : Int) < (s.size : Int)) = true := by simp; omega
          have HF : Hid (nameB s = false) := by show _ = _; rw [HD.out]; simp [a3]
          clear ok a3
          go_enter Tryd.func32, Tryd.ntmps32
          go_wp2_with fail
          go_ret
          exact ⟨ret_bool (by rw [HF.out]), rfl⟩
      · have HF : Hid (nameB s = false) := by show _ = _; rw [HD.out, a2]; simp
        clear ok
        go_enter Tryd.func32, Tryd.ntmps32
        go_wp2_with fail
        go_ret
        exact ⟨ret_bool (by rw [HF.out]), rfl⟩
    · have HF : Hid (nameB s = false) := by show _ = _; rw [HD.out, a1]; simp
      clear ok
      go_enter Tryd.func32, Tryd.ntmps32
      go_wp2_with fail
      go_ret
      exact ⟨ret_bool (by rw [HF.out]), rfl⟩
end Go.Proofs.YtldedhfbpongmaaDoor
