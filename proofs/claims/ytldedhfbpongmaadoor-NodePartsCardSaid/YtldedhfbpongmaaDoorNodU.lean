import Derived.Test.YtldedhfbpongmaaDoorNodT
import Derived.Test.YtldedhfbpongmaaDoorNodShelf
import Derived.Deep.QuietTactic
import Derived.BigQuiet
import Derived.Lib.IndexLaws
set_option maxRecDepth 100000
namespace NodT
open Go
/-- Of a float's text: what is ahead of the point, and behind it. -/
def floatB (s : ByteArray) : Bool := if Lib.indexByte s.data.toList 46 < 0 then false else
  decide ((s.extract 0 (Lib.indexByte s.data.toList 46).toNat).size + (s.extract ((Lib.indexByte s.data.toList 46).toNat + 1) s.size).size ≤ 40) && wholeB (s.extract 0 (Lib.indexByte s.data.toList 46).toNat) && digitsB (s.extract ((Lib.indexByte s.data.toList 46).toNat + 1) s.size)
end NodT
namespace Go.Proofs.YtldedhfbpongmaaDoor
open Go.Instr Go.RowKit NodT
set_option linter.unusedVariables false
theorem slCut_no (s : ByteArray) (w : World) (h : Lib.indexByte s.data.toList 46 < 0) :
    Calls Tryd.prog 55 #[.string s, .string ⟨#[46]⟩] w fun e w' => e = .returned (.tuple #[.string s, .string ⟨#[]⟩, .bool false]) ∧ w = w' := by
  have hx := Tryd.stringslite_Index_one s 46
  have HX := Lib.hid hx
  generalize Lib.indexByte s.data.toList 46 = i at *
  clear hx
  go_enter Tryd.func55, Tryd.ntmps55
  go_wp2_with (go_at_call 56; refine (HX.out w).mono ?_; rintro e w' ⟨rfl, rfl⟩)
  go_ret3
  exact ⟨rfl, rfl⟩
theorem slCut_yes (s : ByteArray) (w : World) (k : Nat) (hk : k < s.size) (hs : s.size ≤ maxLen) (h : Lib.indexByte s.data.toList 46 = k) :
    Calls Tryd.prog 55 #[.string s, .string ⟨#[46]⟩] w fun e w' => e = .returned (.tuple #[.string (s.extract 0 k), .string (s.extract (k + 1) s.size), .bool true]) ∧ Below w.heap.size w w' := by
  unfold maxLen at hs
  have hx := Tryd.stringslite_Index_one s 46
  rw [h] at hx
  have HX := Lib.hid hx
  clear hx h
  go_enter Tryd.func55, Tryd.ntmps55
  go_wp2_with (go_at_call 56; refine (HX.out w).mono ?_; rintro e w' ⟨rfl, rfl⟩)
  go_quiet (fail)
  go_wp2_with fail
  go_ret3
  exact ⟨rfl, below_drewN (Below.refl _ _) _⟩

theorem Cut_no (s : ByteArray) (w : World) (h : Lib.indexByte s.data.toList 46 < 0) :
    Calls Tryd.prog 46 #[.string s, .string ⟨#[46]⟩] w fun e w' => e = .returned (.tuple #[.string s, .string ⟨#[]⟩, .bool false]) ∧ w = w' := by
  have HX := Lib.hid (slCut_no s w h)
  clear h
  go_enter Tryd.func46, Tryd.ntmps46
  go_wp2_with (go_at_call 55; refine HX.out.mono ?_; rintro e w' ⟨rfl, rfl⟩)
  go_ret3
  exact ⟨rfl, rfl⟩
theorem Cut_yes (s : ByteArray) (w : World) (k : Nat) (hk : k < s.size) (hs : s.size ≤ maxLen) (h : Lib.indexByte s.data.toList 46 = k) :
    Calls Tryd.prog 46 #[.string s, .string ⟨#[46]⟩] w fun e w' => e = .returned (.tuple #[.string (s.extract 0 k), .string (s.extract (k + 1) s.size), .bool true]) ∧ Below w.heap.size w w' := by
  have HX := Lib.hid (slCut_yes s w k hk hs h)
  clear h
  go_enter Tryd.func46, Tryd.ntmps46
  go_wp2_with (go_at_call 55; refine HX.out.mono ?_; rintro e w' ⟨rfl, hb⟩)
  go_ret3
  exact ⟨rfl, hb⟩
theorem isFloat_any (s : ByteArray) (w : World) (hs : s.size ≤ maxLen) : Calls Tryd.prog 34 #[.string s] w fun e w' => e = .returned (.bool (floatB s)) ∧ Below w.heap.size w w' := by
  by_cases h : Lib.indexByte s.data.toList 46 < 0
  · have HF : Hid (floatB s = false) := by show _ = _; unfold floatB; rw [if_pos h]
    have HX := Lib.hid (Cut_no s w h)
    clear h
    go_enter Tryd.func34, Tryd.ntmps34
    go_wp2_with (go_at_call 46; refine HX.out.mono ?_; rintro e w' ⟨rfl, rfl⟩)
    go_ret
    exact ⟨ret_bool (by rw [HF.out]), Below.refl _ _⟩
  · obtain ⟨k, hk⟩ := Int.eq_ofNat_of_zero_le (Int.not_lt.1 h)
    have hl := (List.getElem?_eq_some_iff.1 (Lib.indexByte_some hk).1).1
    have hl' : k < s.size := by simpa using hl
    have HF : Hid (floatB s = (decide ((s.extract 0 k).size + (s.extract (k + 1) s.size).size ≤ 40) && wholeB (s.extract 0 k) && digitsB (s.extract (k + 1) s.size))) := by
      show _ = _
      unfold floatB
      rw [if_neg h, hk]
      rfl
    have HX := Lib.hid (Cut_yes s w k hl' hs hk)
    have z1 : (s.extract 0 k).size ≤ maxLen := by simp only [ByteArray.size_extract]; omega
    have z2 : (s.extract (k + 1) s.size).size ≤ maxLen := by simp only [ByteArray.size_extract]; omega
    have HW := Lib.hid (fun W => isWhole_any (s.extract 0 k) W z1)
    have HD := Lib.hid (fun W => isDigits_any (s.extract (k + 1) s.size) W z2)
    unfold maxLen at z1 z2 hs
    have hsum : (s.extract 0 k).size + (s.extract (k + 1) s.size).size ≤ 9223372036854775807 := by simp only [ByteArray.size_extract]; omega
    clear h hk hl
    generalize s.extract 0 k = s1 at *
    generalize s.extract (k + 1) s.size = s2 at *
    clear hl' hs
    go_enter Tryd.func34, Tryd.ntmps34
    by_cases hn : s1.size + s2.size ≤ 40
    · have hn' : decide (((s1.size : Int) + (s2.size : Int)) ≤ 40) = true := by simp; omega
      cases hw : wholeB s1
      · have H1 := Lib.hid hw
        rw [hw] at HW
        clear hw
        go_wp2_with (first | (go_at_call 46; refine HX.out.mono ?_; rintro e w' ⟨rfl, hb⟩) | (go_at_call 33; refine (HW.out _).mono ?_; rintro e w' ⟨rfl, rfl⟩))
        go_ret
        exact ⟨ret_bool (by rw [HF.out, H1.out]; simp), hb⟩
      · have H1 := Lib.hid hw
        rw [hw] at HW
        clear hw
        go_wp2_with (first | (go_at_call 46; refine HX.out.mono ?_; rintro e w' ⟨rfl, hb⟩) | (go_at_call 33; refine (HW.out _).mono ?_; rintro e w' ⟨rfl, rfl⟩) | (go_at_call 45; refine (HD.out _).mono ?_; rintro e w' ⟨rfl, rfl⟩))
        go_ret
        exact ⟨ret_bool (by rw [HF.out, H1.out]; simp [hn]), hb⟩
    · have hn' : (((s1.size : Int) + (s2.size : Int)) ≤ 40) = False := eq_false (by omega)
      have hn2 : (40 : Int) < (s1.size : Int) + (s2.size : Int) := by omega
      have H1 := Lib.hid hn
      clear hn
      go_wp2_with (first | (go_at_call 46; refine HX.out.mono ?_; rintro e w' ⟨rfl, hb⟩))
      go_ret
      exact ⟨ret_bool (by rw [HF.out]; simp [H1.out]), hb⟩
end Go.Proofs.YtldedhfbpongmaaDoor
