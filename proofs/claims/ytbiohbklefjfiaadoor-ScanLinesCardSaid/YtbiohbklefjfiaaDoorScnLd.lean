/- strings.Replace of each line's end: what it writes. -/
import Derived.Test.YtbiohbklefjfiaaDoorScnG
import Derived.Test.YtbiohbklefjfiaaDoorScnLc
import Derived.Lib.SlicesS
import Derived.Deep.LoopGhost
set_option maxRecDepth 100000
namespace ScnT
open Go
def eolS : ByteArray := ⟨#[32, 47, 47, 32, 120, 34, 32, 0, 10]⟩
theorem eolS_list : eolS.data.toList = eol := rfl
theorem ed_mk (s : ByteArray) (h : Lib.countByte s.data.toList 10 = 0) : mkS (ed s.data.toList) = s := by
  rw [ed_zero h]
  rfl
theorem Rp.length {s W : Bs} {st n : Nat} (h : Rp s W st n) : W.length ≤ 9 * s.length := by
  rw [h.wr, ed_len]
  have h1 : (s.take st).length ≤ s.length := by rw [List.length_take]; omega
  have h2 : (s.take st).countP (· == 10) ≤ (s.take st).length := List.countP_le_length
  omega
end ScnT
namespace Go.Proofs.YtbiohbklefjfiaaDoor
open Go.Instr Go.RowKit ScnT
set_option linter.unusedVariables false
theorem heap_new (w : World) (b : Obj) : (w.alloc b).heap[w.heap.size]? = some b := by
  show (w.heap.push b)[w.heap.size]? = some b
  exact Array.getElem?_push_size
set_option maxHeartbeats 8000000 in
theorem Replace_some (s : ByteArray) (w : World) (hs : s.size ≤ 20000) (K : Nat) (hK : Lib.countByte s.data.toList 10 = K + 1) (hK2 : K + 1 ≤ 2000) :
    Calls Tryd.prog 51 #[.string s, .string ⟨#[10]⟩, .string ⟨#[32, 47, 47, 32, 120, 34, 32, 0, 10]⟩, .int .i64 (-1)] w fun e w' => e = .returned (.string (mkS (ed s.data.toList))) ∧ Below w.heap.size w w' := by
  have hcz : (((K + 1 : Nat) : Int) == 0) = false := by simp; omega
  have HC := Lib.hid (fun ww => Go.Proofs.Tryd.strings_Count_one s 10 ww)
  rw [hK] at HC
  have HK := Lib.hid hK
  clear hK
  have hSt := Rp.start s.data.toList
  rw [HK.out] at hSt
  have HST := Lib.hid hSt
  clear hSt
  have hlenL : s.data.toList.length = s.size := (Lib.size_eq s).symm
  obtain ⟨m, hm⟩ : ∃ m, K + 1 = m := ⟨_, rfl⟩
  rw [hm] at HC HST hcz hK2
  have hm1 : 1 ≤ m := by omega
  clear hm HK
  have HL := Lib.hid hlenL
  clear hlenL
  go_enter Tryd.func51, Tryd.ntmps51
  go_wp2_with (go_at_call 23; refine (HC.out _).mono ?_; rintro e w' ⟨rfl, hw⟩; rw [hw])
  clear HC
  rw [show ((s.size : Int) + (m : Int) * 8) = ((s.size + m * 8 : Nat) : Int) from by omega]
  refine (Go.Proofs.Tryd.Builder_Grow_fresh w.heap.size w.heap.size _ _ (Nat.le_refl _) (heap_new w _) (by simp) (by omega)).mono ?_
  rintro e w1 ⟨rfl, hb0, hb1⟩
  have H1 := Lib.hid (Or.inr hb0 : Lib.IsBuilder 90 5 w.heap.size w.heap.size (Lib.byteCells []) w1)
  have Hb1 := Lib.hid (((Below.refl w.heap.size w).alloc (Nat.le_refl _) _).trans hb1)
  clear hb0 hb1 hw
  go_wp2_with fail
  go_loopg [11, 53] m (fun g s11 s53 wx => ∃ (i start : Nat) (acc : List UInt8), s53 = .int .i64 i ∧ s11 = .int .i64 start ∧ i + g = m ∧ start ≤ s.size ∧
      Hid (Lib.IsBuilder 90 5 w.heap.size w.heap.size (Lib.byteCells acc) wx) ∧ Hid (Below w.heap.size w wx) ∧ Hid (Rp s.data.toList acc start g))
  case atStart => exact ⟨0, 0, [], rfl, rfl, by omega, Nat.zero_le _, H1, Hb1, HST⟩
  case round =>
    obtain ⟨i, start, acc, rfl, rfl, hig, hst, HB, HW, HR⟩ := hrel
    have hBw : w.heap.size ≤ wr.heap.size := HW.out.size
    have c1 : (0 : Int) ≤ (start : Int) := by omega
    have c2 : (start : Int) ≤ (s.size : Int) := by omega
    have hal : acc.length ≤ 180000 := by have := HR.out.length; have := HL.out; omega
    cases gk with
    | zero =>
      have hiK : ¬ ((i : Int) < (m : Int)) := by omega
      go_wp2_with fail
      refine (WriteString_any w.heap.size w.heap.size _ _ wr HB.out (by rw [Lib.byteCells_length, ByteArray.size_extract]; omega) hBw).mono ?_
      rintro e w3 ⟨rfl, h3, hb3⟩
      rw [Lib.strCells_eq, Lib.extract_to_end, ← Lib.byteCells_append, HR.out.done] at h3
      have H3 := Lib.hid h3
      have Hb3 := Lib.hid (HW.out.trans hb3)
      have hBw3 : w.heap.size ≤ w3.heap.size := Hb3.out.size
      clear h3 hb3
      go_wp2_with fail
      refine (String_any w.heap.size w.heap.size _ w3 H3.out hBw3).mono ?_
      rintro e w5 ⟨rfl, hb5⟩
      have Hb5 := Lib.hid (Hb3.out.trans hb5)
      clear hb5
      go_wp2
      go_ret
      exact ⟨rfl, Hb5.out⟩
    | succ g =>
      have hiK : (i : Int) < (m : Int) := by omega
      obtain ⟨j, hj⟩ := index_some (l := s.data.toList.drop start) (by have := HR.out.left; omega)
      obtain ⟨hroom, hnext⟩ := HR.out.step hj
      rw [HL.out] at hroom
      have c3 : (start : Int) ≤ (start : Int) + (j : Int) := by omega
      have c4 : (start : Int) + (j : Int) ≤ (s.size : Int) := by omega
      have hcells : Lib.byteCells acc ++ Lib.strCells (s.extract start (start + j)) ++ Lib.strCells ⟨#[32, 47, 47, 32, 120, 34, 32, 0, 10]⟩ = Lib.byteCells (acc ++ (s.data.toList.drop start).take j ++ eol) := by
        rw [Lib.strCells_eq, Lib.strCells_eq, Lib.extract_data, Nat.add_sub_cancel_left, ← Lib.byteCells_append, ← Lib.byteCells_append]
        rfl
      have Hn := Lib.hid hcells
      have HN := Lib.hid hnext
      have HJ := Lib.hid hj
      clear hcells hnext hj HR
      go_wp2_with (go_at_call 46; refine (Go.Proofs.Tryd.strings_Index_one _ 10 _).mono ?_; rintro e w' ⟨rfl, hw⟩; rw [hw, Lib.extract_to_end, HJ.out])
      refine (WriteString_any w.heap.size w.heap.size _ (s.extract start (start + j)) wr HB.out (by rw [Lib.byteCells_length, ByteArray.size_extract]; omega) hBw).mono ?_
      rintro e w3 ⟨rfl, h3, hb3⟩
      have hBw3 : w.heap.size ≤ w3.heap.size := Nat.le_trans hBw hb3.size
      have H3 := Lib.hid h3
      have Hb3 := Lib.hid hb3
      clear h3 hb3
      go_wp2_with fail
      refine (WriteString_any w.heap.size w.heap.size _ ⟨#[32, 47, 47, 32, 120, 34, 32, 0, 10]⟩ w3 H3.out (by rw [List.length_append, Lib.byteCells_length, Lib.strCells_length, ByteArray.size_extract]; show _ + 9 ≤ _; omega) hBw3).mono ?_
      rintro e w4 ⟨rfl, h4, hb4⟩
      rw [Hn.out] at h4
      have H4 := Lib.hid h4
      have Hb4 := Lib.hid ((HW.out.trans Hb3.out).trans hb4)
      clear h4 hb4
      go_wp2
      go_roundg g
      case measure => omega
      case rel => exact ⟨i + 1, start + j + 1, _, by first | rfl | (simp; done) | go_num, by first | rfl | (simp; done) | go_num, by omega, by omega, H4, Hb4, HN⟩
theorem Replace_any (s : ByteArray) (w : World) (hs : s.size ≤ 20000) (hK2 : Lib.countByte s.data.toList 10 ≤ 2000) :
    Calls Tryd.prog 51 #[.string s, .string ⟨#[10]⟩, .string ⟨#[32, 47, 47, 32, 120, 34, 32, 0, 10]⟩, .int .i64 (-1)] w fun e w' => e = .returned (.string (mkS (ed s.data.toList))) ∧ Below w.heap.size w w' := by
  by_cases h0 : Lib.countByte s.data.toList 10 = 0
  · have HC := Lib.hid (fun ww => Go.Proofs.Tryd.strings_Count_one s 10 ww)
    rw [h0] at HC
    rw [ed_mk s h0]
    clear h0 hK2
    go_enter Tryd.func51, Tryd.ntmps51
    go_wp2_with (go_at_call 23; refine (HC.out _).mono ?_; rintro e w' ⟨rfl, hw⟩; rw [hw])
    go_ret
    exact ⟨rfl, Below.refl _ _⟩
  · obtain ⟨K, hK⟩ : ∃ K, Lib.countByte s.data.toList 10 = K + 1 := ⟨Lib.countByte s.data.toList 10 - 1, by omega⟩
    exact Replace_some s w hs K hK (by omega)
set_option maxHeartbeats 2000000 in
theorem ReplaceAll_any (s : ByteArray) (w : World) (hs : s.size ≤ 20000) (hK2 : Lib.countByte s.data.toList 10 ≤ 2000) :
    Calls Tryd.prog 25 #[.string s, .string ⟨#[10]⟩, .string ⟨#[32, 47, 47, 32, 120, 34, 32, 0, 10]⟩] w fun e w' => e = .returned (.string (mkS (ed s.data.toList))) ∧ Below w.heap.size w w' := by
  have HR := Lib.hid (Replace_any s w hs hK2)
  clear hs hK2
  go_enter Tryd.func25, Tryd.ntmps25
  go_wp2_with (go_at_call 51; refine HR.out.mono ?_; rintro e w' ⟨rfl, hw⟩)
  go_ret
  exact ⟨rfl, hw⟩
end Go.Proofs.YtbiohbklefjfiaaDoor
