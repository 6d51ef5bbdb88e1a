/- ScanLines, as mathematics: what strings.ReplaceAll's rounds write is the text with its lines' ends dressed. -/
import Derived.Test.YtbiohbklefjfiaaDoorScnLb
import Derived.Lib.IndexLaws
set_option maxRecDepth 100000
namespace ScnT
open Go
set_option linter.unusedVariables false
theorem ed_round {l : Bs} {j : Nat} (h : Lib.indexByte l 10 = (j : Int)) : j < l.length ∧ ed (l.take (j + 1)) = l.take j ++ eol ∧ Lib.countByte l 10 = Lib.countByte (l.drop (j + 1)) 10 + 1 := by
  obtain ⟨h1, h2⟩ := Lib.indexByte_some h
  have hj : j < l.length := (List.getElem?_eq_some_iff.1 h1).1
  have hno : ∀ x ∈ l.take j, x ≠ 10 := by
    intro x hx
    obtain ⟨i, hi⟩ := List.getElem?_of_mem hx
    have hij : i < j := by have := (List.getElem?_eq_some_iff.1 hi).1; simp at this; omega
    rw [List.getElem?_take_of_lt hij] at hi
    intro he
    exact h2 i hij (by rw [hi, he])
  have ht : l.take (j + 1) = l.take j ++ [10] := by rw [List.take_add_one, h1]; rfl
  refine ⟨hj, ?_, ?_⟩
  · rw [ht, ed_append, ed_none _ hno]
    rfl
  · unfold Lib.countByte
    conv => lhs; rw [← List.take_append_drop (j + 1) l, List.count_append, ht, List.count_append]
    have : (l.take j).count 10 = 0 := List.count_eq_zero.2 fun hm => hno 10 hm rfl
    rw [this]
    simp
    omega
theorem ed_zero {l : Bs} (h : Lib.countByte l 10 = 0) : ed l = l := ed_none l fun x hx he => by
  subst he
  exact List.count_eq_zero.1 h hx
theorem index_some {l : Bs} (h : 0 < Lib.countByte l 10) : ∃ j : Nat, Lib.indexByte l 10 = (j : Int) := by
  have h1 := Lib.indexByte_ge l 10
  by_cases he : Lib.indexByte l 10 = -1
  · have h2 := Lib.indexByte_none he
    have hm : (10 : UInt8) ∈ l := List.count_pos_iff.1 h
    obtain ⟨i, hi⟩ := List.getElem?_of_mem hm
    exact absurd hi (h2 i)
  · exact ⟨(Lib.indexByte l 10).toNat, by omega⟩
/-- Between two rounds: what is written, where the rest begins, how many rounds are left. -/
structure Rp (s W : Bs) (st n : Nat) : Prop where
  le : st ≤ s.length
  wr : W = ed (s.take st)
  left : Lib.countByte (s.drop st) 10 = n
theorem Rp.start (s : Bs) : Rp s [] 0 (Lib.countByte s 10) := ⟨Nat.zero_le _, rfl, rfl⟩
theorem Rp.step {s W : Bs} {st n j : Nat} (h : Rp s W st (n + 1)) (hj : Lib.indexByte (s.drop st) 10 = (j : Int)) : st + j < s.length ∧ Rp s (W ++ (s.drop st).take j ++ eol) (st + j + 1) n := by
  obtain ⟨h1, h2, h3⟩ := ed_round hj
  have hl := h.left
  rw [List.length_drop] at h1
  refine ⟨by omega, by omega, ?_, ?_⟩
  · rw [h.wr, List.append_assoc, ← h2, ← ed_append, ← List.take_add]
    rfl
  · rw [show st + j + 1 = st + (j + 1) from by omega, ← List.drop_drop]
    omega
theorem Rp.done {s W : Bs} {st : Nat} (h : Rp s W st 0) : W ++ s.drop st = ed s := by
  conv => rhs; rw [← List.take_append_drop st s, ed_append, ed_zero h.left]
  rw [h.wr]
/-- Room enough: what the law writes stays below the scanner's limit. -/
theorem lines_len (s : Bs) (h1 : s.length ≤ 20000) (h2 : Lib.countByte s 10 ≤ 2000) : (headE ++ dr s).length ≤ 65536 := by
  unfold dr
  rw [List.length_append, List.length_append, ed_len]
  have e : s.countP (· == 10) = Lib.countByte s 10 := rfl
  rw [e]
  show 9 + (_ + 7) ≤ _
  omega
end ScnT
