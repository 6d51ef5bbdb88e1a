import Derived.Test.YtgncihoioacgjaaGreatDoorNumZe
namespace Go.Proofs.YtgncihoioacgjaaGreatDoor
open Go.Instr Go.RowKit NumF
set_option linter.unusedVariables false
set_option maxHeartbeats 1000000
/-- Digits, a point, z noughts. -/
def txt (l : List UInt8) (z : Nat) : ByteArray := ⟨(l ++ 46 :: List.replicate z 48).toArray⟩
theorem bget (x : List UInt8) (k : Nat) (h : k < (⟨x.toArray⟩ : ByteArray).size) : (⟨x.toArray⟩ : ByteArray)[k] = x[k]'h := rfl
theorem txt_size (l : List UInt8) (z : Nat) : (txt l z).size = l.length + 1 + z := by
  show (l ++ 46 :: List.replicate z 48).length = _
  simp; omega
theorem idx_list (l r : List UInt8) (h : ∀ c ∈ l, 48 ≤ c.toNat) : Lib.indexByte (l ++ 46 :: r) 46 = (l.length : Int) := by
  induction l with
  | nil => rfl
  | cons c l ih =>
    have hc := h c (by simp)
    have hne : (c == 46) = false := by
      rw [beq_eq_false_iff_ne]; rintro rfl; exact absurd hc (by decide)
    have e := ih (fun x hx => h x (by simp [hx]))
    rw [List.cons_append, Lib.indexByte, hne, e]
    have h2 : ((l.length : Int) == -1) = false := by rw [beq_eq_false_iff_ne]; omega
    rw [h2]; simp
theorem firstIdx_txt (l : List UInt8) (z : Nat) (h : ∀ c ∈ l, 48 ≤ c.toNat) : firstIdx (txt l z) 46 = (l.length : Int) := by
  rw [Lib.firstIdx_eq]; exact idx_list l _ h
theorem txt_left (l : List UInt8) (z : Nat) : (txt l z).extract 0 l.length = ⟨l.toArray⟩ := by
  apply ByteArray.ext
  rw [ByteArray.data_extract]
  show ((l ++ 46 :: List.replicate z 48).toArray).extract 0 l.length = l.toArray
  rw [List.extract_toArray]
  simp
theorem txt_right (l : List UInt8) (z : Nat) : (txt l z).extract (l.length + 1) (txt l z).size = ⟨(List.replicate z 48).toArray⟩ := by
  apply ByteArray.ext
  rw [ByteArray.data_extract, txt_size]
  show ((l ++ 46 :: List.replicate z 48).toArray).extract _ _ = (List.replicate z 48).toArray
  rw [List.extract_toArray]
  congr 1
  simp
theorem V10_fold_le (b : List UInt8) : ∀ v, v ≤ b.foldl (fun v c => 10 * v + (c.toNat - 48)) v := by
  induction b with
  | nil => intro v; exact Nat.le_refl v
  | cons c b ih =>
    intro v
    rw [List.foldl_cons]
    exact Nat.le_trans (by omega) (ih _)
theorem V10_append_le (a b : List UInt8) : V10 a ≤ V10 (a ++ b) := by
  unfold V10
  rw [List.foldl_append]
  exact V10_fold_le b _
theorem txt_Txt (l : List UInt8) (z n : Nat) (hz : z = 1 ∨ z = 2) (hl : l.length ≤ 16) (hd : ∀ c ∈ l, 48 ≤ c.toNat ∧ c.toNat ≤ 57) (hh : ∃ c r, l = c :: r ∧ 49 ≤ c.toNat) (hv : V10 l = n) (h1 : 1 ≤ n) (h2 : n < 9007199254740992) :
    Txt (txt l z) l.length z n (fun k => V10 (l.take k)) where
  size := txt_size l z
  L1 := by obtain ⟨c, r, rfl, _⟩ := hh; simp
  L2 := hl
  z1 := by omega
  z2 := by omega
  dig := by
    intro k hk h
    have e : (txt l z)[k] = l[k] := by
      unfold txt at h ⊢
      rw [bget, List.getElem_append_left]
    rw [e]; exact hd _ (List.getElem_mem hk)
  head := by
    intro h
    obtain ⟨c, r, rfl, hc⟩ := hh
    exact hc
  dot := by
    intro h
    unfold txt at h ⊢
    rw [bget, List.getElem_append_right (Nat.le_refl _)]
    simp
  zero := by
    intro j h
    have hj : j < z := by rw [txt_size] at h; omega
    unfold txt at h ⊢
    rw [bget, List.getElem_append_right (by omega)]
    have e : l.length + 1 + j - l.length = j + 1 := by omega
    simp [e]
  m0 := rfl
  step := by
    intro k hk h
    have e : (txt l z)[k] = l[k] := by
      unfold txt at h ⊢
      rw [bget, List.getElem_append_left]
    rw [e]
    show V10 (l.take (k + 1)) = 10 * V10 (l.take k) + _
    rw [← V10_snoc, List.take_append_getElem]
  mL := by
    show V10 (l.take l.length) = n
    rw [List.take_length]; exact hv
  le := by
    intro k hk
    show V10 (l.take k) ≤ n
    rw [← hv]
    have := V10_append_le (l.take k) (l.drop k)
    rw [List.take_append_drop] at this
    exact this
  n1 := h1
  n2 := h2
end Go.Proofs.YtgncihoioacgjaaGreatDoor
