/- What the laws' walks ask of texts in memory. -/
import Derived.Test.YtbgkigdlbiknnaaMtH
import Derived.Test.YtbgkigdlbiknnaaMtC
import Derived.Test.YtbgkigdlbiknnaaRdZd
import Derived.Deep.Draws
set_option maxRecDepth 100000
set_option linter.unusedSimpArgs false
namespace LexT
open Go Go.RowKit
set_option linter.unusedVariables false
theorem mkS_app (a b : Bs) : mkS a ++ mkS b = mkS (a ++ b) := by
  apply ByteArray.ext
  apply Array.ext'
  rw [ByteArray.data_append]
  simp [mkS]
theorem st_stands {S : ByteArray} {q : Nat} {nm : Bs} (h : stP S.data.toList q nm) : standsP S q nm := by
  obtain ⟨h1, h2⟩ := h
  have hl : S.data.toList.length = S.size := by simp
  rw [hl] at h1
  refine ⟨h1, ?_⟩
  apply ByteArray.ext
  apply Array.ext'
  rw [ByteArray.data_extract, Array.toList_extract, List.extract_eq_take_drop, Nat.add_sub_cancel_left, h2]
  simp [mkS]
mutual
theorem th_there {S : ByteArray} : ∀ {x : Wd}, thP S.data.toList x → thereP S x
  | .mk n ws p, h => by
    unfold thP at h
    unfold thereP
    exact ⟨st_stands h.1, ths_theres h.2⟩
theorem ths_theres {S : ByteArray} : ∀ {ws : List Wd}, thPs S.data.toList ws → therePs S ws
  | [], h => by unfold therePs; trivial
  | x :: xs, h => by
    unfold thPs at h
    unfold therePs
    exact ⟨th_there h.1, ths_theres h.2⟩
end
theorem below_dr {b : Nat} {w w' : World} (h : Below b w w') (n : Nat) : Below b w (w'.drewN n) := h.trans ⟨rfl, rfl, rfl, Nat.le_refl _, fun _ _ => rfl⟩
end LexT
namespace Go.Proofs.Ytbgkigdlbiknnaa
open Go.Instr Go.RowKit LexT
set_option linter.unusedVariables false
set_option maxHeartbeats 1000000 in
theorem stands_same (S T : ByteArray) (p : Nat) (w : World) (hp : p + T.size ≤ S.size) (hS : S.size ≤ 100000) (he : S.extract p (p + T.size) = T) : Calls Try.prog 7 #[.string S, .int .i64 (p : Int), .string T] w fun e w' => e = .returned (.bool true) ∧ w' = w := by
  have h0 : (0 : Int) ≤ (p : Int) := by omega
  have h1 : (p : Int) + (T.size : Int) ≤ (S.size : Int) := by omega
  have h3 : (p : Int) ≤ (p : Int) + (T.size : Int) := by omega
  have h4 : (0 : Int) ≤ (p : Int) + (T.size : Int) := by omega
  have hu : (p : Int) + (T.size : Int) ≤ 9223372036854775807 := by omega
  have h5 : ((p : Int) + (T.size : Int)).toNat = p + T.size := by omega
  go_enter Try.func7, Try.ntmps7
  go_wp2_with fail
  go_ret
  exact ⟨rfl, rfl⟩
theorem stands_st (S T : ByteArray) (q : Nat) (nm : Bs) (w : World) (hS : S.size ≤ 100000) (hT : T = mkS nm) (h : stP S.data.toList q nm) : Calls Try.prog 7 #[.string S, .int .i64 (q : Int), .string T] w fun e w' => e = .returned (.bool true) ∧ w' = w := by
  obtain ⟨h1, h2⟩ := st_stands h
  subst hT
  exact stands_same S (mkS nm) q w (by rw [mkS_size]; exact h1) hS (by rw [mkS_size]; exact h2)
end Go.Proofs.Ytbgkigdlbiknnaa
