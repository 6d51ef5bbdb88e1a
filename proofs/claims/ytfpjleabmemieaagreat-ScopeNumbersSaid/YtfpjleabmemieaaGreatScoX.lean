/- TypesOf; Pick. -/
import Derived.Test.YtfpjleabmemieaaGreatScoM
import Derived.Test.YtfpjleabmemieaaGreatScoU
import Derived.LoopTactic
import Derived.Deep.LoopGhost
set_option maxRecDepth 100000
namespace Go.Proofs.YtfpjleabmemieaaGreat
open Go.Instr Go.RowKit ScoT
set_option linter.unusedVariables false
def boxTy (w : World) (t : Ty) : World := w.alloc (.cells #[.int .u8 t.kind, .string t.name, .slice t.addr t.els.length t.cap] 26)
theorem boxTy_size (w : World) (t : Ty) : (boxTy w t).heap.size = w.heap.size + 1 := by simp [boxTy]
theorem boxTy_below (w : World) (t : Ty) : Below w.heap.size w (boxTy w t) := by unfold boxTy; exact (Below.refl _ _).alloc (Nat.le_refl _) _
theorem boxTy_cell (w : World) (t : Ty) : (boxTy w t).cell? ⟨w.heap.size, 2, none⟩ = some (.slice t.addr t.els.length t.cap) := by unfold boxTy; rw [World.cell?_alloc_new]; rfl
def CountAt (t : Ty) (m : Int) (k : Nat) (c : Int) : Prop := 0 ≤ c ∧ c ≤ 2305843009213693952 ∧ ((((1 + wsum (t.els.take k) : Nat) : Int) ≤ m ∧ c = (1 + wsum (t.els.take k) : Nat)) ∨ (m < ((1 + wsum (t.els.take k) : Nat) : Int) ∧ m < c))
theorem wsum_append (a b : List Ty) : wsum (a ++ b) = wsum a + wsum b := by
  induction a with
  | nil => simp [wsum]
  | cons t ts ih => simp only [List.cons_append, wsum, ih]; omega
theorem wsum_snoc (ks : List Ty) (k : Nat) (u : Ty) (h : ks[k]? = some u) : wsum (ks.take (k + 1)) = wsum (ks.take k) + weight u := by
  rw [List.take_add_one, h, wsum_append]
  simp [wsum]
theorem wsum_take_le (ks : List Ty) (k : Nat) : wsum (ks.take k) ≤ wsum ks := by
  have := wsum_append (ks.take k) (ks.drop k)
  rw [List.take_append_drop] at this
  omega
theorem weight_pos (t : Ty) : 1 ≤ weight t := by rw [weight_eq]; omega
theorem CountAt.start (t : Ty) (m : Int) (hm : 0 ≤ m) : CountAt t m 0 1 := by
  refine ⟨by omega, by omega, ?_⟩
  simp [wsum]
  omega
theorem CountAt.step {t u : Ty} {m : Int} {k : Nat} {c : Int} (h : CountAt t m k c) (hu : t.els[k]? = some u) (hm : m ≤ 1000000) (hc : c ≤ m) : CountAt t m (k + 1) (c + min (weight u : Int) (m - c + 1)) := by
  obtain ⟨h0, h1, h2⟩ := h
  have hs := wsum_snoc _ _ _ hu
  have := weight_pos u
  unfold CountAt
  rw [hs]
  refine ⟨by omega, by omega, ?_⟩
  omega
theorem CountAt.over {t : Ty} {m : Int} {k : Nat} {c : Int} (h : CountAt t m k c) (hk : m < c) : min (weight t : Int) (m + 1) = m + 1 := by
  obtain ⟨h0, h1, h2⟩ := h
  have := wsum_take_le t.els k
  rw [weight_eq]
  omega
theorem CountAt.full {t : Ty} {m : Int} {c : Int} (h : CountAt t m t.els.length c) (hk : ¬ m < c) : min (weight t : Int) (m + 1) = c := by
  obtain ⟨h0, h1, h2⟩ := h
  rw [List.take_length] at h2
  rw [weight_eq]
  omega
theorem ret_int {k : IntKind} {a b : Int} (h : a = b) : Ending.returned (.int k a) = .returned (.int k b) := by rw [h]

set_option maxHeartbeats 4000000 in
theorem TypesOf_any : ∀ t : Ty, ∀ (m : Int) (w : World) (S : Nat → Prop), 0 ≤ m → m ≤ 1000000 → In w S t → (∀ b, S b → b < w.heap.size) →
    Calls Tryz.prog 9 #[t.val, .int .i64 m] w fun e w' => e = .returned (.int .i64 (min (weight t) (m+1))) ∧ Below w.heap.size w w' := by
  refine Ty.rose fun t ih => ?_
  intro m w S h0 hm h hS
  have hf := h.fits
  have h2 := hf.len
  have h3 := hf.cap
  unfold maxLen at h3
  clear hf
  have hst := CountAt.start t m h0
  unfold Ty.val Ty.row
  generalize hA : t.addr = A
  have HB : Hid (boxTy w t = w.alloc (.cells #[.int .u8 t.kind, .string t.name, .slice A t.els.length t.cap] 26)) := by rw [← hA]; exact rfl
  have HA := Lib.hid hA
  clear hA
  go_enter Tryz.func9, Tryz.ntmps9
  go_wp2_with fail
  go_loopg [5, 6] t.els.length (fun g c i wr => ∃ k : Nat, ∃ cc : Int, k ≤ t.els.length ∧ g = t.els.length - k ∧ i = .int .i64 k ∧ c = .int .i64 cc ∧ CountAt t m k cc ∧ Below (w.heap.size + 1) (boxTy w t) wr)
  case atStart => exact ⟨0, _, by omega, rfl, rfl, rfl, hst, by rw [HB.out]; exact Below.refl _ _⟩
  case round =>
    clear hst
    obtain ⟨k, cc, hk, hgk, rfl, rfl, hX, hb⟩ := hrel
    have b2 := (hb.cell (p := ⟨w.heap.size, 2, none⟩) (by exact Nat.lt_succ_self _)).trans (boxTy_cell w t)
    rw [HA.out] at b2
    have hcc := hX.1
    have hcc2 := hX.2.1
    have HGK := Lib.hid hgk
    clear hgk
    by_cases hlt : k < t.els.length
    · by_cases hle : cc ≤ m
      · obtain ⟨u, hu⟩ : ∃ u, t.els[k]? = some u := ⟨_, List.getElem?_eq_getElem hlt⟩
        have hin : In wr S t := (h.under (boxTy_below w t) hS).under hb (fun b hb => Nat.lt_succ_of_lt (hS b hb))
        obtain ⟨ab, ao, ha, hab, c0, c1, c2⟩ := hin.list.at_ hu
        obtain rfl := HA.out.symm.trans ha
        clear ha
        have hiu := hin.kid hu
        have hS' : ∀ b, S b → b < wr.heap.size := fun b hb' => Nat.lt_of_lt_of_le (Nat.lt_succ_of_lt (hS b hb')) (by have := hb.size; rw [boxTy_size] at this; exact this)
        have HU := Lib.hid hu
        have HI := Lib.hid (ih u (List.mem_of_getElem? hu))
        have HSS := Lib.hid (And.intro hS hS')
        have HIU := Lib.hid hiu
        clear hu ih h hin hS hS' hiu hab
        go_wp2_with fail
        refine (HI.out (m - cc) wr S (by omega) (by omega) HIU.out HSS.out.2).mono ?_
        rintro e w1 ⟨rfl, hb1⟩
        have hmn : min (weight u : Int) (m - cc + 1) ≤ 1000001 := by omega
        have hmn0 : 0 ≤ min (weight u : Int) (m - cc + 1) := by omega
        generalize hg : min (weight u : Int) (m - cc + 1) = mu at hmn hmn0 ⊢
        have HG := Lib.hid hg
        clear hg
        go_wp2_with fail
        go_roundg (t.els.length - (k + 1))
        case rel =>
          refine ⟨k + 1, _, by omega, rfl, by go_num, rfl, ?_, hb.trans (hb1.mono (by have := hb.size; rw [boxTy_size] at this; omega))⟩
          rw [← HG.out]
          exact hX.step HU.out hm hle
        case measure => rw [HGK.out]; omega
      · have HS := Lib.hid (hX.over (by omega))
        go_wp2_with fail
        all_goals
          go_ret
          exact ⟨ret_int (by have := HS.out; omega), (boxTy_below w t).trans (hb.mono (by omega))⟩
    · have hkl : k = t.els.length := by omega
      rw [hkl] at hX
      clear hkl
      by_cases hle : m < cc
      · have HS := Lib.hid (hX.over hle)
        go_wp2_with fail
        all_goals
          go_ret
          exact ⟨ret_int (by have := HS.out; omega), (boxTy_below w t).trans (hb.mono (by omega))⟩
      · have HS := Lib.hid (hX.full hle)
        go_wp2_with fail
        all_goals
          go_ret
          exact ⟨ret_int (by have := HS.out; omega), (boxTy_below w t).trans (hb.mono (by omega))⟩
/-- The document's choice of eight. -/
def pick8 (n : Int) : Int := if Int.tmod n 8 < 0 then Int.tmod n 8 + 8 else Int.tmod n 8
theorem pick8_range (n : Int) : 0 ≤ pick8 n ∧ pick8 n < 8 := by
  unfold pick8
  have h1 := Int.lt_tmod_of_pos n (show (0 : Int) < 8 by decide)
  have h2 := Int.tmod_lt_of_pos n (show (0 : Int) < 8 by decide)
  split <;> omega
theorem Pick_any (n : Int) (w : World) (hn : -9223372036854775808 ≤ n ∧ n ≤ 9223372036854775807) :
    Calls Tryz.prog 22 #[.int .i64 n, .int .i64 8] w fun e w' => e = .returned (.int .i64 (pick8 n)) ∧ Below w.heap.size w w' := by
  have h1 := Int.lt_tmod_of_pos n (show (0 : Int) < 8 by decide)
  have h2 := Int.tmod_lt_of_pos n (show (0 : Int) < 8 by decide)
  obtain ⟨hn1, hn2⟩ := hn
  go_enter Tryz.func22, Tryz.ntmps22
  by_cases hneg : Int.tmod n 8 < 0
  · have HP := Lib.hid (show pick8 n = Int.tmod n 8 + 8 by unfold pick8; rw [if_pos hneg])
    go_wp2_with fail
    all_goals
      go_ret
      exact ⟨ret_int (by rw [HP.out]), Below.refl _ _⟩
  · have HP := Lib.hid (show pick8 n = Int.tmod n 8 by unfold pick8; rw [if_neg hneg])
    go_wp2_with fail
    all_goals
      go_ret
      exact ⟨ret_int (by rw [HP.out]), Below.refl _ _⟩
end Go.Proofs.YtfpjleabmemieaaGreat
