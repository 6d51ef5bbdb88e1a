import Derived.Test.YtldedhfbpongmaaDoorRows
import Derived.Test.YtldedhfbpongmaaDoorNodTree
import Derived.WalkKit
import Derived.WalkLawsBesides
import Derived.WalkSpells
import Derived.Below
import Derived.Outline
import Derived.Lib.Hide
import Derived.Handy
import Derived.LoopTactic
import Derived.Deep.LoopGhost
import Derived.Deep.QuietTactic
import Derived.BigQuiet
set_option maxRecDepth 100000
namespace Go.Proofs.YtldedhfbpongmaaDoor
open Go.Instr Go.RowKit NodT
set_option linter.unusedVariables false

/-- A block of a node's five cells. -/
structure Box (w : World) (b : Nat) (t : Nd) : Prop where
  c0 : w.cell? ⟨b, 0, none⟩ = some (.int .u8 t.kind)
  c1 : w.cell? ⟨b, 1, none⟩ = some (.string t.text)
  c2 : w.cell? ⟨b, 2, none⟩ = some (.int .i64 t.num)
  c3 : w.cell? ⟨b, 3, none⟩ = some (.int .i64 t.place)
  c4 : w.cell? ⟨b, 4, none⟩ = some (.slice t.addr t.kids.length t.cap)
def boxW (w : World) (t : Nd) : World := w.alloc (.cells #[.int .u8 t.kind, .string t.text, .int .i64 t.num, .int .i64 t.place, .slice t.addr t.kids.length t.cap] 25)
theorem boxW_size (w : World) (t : Nd) : (boxW w t).heap.size = w.heap.size + 1 := by simp [boxW]
theorem boxW_box (w : World) (t : Nd) : Box (boxW w t) w.heap.size t := by
  constructor <;> (unfold boxW; rw [World.cell?_alloc_new]; rfl)
theorem Box.under {w w' : World} {b B : Nat} {t : Nd} (h : Box w b t) (hb : Below B w w') (hl : b < B) : Box w' b t := by
  cases h
  constructor <;> rw [hb.cell (by exact hl)] <;> assumption
theorem boxW_below (w : World) (t : Nd) : Below w.heap.size w (boxW w t) := by unfold boxW; exact (Below.refl _ _).alloc (Nat.le_refl _) _
theorem below_step {B : Nat} {a b c : World} (h : Below B a b) (k : Below b.heap.size b c) (hB : B ≤ b.heap.size) : Below B a c := h.trans (k.mono hB)

theorem ret_int {k : IntKind} {a b : Int} (h : a = b) : Ending.returned (.int k a) = .returned (.int k b) := by rw [h]
def WeighAt (t : Nd) (m : Int) (k : Nat) (c : Int) : Prop := 0 ≤ c ∧ c ≤ 2305843009213693952 ∧ ((((1 + t.text.size / 8 + weighL (t.kids.take k) : Nat) : Int) ≤ m ∧ c = (1 + t.text.size / 8 + weighL (t.kids.take k) : Nat)) ∨ (m < ((1 + t.text.size / 8 + weighL (t.kids.take k) : Nat) : Int) ∧ m < c))
theorem weighL_snoc (ks : List Nd) (k : Nat) (u : Nd) (h : ks[k]? = some u) : weighL (ks.take (k + 1)) = weighL (ks.take k) + weigh u := by
  rw [List.take_add_one, h, weighL_append]
  simp [weighL]
theorem weighL_take_le (ks : List Nd) (k : Nat) : weighL (ks.take k) ≤ weighL ks := by
  have := weighL_append (ks.take k) (ks.drop k)
  rw [List.take_append_drop] at this
  omega
theorem WeighAt.start (t : Nd) (m : Int) (h : t.text.size ≤ 9223372036854775807) : WeighAt t m 0 (1 + (t.text.size : Int) / 8) := by
  refine ⟨by omega, by omega, ?_⟩
  simp [weighL]
  omega
theorem WeighAt.step {t u : Nd} {m : Int} {k : Nat} {c : Int} (h : WeighAt t m k c) (hu : t.kids[k]? = some u) (hm : m ≤ 1000000) (hc : c ≤ m) : WeighAt t m (k + 1) (c + min (weigh u : Int) (m - c + 1)) := by
  obtain ⟨h0, h1, h2⟩ := h
  have hs := weighL_snoc _ _ _ hu
  have := weigh_pos u
  unfold WeighAt
  rw [hs]
  refine ⟨by omega, by omega, ?_⟩
  omega
theorem WeighAt.over {t : Nd} {m : Int} {k : Nat} {c : Int} (h : WeighAt t m k c) (hk : m < c) : min (weigh t : Int) (m + 1) = m + 1 := by
  obtain ⟨h0, h1, h2⟩ := h
  have := weighL_take_le t.kids k
  rw [weigh_eq]
  omega
theorem WeighAt.full {t : Nd} {m : Int} {c : Int} (h : WeighAt t m t.kids.length c) (hk : ¬ m < c) : min (weigh t : Int) (m + 1) = c := by
  obtain ⟨h0, h1, h2⟩ := h
  rw [List.take_length] at h2
  rw [weigh_eq]
  omega

theorem NodesOf_any : ∀ t : Nd, ∀ (m : Int) (w : World) (B : Nat), 0 ≤ m → m ≤ 1000000 → In w B t → B ≤ w.heap.size →
    Calls Tryd.prog 5 #[t.val, .int .i64 m] w fun e w' => e = .returned (.int .i64 (min (weigh t) (m+1))) ∧ Below w.heap.size w w' := by
  refine Nd.rose fun t ih => ?_
  intro m w B h0 hm h hB
  have hf := h.fits
  have h1 := hf.text
  have h2 := hf.len
  have h3 := hf.cap
  unfold maxLen at h1 h2 h3
  clear hf
  have hst := WeighAt.start t m h1
  unfold Nd.val Nd.row
  generalize hA : t.addr = A
  have HB : Hid (boxW w t = w.alloc (.cells #[.int .u8 t.kind, .string t.text, .int .i64 t.num, .int .i64 t.place, .slice A t.kids.length t.cap] 25)) := by rw [← hA]; exact rfl
  have HA := Lib.hid hA
  clear hA
  go_enter Tryd.func5, Tryd.ntmps5
  go_wp2_with fail
  go_loopg [5, 6] t.kids.length (fun g c i wr => ∃ k : Nat, ∃ cc : Int, k ≤ t.kids.length ∧ g = t.kids.length - k ∧ i = .int .i64 k ∧ c = .int .i64 cc ∧ WeighAt t m k cc ∧ Below (w.heap.size + 1) (boxW w t) wr)
  case atStart => exact ⟨0, _, by omega, rfl, rfl, rfl, hst, by rw [HB.out]; exact Below.refl _ _⟩
  case round =>
    clear hst
    obtain ⟨k, cc, hk, hgk, rfl, rfl, hX, hb⟩ := hrel
    have hbox := (boxW_box w t).under hb (by omega)
    obtain ⟨b0, b1, b2, b3, b4⟩ := hbox
    rw [HA.out] at b4
    have hcc := hX.1
    have hcc2 := hX.2.1
    have HGK := Lib.hid hgk
    clear hgk
    by_cases hlt : k < t.kids.length
    · by_cases hle : cc ≤ m
      · obtain ⟨u, hu⟩ : ∃ u, t.kids[k]? = some u := ⟨_, List.getElem?_eq_getElem hlt⟩
        have hin := (h.under ((boxW_below w t).mono hB)).under (hb.mono (by omega))
        obtain ⟨ab, ao, ha, hab, c0, c1, c2, c3, c4⟩ := hin.at_ hu
        obtain rfl := HA.out.symm.trans ha
        clear ha
        have hiu := hin.kid hu
        have HU := Lib.hid hu
        have HI := Lib.hid (ih u (List.mem_of_getElem? hu))
        clear hu ih h hin
        go_wp2_with fail
        refine (HI.out (m - cc) wr B (by omega) (by omega) hiu (by have := hb.size; rw [boxW_size] at this; omega)).mono ?_
        rintro e w1 ⟨rfl, hb1⟩
        have hmn : min (weigh u : Int) (m - cc + 1) ≤ 1000001 := by omega
        have hmn0 : 0 ≤ min (weigh u : Int) (m - cc + 1) := by omega
        generalize hg : min (weigh u : Int) (m - cc + 1) = mu at hmn hmn0 ⊢
        have HG := Lib.hid hg
        clear hg
        go_wp2_with fail
        go_roundg (t.kids.length - (k + 1))
        case rel =>
          refine ⟨k + 1, _, by omega, rfl, by go_num, rfl, ?_, below_step hb hb1 (by have := hb.size; rw [boxW_size] at this; omega)⟩
          rw [← HG.out]
          exact hX.step HU.out hm hle
        case measure => rw [HGK.out]; omega
      · have HS := Lib.hid (hX.over (by omega))
        go_wp2_with fail
        all_goals
          go_ret
          exact ⟨ret_int (by have := HS.out; omega), (boxW_below w t).trans (hb.mono (by omega))⟩
    · have hkl : k = t.kids.length := by omega
      rw [hkl] at hX
      clear hkl
      by_cases hle : m < cc
      · have HS := Lib.hid (hX.over hle)
        go_wp2_with fail
        all_goals
          go_ret
          exact ⟨ret_int (by have := HS.out; omega), (boxW_below w t).trans (hb.mono (by omega))⟩
      · have HS := Lib.hid (hX.full hle)
        go_wp2_with fail
        all_goals
          go_ret
          exact ⟨ret_int (by have := HS.out; omega), (boxW_below w t).trans (hb.mono (by omega))⟩
end Go.Proofs.YtldedhfbpongmaaDoor
