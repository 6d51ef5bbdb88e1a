import Derived.Test.YtldedhfbpongmaaDoorNodA
import Derived.StillTailTactics
set_option maxRecDepth 100000
namespace Go.Proofs.YtldedhfbpongmaaDoor
open Go.Instr Go.RowKit NodT
set_option linter.unusedVariables false

def SameNodeOf (t : Nd) : Prop := ∀ (u : Nd) (w : World) (B : Nat), In w B t → In w B u → B ≤ w.heap.size →
    Calls Tryd.prog 11 #[t.val, u.val] w fun e w' => e = .returned (.bool (like t u)) ∧ Below w.heap.size w w'

theorem SameNodes_of (ts us : List Nd) (ih : ∀ t ∈ ts, SameNodeOf t) (A C : Option Addr) (ca cc : Nat) (w : World) (B : Nat) (h1 : InL w B A ca ts) (h2 : InL w B C cc us) (hB : B ≤ w.heap.size) :
    Calls Tryd.prog 21 #[.slice A ts.length ca, .slice C us.length cc] w fun e w' => e = .returned (.bool (likeL ts us)) ∧ Below w.heap.size w w' := by
  have l1 := h1.len
  have l2 := h1.cap
  have l3 := h2.len
  have l4 := h2.cap
  unfold maxLen at l2 l4
  by_cases hl : ts.length = us.length
  · have hne : ((ts.length : Int) != us.length) = false := by simp [hl]
    have HL := Lib.hid hl
    clear hl
    go_enter Tryd.func21, Tryd.ntmps21
    go_wp2_with fail
    go_loopg [5] ts.length (fun g i wr => ∃ k : Nat, k ≤ ts.length ∧ g = ts.length - k ∧ i = .int .i64 k ∧ (∀ (i : Nat) (t u : Nd), i < k → ts[i]? = some t → us[i]? = some u → like t u = true) ∧ Below w.heap.size w wr)
    case atStart => exact ⟨0, by omega, rfl, rfl, fun i t u h => by omega, Below.refl _ _⟩
    case round =>
      obtain ⟨k, hk, hgk, rfl, hX, hb⟩ := hrel
      have HGK := Lib.hid hgk
      have HX := Lib.hid hX
      clear hgk hX
      by_cases hlt : k < ts.length
      · obtain ⟨t, ht⟩ : ∃ t, ts[k]? = some t := ⟨_, List.getElem?_eq_getElem hlt⟩
        obtain ⟨u, hu⟩ : ∃ u, us[k]? = some u := ⟨_, List.getElem?_eq_getElem (by have := HL.out; omega)⟩
        have hul : k < us.length := by have := HL.out; omega
        have i1 := h1.under (hb.mono hB)
        have i2 := h2.under (hb.mono hB)
        obtain ⟨ab, ao, ha, hab, c0, c1, c2, c3, c4⟩ := i1.at_ ht
        obtain ⟨cb, co, hc, hcb, d0, d1, d2, d3, d4⟩ := i2.at_ hu
        subst ha
        subst hc
        have j1 := i1.kid ht
        have j2 := i2.kid hu
        have hBr : B ≤ wr.heap.size := by have := hb.size; omega
        have HT := Lib.hid ht
        have HU := Lib.hid hu
        have HI := Lib.hid (ih t (List.mem_of_getElem? ht))
        clear ht hu ih i1 i2 h1 h2
        go_wp2_with fail
        go_still_tail 8, (by kernel_rfl)
        go_wp2_with fail
        refine (HI.out u _ B ?_ ?_ ?_).mono ?_
        · exact j1.drew
        · exact j2.drew
        · exact hBr
        rintro e w1 ⟨rfl, hb1⟩
        have hb1' : Below wr.heap.size wr w1 := (Below.refl _ _).drew.trans hb1
        clear hb1
        have hb2 := below_step hb hb1' hb.size
        cases hlk : like t u
        all_goals
          have HK := Lib.hid hlk
          clear hlk
        · go_wp2_with fail
          go_ret
          have : likeL ts us = false := by
            rw [← Bool.not_eq_true, likeL_iff]
            intro h
            have := h.2 k t u HT.out HU.out
            rw [HK.out] at this
            cases this
          rw [this]
          exact ⟨rfl, hb2⟩
        · go_wp2_with fail
          go_roundg (ts.length - (k + 1))
          case rel =>
            refine ⟨k + 1, by omega, rfl, by go_num, fun i t' u' hi ht' hu' => ?_, hb2⟩
            rcases Nat.lt_or_ge i k with h | h
            · exact HX.out i t' u' h ht' hu'
            · obtain rfl : i = k := by omega
              obtain rfl := Option.some.inj (HT.out.symm.trans ht')
              obtain rfl := Option.some.inj (HU.out.symm.trans hu')
              exact HK.out
          case measure => rw [HGK.out]; omega
      · go_wp2_with fail
        go_ret
        have : likeL ts us = true := by
          rw [likeL_iff]
          exact ⟨HL.out, fun i t u ht hu => HX.out i t u (by have := (List.getElem?_eq_some_iff.1 ht).1; omega) ht hu⟩
        rw [this]
        exact ⟨rfl, hb⟩
  · have hne : ((ts.length : Int) != us.length) = true := by simp; omega
    have HL := Lib.hid hl
    clear hl
    go_enter Tryd.func21, Tryd.ntmps21
    go_wp2_with fail
    go_ret
    have : likeL ts us = false := by
      rw [← Bool.not_eq_true, likeL_iff]
      exact fun h => HL.out h.1
    rw [this]
    exact ⟨rfl, Below.refl _ _⟩

theorem SameNode_any : ∀ t, SameNodeOf t := by
  refine Nd.rose fun t ih => ?_
  intro u w B h1 h2 hB
  have hlk := like_eq t u
  have HLK := Lib.hid hlk
  have HS := Lib.hid (SameNodes_of t.kids u.kids ih)
  clear hlk ih
  unfold Nd.val Nd.row
  go_enter Tryd.func11, Tryd.ntmps11
  go_wp2_with fail
  · refine (HS.out _ _ _ _ _ B ((h1.list.alloc hB _).alloc (by simp; omega) _) ((h2.list.alloc hB _).alloc (by simp; omega) _) (by simp; omega)).mono ?_
    rintro e w1 ⟨rfl, hb⟩
    go_wp2_with fail
    go_ret
    have a1 : t.kind = u.kind := by omega
    have a2 : t.text.toList = u.text.toList := by assumption
    have a3 : t.num = u.num := by assumption
    have a4 : t.place = u.place := by assumption
    have : like t u = likeL t.kids u.kids := by rw [HLK.out]; simp [a1, a2, a3, a4]
    rw [this]
    exact ⟨rfl, (((Below.refl _ _).alloc (Nat.le_refl _) _).alloc (by simp) _).trans (hb.mono (by simp; omega))⟩
  · go_ret
    have a4 : ¬ t.place = u.place := by assumption
    have : like t u = false := by rw [HLK.out]; simp [a4]
    rw [this]
    exact ⟨rfl, ((Below.refl _ _).alloc (Nat.le_refl _) _).alloc (by simp) _⟩
  · go_ret
    have a4 : ¬ t.num = u.num := by assumption
    have : like t u = false := by rw [HLK.out]; simp [a4]
    rw [this]
    exact ⟨rfl, ((Below.refl _ _).alloc (Nat.le_refl _) _).alloc (by simp) _⟩
  · go_ret
    have a4 : ¬ t.text.toList = u.text.toList := by assumption
    have : like t u = false := by rw [HLK.out]; simp [a4]
    rw [this]
    exact ⟨rfl, ((Below.refl _ _).alloc (Nat.le_refl _) _).alloc (by simp) _⟩
  · go_ret
    have a4 : ¬ t.kind = u.kind := by omega
    have : like t u = false := by rw [HLK.out]; simp [a4]
    rw [this]
    exact ⟨rfl, ((Below.refl _ _).alloc (Nat.le_refl _) _).alloc (by simp) _⟩
theorem SameNodes_any (ts us : List Nd) (A C : Option Addr) (ca cc : Nat) (w : World) (B : Nat) (h1 : InL w B A ca ts) (h2 : InL w B C cc us) (hB : B ≤ w.heap.size) :
    Calls Tryd.prog 21 #[.slice A ts.length ca, .slice C us.length cc] w fun e w' => e = .returned (.bool (likeL ts us)) ∧ Below w.heap.size w w' :=
  SameNodes_of ts us (fun t _ => SameNode_any t) A C ca cc w B h1 h2 hB
end Go.Proofs.YtldedhfbpongmaaDoor
