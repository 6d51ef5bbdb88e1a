import Derived.Test.YtbiohbklefjfiaaDoorNodB
set_option maxRecDepth 100000
namespace Go.Proofs.YtbiohbklefjfiaaDoor
open Go.Instr Go.RowKit NodT
set_option linter.unusedVariables false

def RefSameOf (t : Nd) : Prop := ∀ (u : Nd) (w : World) (B : Nat), In w B t → In w B u → B ≤ w.heap.size →
    Calls Tryd.prog 11 #[t.val, u.val] w fun e w' => e = .returned (.bool (same t u)) ∧ Below w.heap.size w w'

def box2W (w : World) (t u : Nd) : World := boxW (boxW w t) u
theorem box2W_below (w : World) (t u : Nd) : Below w.heap.size w (box2W w t u) := (boxW_below w t).trans ((boxW_below (boxW w t) u).mono (by rw [boxW_size]; omega))
theorem box2W_size (w : World) (t u : Nd) : (box2W w t u).heap.size = w.heap.size + 2 := by unfold box2W; rw [boxW_size, boxW_size]
theorem box2W_boxes (w : World) (t u : Nd) : Box (box2W w t u) w.heap.size t ∧ Box (box2W w t u) (w.heap.size + 1) u := by
  refine ⟨(boxW_box w t).under (boxW_below (boxW w t) u) (by rw [boxW_size]; omega), ?_⟩
  have := boxW_box (boxW w t) u
  rw [boxW_size] at this
  exact this

theorem RefSame_any : ∀ t, RefSameOf t := by
  refine Nd.rose fun t ih => ?_
  intro u w B h1 h2 hB
  have l1 := h1.list.len
  have l2 := h1.list.cap
  have l3 := h2.list.len
  have l4 := h2.list.cap
  unfold maxLen at l2 l4
  have HLK := Lib.hid (same_eq t u)
  by_cases ok : t.kind = u.kind ∧ t.text.toList = u.text.toList ∧ t.num = u.num ∧ t.kids.length = u.kids.length
  · obtain ⟨a1, a2, a3, a4⟩ := ok
    have n1 : ((t.kind : Int) != u.kind) = false := by simp [a1]
    have n2 : (t.text.toList == u.text.toList) = true := by simp [a2]
    have n3 : (t.num != u.num) = false := by simp [a3]
    have n4 : ((t.kids.length : Int) != u.kids.length) = false := by simp [a4]
    have HLK2 : Hid (same t u = sameL t.kids u.kids) := by
      show _ = _
      rw [HLK.out]; simp [a1, a2, a3]
    have HL := Lib.hid a4
    clear a1 a2 a3 a4 HLK
    unfold Nd.val Nd.row
    have HBX : Hid ((w.alloc (.cells #[.int .u8 t.kind, .string t.text, .int .i64 t.num, .int .i64 t.place, .slice t.addr t.kids.length t.cap] 25)).alloc (.cells #[.int .u8 u.kind, .string u.text, .int .i64 u.num, .int .i64 u.place, .slice u.addr u.kids.length u.cap] 25) = box2W w t u) := rfl
    generalize hA : t.addr = A at HBX ⊢
    generalize hC : u.addr = C at HBX ⊢
    have HA := Lib.hid hA
    have HC := Lib.hid hC
    clear hA hC
    go_enter Tryd.func11, Tryd.ntmps11
    go_wp2_with fail
    rw [HBX.out]
    have hbx := box2W_boxes w t u
    have hb0 := box2W_below w t u
    have hs0 : w.heap.size + 2 ≤ (box2W w t u).heap.size := Nat.le_of_eq (box2W_size w t u).symm
    have i1 := h1.list.under (hb0.mono hB)
    have i2 := h2.list.under (hb0.mono hB)
    rw [HA.out] at i1
    rw [HC.out] at i2
    generalize box2W w t u = w2 at hbx hb0 hs0 i1 i2 ⊢
    clear h1 h2 HBX
    go_loopg [5] t.kids.length (fun g i wr => ∃ k : Nat, k ≤ t.kids.length ∧ g = t.kids.length - k ∧ i = .int .i64 k ∧ (∀ (i : Nat) (x y : Nd), i < k → t.kids[i]? = some x → u.kids[i]? = some y → same x y = true) ∧ Below w2.heap.size w2 wr)
    case atStart => exact ⟨0, by omega, rfl, rfl, fun i t u h => by omega, Below.refl _ _⟩
    case round =>
      obtain ⟨k, hk, hgk, rfl, hX, hb⟩ := hrel
      have HGK := Lib.hid hgk
      have HX := Lib.hid hX
      have b1 := hbx.1.under hb (by omega)
      have b2 := hbx.2.under hb (by omega)
      obtain ⟨_, _, _, _, e4⟩ := b1
      obtain ⟨_, _, _, _, f4⟩ := b2
      rw [HA.out] at e4
      rw [HC.out] at f4
      have hbw : Below w.heap.size w wr := hb0.trans (hb.mono (by omega))
      have hsz : wr.heap.size ≥ w.heap.size + 2 := by have := hb.size; omega
      clear hgk hX hbx hb0
      by_cases hlt : k < t.kids.length
      · obtain ⟨x, hx⟩ : ∃ x, t.kids[k]? = some x := ⟨_, List.getElem?_eq_getElem hlt⟩
        obtain ⟨y, hy⟩ : ∃ y, u.kids[k]? = some y := ⟨_, List.getElem?_eq_getElem (by have := HL.out; omega)⟩
        have hul : k < u.kids.length := by have := HL.out; omega
        have i1 := i1.under (hb.mono (by omega))
        have i2 := i2.under (hb.mono (by omega))
        obtain ⟨ab, ao, ha, hab, c0, c1, c2, c3, c4⟩ := i1.at_ hx
        obtain ⟨cb, co, hc, hcb, d0, d1, d2, d3, d4⟩ := i2.at_ hy
        subst ha
        subst hc
        have j1 := i1.kid hx
        have j2 := i2.kid hy
        have hBr : B ≤ wr.heap.size := by omega
        have HT := Lib.hid hx
        have HU := Lib.hid hy
        have HI := Lib.hid (ih x (List.mem_of_getElem? hx))
        clear hx hy ih i1 i2
        go_wp2_with fail
        go_still_tail 10, (by kernel_rfl)
        go_wp2_with fail
        refine (HI.out y _ B ?_ ?_ ?_).mono ?_
        · exact j1.drew
        · exact j2.drew
        · exact hBr
        rintro e w1 ⟨rfl, hb1⟩
        have hb1' : Below wr.heap.size wr w1 := (Below.refl _ _).drew.trans hb1
        clear hb1
        have hb2 := below_step hbw hb1' hbw.size
        have hb3 := below_step hb hb1' hb.size
        cases hlk : same x y
        all_goals
          have HK := Lib.hid hlk
          clear hlk
        · go_wp2_with fail
          go_ret
          have : same t u = false := by
            rw [HLK2.out, ← Bool.not_eq_true, sameL_iff]
            intro h
            have := h.2 k x y HT.out HU.out
            rw [HK.out] at this
            cases this
          rw [this]
          exact ⟨rfl, hb2⟩
        · go_wp2_with fail
          go_roundg (t.kids.length - (k + 1))
          case rel =>
            refine ⟨k + 1, by omega, rfl, by go_num, fun i t' u' hi ht' hu' => ?_, hb3⟩
            rcases Nat.lt_or_ge i k with h | h
            · exact HX.out i t' u' h ht' hu'
            · obtain rfl : i = k := by omega
              obtain rfl := Option.some.inj (HT.out.symm.trans ht')
              obtain rfl := Option.some.inj (HU.out.symm.trans hu')
              exact HK.out
          case measure => rw [HGK.out]; omega
      · go_wp2_with fail
        go_ret
        have : same t u = true := by
          rw [HLK2.out, sameL_iff]
          exact ⟨HL.out, fun i t u ht hu => HX.out i t u (by have := (List.getElem?_eq_some_iff.1 ht).1; omega) ht hu⟩
        rw [this]
        exact ⟨rfl, hbw⟩
  · have hf : same t u = false := by
      rw [← Bool.not_eq_true]
      intro h
      rw [HLK.out] at h
      simp only [Bool.and_eq_true, beq_iff_eq] at h
      exact ok ⟨h.1.1.1, h.1.1.2, h.1.2, ((sameL_iff _ _).1 h.2).1⟩
    have HF := Lib.hid hf
    have hbb : ∀ o o', Below w.heap.size w ((w.alloc o).alloc o') := fun o o' => ((Below.refl _ _).alloc (Nat.le_refl _) _).alloc (by simp) _
    have HBB := Lib.hid hbb
    clear hf HLK hbb ih
    unfold Nd.val Nd.row
    by_cases a1 : t.kind = u.kind
    · have n1 : ((t.kind : Int) != u.kind) = false := by simp [a1]
      by_cases a2 : t.text.toList = u.text.toList
      · have n2 : (t.text.toList == u.text.toList) = true := by simp [a2]
        by_cases a3 : t.num = u.num
        · have n3 : (t.num != u.num) = false := by simp [a3]
          have n4 : ((t.kids.length : Int) != u.kids.length) = true := by simp; intro h; exact ok ⟨a1, a2, a3, by omega⟩
          clear ok a1 a2 a3
          go_enter Tryd.func11, Tryd.ntmps11
          go_wp2_with fail
          go_ret
          rw [HF.out]
          exact ⟨rfl, HBB.out _ _⟩
        · have n3 : (t.num != u.num) = true := by simp [a3]
          clear ok a1 a2 a3
          go_enter Tryd.func11, Tryd.ntmps11
          go_wp2_with fail
          go_ret
          rw [HF.out]
          exact ⟨rfl, HBB.out _ _⟩
      · have n2 : (t.text.toList == u.text.toList) = false := by simp [a2]
        clear ok a1 a2
        go_enter Tryd.func11, Tryd.ntmps11
        go_wp2_with fail
        go_ret
        rw [HF.out]
        exact ⟨rfl, HBB.out _ _⟩
    · have n1 : ((t.kind : Int) != u.kind) = true := by simp; omega
      clear ok a1
      go_enter Tryd.func11, Tryd.ntmps11
      go_wp2_with fail
      go_ret
      rw [HF.out]
      exact ⟨rfl, HBB.out _ _⟩
end Go.Proofs.YtbiohbklefjfiaaDoor
