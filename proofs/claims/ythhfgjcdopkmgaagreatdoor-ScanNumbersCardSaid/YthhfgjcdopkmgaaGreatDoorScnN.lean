/- What a string's next byte, or pair, says. -/
import Derived.Test.YthhfgjcdopkmgaaGreatDoorScnM
set_option maxRecDepth 100000
namespace ScnT
open Go Go.RowKit
set_option linter.unusedVariables false
theorem hex_ways (c : UInt8) : (48 ≤ c.toNat ∧ c.toNat ≤ 57 ∧ isDg c = true ∧ hexB c = some (UInt8.ofNat (c.toNat - 48)) ∧ (c.toNat : Int) - 48 = ((UInt8.ofNat (c.toNat - 48)).toNat : Int)) ∨
    (97 ≤ c.toNat ∧ c.toNat ≤ 102 ∧ isDg c = false ∧ hexB c = some (UInt8.ofNat (c.toNat - 87)) ∧ (c.toNat : Int) - 97 + 10 = ((UInt8.ofNat (c.toNat - 87)).toNat : Int)) ∨
    (65 ≤ c.toNat ∧ c.toNat ≤ 70 ∧ isDg c = false ∧ hexB c = some (UInt8.ofNat (c.toNat - 55)) ∧ (c.toNat : Int) - 65 + 10 = ((UInt8.ofNat (c.toNat - 55)).toNat : Int)) ∨
    (¬ (97 ≤ c.toNat ∧ c.toNat ≤ 102) ∧ ¬ (65 ≤ c.toNat ∧ c.toNat ≤ 70) ∧ isDg c = false ∧ hexB c = none) := by
  revert c
  refine all256 ?_
  decide
def pairAt (S : ByteArray) (a : Nat) : Option (UInt8 × Nat) :=
  let d := lookB (restB S a) 0
  if d == 120 then match hexB (lookB (restB S (a + 1)) 0), hexB (lookB (restB S (a + 2)) 0) with | some x, some y => some (x <<< 4 ||| y, 3) | _, _ => none
  else match pairB d with | some x => some (x, 1) | none => none
def saidAt (S : ByteArray) (a : Nat) : Option (UInt8 × Nat) :=
  let c := lookB (restB S a) 0
  if c == 92 then match pairAt S (a + 1) with | some (v, n) => some (v, n + 1) | none => none
  else if isPl c then some (c, 1) else none
/-- What a call that tells a byte does: it tells it, and goes on; or it refuses. -/
def ByteOr (r : Option (UInt8 × Nat)) (F : List PanicEntry) (w : World) (b : Nat) (S : ByteArray) (fr a : Nat) (tv pm : Value) (e : Ending) (w' : World) : Prop :=
  (∃ v n, r = some (v, n) ∧ e = .returned (.int .u8 (v.toNat : Int)) ∧ Box w' b S fr (a + n) tv pm ∧ w.grownBy w' (some b)) ∨ (r = none ∧ e = .panicked F ∧ w.grownBy w' (some b))
end ScnT
namespace Go.Proofs.YthhfgjcdopkmgaaGreatDoor
open Go.Instr Go.RowKit ScnT
set_option linter.unusedVariables false
variable {b fr a : Nat} {S : ByteArray} {tv pm : Value}
set_option maxHeartbeats 1000000 in
theorem readDigit16_any (w : World) (h : Box w b S fr a tv pm) (ha : a ≤ 90000) (hS : S.size ≤ 100000) :
    Calls Tryz.prog 207 #[.pointer (some ⟨b, 0, none⟩)] w (ByteOr (match hexB (lookB (restB S a) 0) with | some x => some (x, 1) | none => none) (faulty 101 fr) w b S fr a tv pm) := by
  have HT := Lib.hid (take_any w h ha hS)
  clear h
  generalize lookB (restB S a) 0 = c at *
  have hlt := c.toNat_lt
  rcases hex_ways c with ⟨h1, h2, hd, hh, he⟩ | ⟨h1, h2, hd, hh, he⟩ | ⟨h1, h2, hd, hh, he⟩ | ⟨h1, h2, hd, hh⟩
  · have HD := Lib.hid (fun ww => isDigit_any c ww)
    rw [hd] at HD
    rw [hh]
    have HE := Lib.hid he
    clear hd hh he
    go_enter Tryz.func207, Tryz.ntmps207
    go_wp2_with fail
    refine HT.out.mono ?_
    rintro e w1 ⟨rfl, hb1, hg1⟩
    have HB := Lib.hid (And.intro hb1 hg1)
    clear hb1 hg1
    go_wp2_with (go_at_call 114; refine (HD.out _).mono ?_; rintro e w' ⟨rfl, rfl⟩)
    go_ret
    exact .inl ⟨_, 1, rfl, by rw [← HE.out]; rfl, HB.out.1, HB.out.2⟩
  · have HD := Lib.hid (fun ww => isDigit_any c ww)
    rw [hd] at HD
    rw [hh]
    have HE := Lib.hid he
    clear hd hh he
    go_enter Tryz.func207, Tryz.ntmps207
    go_wp2_with fail
    refine HT.out.mono ?_
    rintro e w1 ⟨rfl, hb1, hg1⟩
    have HB := Lib.hid (And.intro hb1 hg1)
    clear hb1 hg1
    go_wp2_with (go_at_call 114; refine (HD.out _).mono ?_; rintro e w' ⟨rfl, rfl⟩)
    go_ret
    exact .inl ⟨_, 1, rfl, by rw [← HE.out]; rfl, HB.out.1, HB.out.2⟩
  · have HD := Lib.hid (fun ww => isDigit_any c ww)
    rw [hd] at HD
    rw [hh]
    have HE := Lib.hid he
    clear hd hh he
    have hn : ¬ 97 ≤ c.toNat := by omega
    go_enter Tryz.func207, Tryz.ntmps207
    go_wp2_with fail
    refine HT.out.mono ?_
    rintro e w1 ⟨rfl, hb1, hg1⟩
    have HB := Lib.hid (And.intro hb1 hg1)
    clear hb1 hg1
    go_wp2_with (go_at_call 114; refine (HD.out _).mono ?_; rintro e w' ⟨rfl, rfl⟩)
    go_ret
    exact .inl ⟨_, 1, rfl, by rw [← HE.out]; rfl, HB.out.1, HB.out.2⟩
  · have HD := Lib.hid (fun ww => isDigit_any c ww)
    rw [hd] at HD
    rw [hh]
    clear hd hh
    by_cases g1 : 97 ≤ c.toNat <;> by_cases g2 : c.toNat ≤ 102 <;> by_cases g3 : 65 ≤ c.toNat <;> by_cases g4 : c.toNat ≤ 70
    all_goals try omega
    all_goals
      clear h1 h2
      go_enter Tryz.func207, Tryz.ntmps207
      go_wp2_with fail
      refine HT.out.mono ?_
      rintro e w1 ⟨rfl, hb1, hg1⟩
      have HB := Lib.hid (And.intro hb1 hg1)
      clear hb1 hg1
      go_wp2_with (go_at_call 114; refine (HD.out _).mono ?_; rintro e w' ⟨rfl, rfl⟩)
      refine (refuse_any 101 _ HB.out.1).mono ?_
      rintro e w2 ⟨rfl, rfl⟩
      exact ⟨rfl, .inr ⟨rfl, rfl, HB.out.2⟩⟩
variable {pm0 : Nat}
theorem hex_small {c x : UInt8} (h : hexB c = some x) : x.toNat ≤ 15 := by
  rcases hex_ways c with ⟨h1, h2, _, hh, he⟩ | ⟨h1, h2, _, hh, he⟩ | ⟨h1, h2, _, hh, he⟩ | ⟨_, _, _, hh⟩
  · rw [hh] at h; injection h with h; subst h; omega
  · rw [hh] at h; injection h with h; subst h; omega
  · rw [hh] at h; injection h with h; subst h; omega
  · rw [hh] at h; cases h
theorem pair_value {c d x y : UInt8} (h : hexB c = some x) (h' : hexB d = some y) : bits BinOp.or IntKind.u8 ((x.toNat : Int) * 16) (y.toNat : Int) = ((x <<< 4 ||| y).toNat : Int) := by
  have hx := hex_small h
  have hy := hex_small h'
  have key : ∀ i : Fin 16, ∀ j : Fin 16, bits BinOp.or IntKind.u8 ((i.val : Int) * 16) (j.val : Int) = ((UInt8.ofNat i.val <<< 4 ||| UInt8.ofNat j.val).toNat : Int) := by decide
  have := key ⟨x.toNat, by omega⟩ ⟨y.toNat, by omega⟩
  simpa using this
set_option maxHeartbeats 1000000 in
theorem readPair_any (w : World) (h : Box w b S fr a tv (.map (some pm0))) (hp : PairsAt w pm0) (hpb : pm0 ≠ b) (ha : a ≤ 80000) (hS : S.size ≤ 100000) :
    Calls Tryz.prog 204 #[.pointer (some ⟨b, 0, none⟩)] w (ByteOr (pairAt S a) (faulty 101 fr) w b S fr a tv (.map (some pm0))) := by
  have HT := Lib.hid (take_any w h (by omega) hS)
  have HD : Hid (∀ (k : Nat) (w1 : World), k ≤ 90000 → Box w1 b S fr k tv (.map (some pm0)) → Calls Tryz.prog 207 #[.pointer (some ⟨b, 0, none⟩)] w1 (ByteOr (match hexB (lookB (restB S k) 0) with | some x => some (x, 1) | none => none) (faulty 101 fr) w1 b S fr k tv (.map (some pm0)))) := fun k w1 hk hb => readDigit16_any w1 hb hk hS
  unfold pairAt
  simp only
  generalize lookB (restB S a) 0 = c at *
  have hlt := c.toNat_lt
  by_cases hx : c = 120
  · subst hx
    clear h hp
    rw [if_pos (by decide)]
    have H1 := fun w1 hb => HD.out (a + 1) w1 (by omega) hb
    have H2 := fun w1 hb => HD.out (a + 2) w1 (by omega) hb
    clear HD
    cases e1 : hexB (lookB (restB S (a + 1)) 0) with
    | none =>
      rw [e1] at H1
      have H1' := Lib.hid H1
      clear e1 H1 H2
      go_enter Tryz.func204, Tryz.ntmps204
      go_wp2_with fail
      refine HT.out.mono ?_
      rintro e w1 ⟨rfl, hb1, hg1⟩
      have HB := Lib.hid (And.intro hb1 hg1)
      clear hb1 hg1
      go_wp2_with fail
      refine (H1'.out w1 HB.out.1).mono ?_
      rintro e w2 (⟨x, n, hx, _⟩ | ⟨_, rfl, hg2⟩)
      · cases hx
      · exact ⟨rfl, .inr ⟨rfl, rfl, grown_trans HB.out.2 hg2⟩⟩
    | some x =>
      rw [e1] at H1
      have H1' := Lib.hid H1
      clear H1
      cases e2 : hexB (lookB (restB S (a + 2)) 0) with
      | none =>
        rw [e2] at H2
        have H2' := Lib.hid H2
        clear e1 e2 H2
        go_enter Tryz.func204, Tryz.ntmps204
        go_wp2_with fail
        refine HT.out.mono ?_
        rintro e w1 ⟨rfl, hb1, hg1⟩
        have HB := Lib.hid (And.intro hb1 hg1)
        clear hb1 hg1
        go_wp2_with fail
        refine (H1'.out w1 HB.out.1).mono ?_
        rintro e w2 (⟨x', n, hx, rfl, hb2, hg2⟩ | ⟨hx, _⟩)
        · injection hx with hx
          injection hx with hx1 hx2
          subst hx1 hx2
          have HB2 := Lib.hid (And.intro hb2 (grown_trans HB.out.2 hg2))
          clear hb2 hg2
          go_wp2_with fail
          refine (H2'.out w2 HB2.out.1).mono ?_
          rintro e w3 (⟨x', n, hx, _⟩ | ⟨_, rfl, hg3⟩)
          · cases hx
          · exact ⟨rfl, .inr ⟨rfl, rfl, grown_trans HB2.out.2 hg3⟩⟩
        · cases hx
      | some y =>
        rw [e2] at H2
        have H2' := Lib.hid H2
        have HV := Lib.hid (pair_value e1 e2)
        have hxl := hex_small e1
        have hyl := hex_small e2
        clear e1 e2 H2
        go_enter Tryz.func204, Tryz.ntmps204
        go_wp2_with fail
        refine HT.out.mono ?_
        rintro e w1 ⟨rfl, hb1, hg1⟩
        have HB := Lib.hid (And.intro hb1 hg1)
        clear hb1 hg1
        go_wp2_with fail
        refine (H1'.out w1 HB.out.1).mono ?_
        rintro e w2 (⟨x', n, hx, rfl, hb2, hg2⟩ | ⟨hx, _⟩)
        · injection hx with hx
          injection hx with hx1 hx2
          subst hx1 hx2
          have HB2 := Lib.hid (And.intro hb2 (grown_trans HB.out.2 hg2))
          clear hb2 hg2
          go_wp2_with fail
          refine (H2'.out w2 HB2.out.1).mono ?_
          rintro e w3 (⟨y', n, hy, rfl, hb3, hg3⟩ | ⟨hy, _⟩)
          · injection hy with hy
            injection hy with hy1 hy2
            subst hy1 hy2
            have HB3 := Lib.hid (And.intro hb3 (grown_trans HB2.out.2 hg3))
            clear hb3 hg3
            go_wp2_with fail
            go_ret
            refine .inl ⟨_, 3, rfl, ?_, HB3.out.1, HB3.out.2⟩
            rw [← HV.out]
            rfl
          · cases hy
        · cases hx
  · have hxb : ((c.toNat : Int) == 120) = false := by
      rw [← Bool.not_eq_true, beq_iff_eq]
      intro hh
      exact hx (UInt8.toNat_inj.1 (by rw [show (120 : UInt8).toNat = 120 from rfl]; omega))
    rw [if_neg (by simpa using hx)]
    clear HD hx
    have hf := pair_find c
    have hz : ∀ w : World, (zeroValue 5).run Tryz.prog w = .ok (.int .u8 0) w := fun w => by kernel_rfl
    have hk := hp
    have hplt : pm0 < w.heap.size := (Array.getElem?_eq_some_iff.1 hp).1
    cases e1 : pairB c with
    | none =>
      rw [e1] at hf
      have HL : Hid (∀ w1 : World, w.grownBy w1 (some b) → (lookup 60 (.map (some pm0)) (.int .u8 (c.toNat : Int)) true).run Tryz.prog w1 = .ok (.tuple #[.int .u8 0, .bool false]) w1) := fun w1 hg =>
        run_lookup_u8_not 60 5 5 w1 pm0 pairEs 5 _ _ Tryz.underlying60 Tryz.underlying5 ((hg.block pm0 hplt (by intro hh; injection hh with hh; exact hpb hh)).trans hp) (hz w1) hf
      clear h hp hf hk hz e1 hpb hplt
      go_enter Tryz.func204, Tryz.ntmps204
      go_wp2_with fail
      refine HT.out.mono ?_
      rintro e w1 ⟨rfl, hb1, hg1⟩
      have HB := Lib.hid (And.intro hb1 hg1)
      have hl := HL.out w1 hg1
      obtain ⟨d0, d1, d2, d3, d4, _, _, _⟩ := hb1
      clear hg1
      go_wp2_with fail
      refine (must_no w1 HB.out.1).mono ?_
      rintro e w2 ⟨rfl, rfl⟩
      exact ⟨rfl, .inr ⟨rfl, rfl, HB.out.2⟩⟩
    | some x =>
      rw [e1] at hf
      obtain ⟨i, hf⟩ := hf
      have HL : Hid (∀ w1 : World, w.grownBy w1 (some b) → (lookup 60 (.map (some pm0)) (.int .u8 (c.toNat : Int)) true).run Tryz.prog w1 = .ok (.tuple #[.int .u8 (x.toNat : Int), .bool true]) w1) := fun w1 hg =>
        run_lookup_u8_there 60 5 5 w1 pm0 pairEs 5 _ i _ Tryz.underlying60 Tryz.underlying5 ((hg.block pm0 hplt (by intro hh; injection hh with hh; exact hpb hh)).trans hp) hf
      clear h hp hf hk hz e1 hpb hplt
      go_enter Tryz.func204, Tryz.ntmps204
      go_wp2_with fail
      refine HT.out.mono ?_
      rintro e w1 ⟨rfl, hb1, hg1⟩
      have HB := Lib.hid (And.intro hb1 hg1)
      have hl := HL.out w1 hg1
      obtain ⟨d0, d1, d2, d3, d4, _, _, _⟩ := hb1
      clear hg1
      go_wp2_with fail
      refine (must_yes w1 b).mono ?_
      rintro e w2 ⟨rfl, rfl⟩
      go_wp2_with fail
      go_ret
      exact .inl ⟨x, 1, rfl, rfl, HB.out.1, HB.out.2⟩
end Go.Proofs.YthhfgjcdopkmgaaGreatDoor
