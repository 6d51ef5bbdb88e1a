/- A string. -/
import Derived.Test.YthhfgjcdopkmgaaGreatDoorScnN
set_option maxRecDepth 100000
namespace ScnT
open Go Go.RowKit
set_option linter.unusedVariables false
theorem look_rest (S : ByteArray) (a n : Nat) : lookB (restB S a) n = lookB (restB S (a + n)) 0 := by
  unfold lookB restB
  simp [List.getD_eq_getElem?_getD, List.getElem?_drop]
theorem rest_cons_look (S : ByteArray) (a : Nat) (h : a < S.size) : restB S a = lookB (restB S a) 0 :: restB S (a + 1) := by
  have := rest_get S a h
  rw [this]
  rfl
theorem said_rest (S : ByteArray) (a : Nat) : saysB (restB S a) = if lookB (restB S a) 0 == 34 then some ([], 1) else match saidAt S a with | none => none | some (v, n) => match saysB (restB S (a + n)) with | none => none | some (t, m) => some (v :: t, m + n) := by
  by_cases hlt : a < S.size
  · have h1 := rest_cons_look S a hlt
    generalize hc : lookB (restB S a) 0 = c at h1
    rw [h1, saysB.eq_def]
    simp only
    by_cases h34 : (c == 34) = true
    · simp [h34]
    · simp only [h34, Bool.false_eq_true, if_false]
      unfold saidAt
      rw [hc]
      simp only
      by_cases h92 : (c == 92) = true
      · simp only [h92, if_true]
        unfold pairAt
        simp only
        by_cases hlt2 : a + 1 < S.size
        · have h2 := rest_cons_look S (a + 1) hlt2
          generalize hd : lookB (restB S (a + 1)) 0 = d at h2
          rw [h2]
          simp only
          by_cases hx : (d == 120) = true
          · simp only [hx, if_true]
            have e1 : a + 1 + 1 = a + 2 := rfl
            have e2 : a + 1 + 2 = a + 3 := rfl
            rw [e1, e2]
            by_cases hlt3 : a + 2 < S.size
            · have h3 := rest_cons_look S (a + 2) hlt3
              generalize hh : lookB (restB S (a + 2)) 0 = x at h3
              rw [h3]
              by_cases hlt4 : a + 3 < S.size
              · have h4 := rest_cons_look S (a + 2 + 1) hlt4
                have e3 : a + 2 + 1 = a + 3 := rfl
                have e4 : a + 3 + 1 = a + 4 := rfl
                rw [e3, e4] at h4
                rw [e3]
                generalize hk : lookB (restB S (a + 3)) 0 = y at h4
                rw [h4]
                simp only
                cases e5 : hexB x <;> cases e6 : hexB y <;> simp
                cases saysB (restB S (a + 4)) <;> simp
              · have e3 : a + 2 + 1 = a + 3 := rfl
                rw [e3, rest_nil S (a + 3) (by omega)]
                have : hexB (lookB [] 0) = none := by decide
                simp only [this]
                cases hexB x <;> simp
            · rw [rest_nil S (a + 2) (by omega)]
              have : hexB (lookB [] 0) = none := by decide
              simp [this]
          · simp only [hx, Bool.false_eq_true, if_false]
            cases pairB d <;> simp
            have e1 : a + 1 + 1 = a + 2 := rfl
            rw [e1]
            cases saysB (restB S (a + 2)) <;> simp
        · rw [rest_nil S (a + 1) (by omega)]
          have e1 : (lookB ([] : Bs) 0 == 120) = false := by decide
          have e2 : pairB (lookB [] 0) = none := by decide
          simp [e1, e2]
      · simp only [h92, Bool.false_eq_true, if_false]
        by_cases hp : isPl c = true
        · simp only [hp, if_true]
          cases saysB (restB S (a + 1)) <;> simp
        · simp [hp]
  · rw [rest_nil S a (by omega)]
    have e0 : (lookB ([] : Bs) 0 == 34) = false := by decide
    have e1 : saidAt S a = none := by
      unfold saidAt
      rw [rest_nil S a (by omega)]
      rfl
    rw [e0, e1]
    rfl
theorem said_pos {S : ByteArray} {a : Nat} {v : UInt8} {n : Nat} (h : saidAt S a = some (v, n)) : 1 ≤ n ∧ n ≤ 4 ∧ a < S.size := by
  have hlt : a < S.size := by
    apply Decidable.byContradiction
    intro hge
    have : saidAt S a = none := by
      unfold saidAt
      rw [rest_nil S a (by omega)]
      rfl
    rw [this] at h
    cases h
  refine ⟨?_, ?_, hlt⟩ <;>
  · unfold saidAt pairAt at h
    simp only at h
    repeat' split at h
    all_goals simp at h
    all_goals try omega
    all_goals
      repeat' split at *
      all_goals simp_all
      all_goals omega
end ScnT
namespace Go.Proofs.YthhfgjcdopkmgaaGreatDoor
open Go.Instr Go.RowKit ScnT
set_option linter.unusedVariables false
variable {b fr a : Nat} {S : ByteArray} {tv pm : Value} {pm0 : Nat}
set_option maxHeartbeats 1000000 in
theorem readSaid_any (w : World) (h : Box w b S fr a tv (.map (some pm0))) (hp : PairsAt w pm0) (hpb : pm0 ≠ b) (ha : a ≤ 70000) (hS : S.size ≤ 100000) :
    Calls Tryz.prog 179 #[.pointer (some ⟨b, 0, none⟩)] w (ByteOr (saidAt S a) (faulty 101 fr) w b S fr a tv (.map (some pm0))) := by
  have HT := Lib.hid (take_any w h (by omega) hS)
  have HP : Hid (∀ w1 : World, w.grownBy w1 (some b) → PairsAt w1 pm0) := fun w1 hg => (hg.block pm0 (Array.getElem?_eq_some_iff.1 hp).1 (by intro hh; injection hh with hh; exact hpb hh)).trans hp
  have HR : Hid (∀ (w1 : World), Box w1 b S fr (a + 1) tv (.map (some pm0)) → PairsAt w1 pm0 → Calls Tryz.prog 204 #[.pointer (some ⟨b, 0, none⟩)] w1 (ByteOr (pairAt S (a + 1)) (faulty 101 fr) w1 b S fr (a + 1) tv (.map (some pm0)))) := fun w1 hb hq => readPair_any w1 hb hq hpb (by omega) hS
  have S1 : Hid (lookB (restB S a) 0 = 92 → ∀ v n, pairAt S (a + 1) = some (v, n) → saidAt S a = some (v, n + 1)) := fun hc v n hv => by simp [saidAt, hc, hv]
  have S2 : Hid (lookB (restB S a) 0 = 92 → pairAt S (a + 1) = none → saidAt S a = none) := fun hc hv => by simp [saidAt, hc, hv]
  have S3 : Hid (¬ lookB (restB S a) 0 = 92 → isPl (lookB (restB S a) 0) = true → saidAt S a = some (lookB (restB S a) 0, 1)) := fun hc hv => by simp [saidAt, hc, hv]
  have S4 : Hid (¬ lookB (restB S a) 0 = 92 → isPl (lookB (restB S a) 0) = false → saidAt S a = none) := fun hc hv => by simp [saidAt, hc, hv]
  clear h hp
  generalize lookB (restB S a) 0 = c at *
  generalize saidAt S a = r at *
  have hlt := c.toNat_lt
  by_cases hx : c = 92
  · subst hx
    go_enter Tryz.func179, Tryz.ntmps179
    go_wp2_with fail
    refine HT.out.mono ?_
    rintro e w1 ⟨rfl, hb1, hg1⟩
    have HB := Lib.hid (And.intro hb1 hg1)
    clear hb1 hg1
    go_wp2_with fail
    refine (HR.out w1 HB.out.1 (HP.out w1 HB.out.2)).mono ?_
    rintro e w2 (⟨v, n, hx, rfl, hb2, hg2⟩ | ⟨hx, rfl, hg2⟩)
    · have HX := Lib.hid hx
      have HB2 := Lib.hid (And.intro hb2 (grown_trans HB.out.2 hg2))
      clear hx hb2 hg2
      go_wp2_with fail
      go_ret
      refine .inl ⟨v, n + 1, S1.out (by first | trivial | rfl) _ _ HX.out, rfl, ?_, HB2.out.2⟩
      have := HB2.out.1
      rwa [show a + 1 + n = a + (n + 1) from by omega] at this
    · exact ⟨rfl, .inr ⟨S2.out (by first | trivial | rfl) hx, rfl, grown_trans HB.out.2 hg2⟩⟩
  · have hxb : ((c.toNat : Int) == 92) = false := by
      rw [← Bool.not_eq_true, beq_iff_eq]
      intro hh
      exact hx (UInt8.toNat_inj.1 (by rw [show (92 : UInt8).toNat = 92 from rfl]; omega))
    have HX := Lib.hid hx
    clear hx
    have HL := Lib.hid (fun ww => isPlain_any c ww)
    cases hpl : isPl c
    · rw [hpl] at HL
      have HQ := Lib.hid hpl
      clear hpl
      go_enter Tryz.func179, Tryz.ntmps179
      go_wp2_with fail
      refine HT.out.mono ?_
      rintro e w1 ⟨rfl, hb1, hg1⟩
      have HB := Lib.hid (And.intro hb1 hg1)
      clear hb1 hg1
      go_wp2_with (go_at_call 205; refine (HL.out _).mono ?_; rintro e w' ⟨rfl, rfl⟩)
      refine (must_no w1 HB.out.1).mono ?_
      rintro e w2 ⟨rfl, rfl⟩
      exact ⟨rfl, .inr ⟨S4.out HX.out HQ.out, rfl, HB.out.2⟩⟩
    · rw [hpl] at HL
      have HQ := Lib.hid hpl
      clear hpl
      go_enter Tryz.func179, Tryz.ntmps179
      go_wp2_with fail
      refine HT.out.mono ?_
      rintro e w1 ⟨rfl, hb1, hg1⟩
      have HB := Lib.hid (And.intro hb1 hg1)
      clear hb1 hg1
      go_wp2_with (go_at_call 205; refine (HL.out _).mono ?_; rintro e w' ⟨rfl, rfl⟩)
      refine (must_yes w1 b).mono ?_
      rintro e w2 ⟨rfl, rfl⟩
      go_wp2_with fail
      go_ret
      exact .inl ⟨c, 1, S3.out HX.out HQ.out, rfl, HB.out.1, HB.out.2⟩
end Go.Proofs.YthhfgjcdopkmgaaGreatDoor
