/- A sign's token. -/
import Derived.Test.YthhfgjcdopkmgaaGreatDoorScnR
set_option maxRecDepth 100000
namespace ScnT
theorem sign_odd {l : Bs} {n : Nat} (h : oddSigns.contains (l.take (n + 1)) = true) : signT l (n + 1) = .error 101 := by rw [signT, if_pos h]
theorem sign_is {l : Bs} {n : Nat} (h : oddSigns.contains (l.take (n + 1)) = false) (h2 : signs.contains (l.take (n + 1)) = true) : signT l (n + 1) = .ok (6, l.take (n + 1), (l.take (n + 1)).length) := by
  rw [signT, if_neg (by rw [h]; decide), if_pos h2]
theorem sign_on {l : Bs} {n : Nat} (h : oddSigns.contains (l.take (n + 1)) = false) (h2 : signs.contains (l.take (n + 1)) = false) : signT l (n + 1) = signT l n := by
  rw [signT, if_neg (by rw [h]; decide), if_neg (by rw [h2]; decide)]
end ScnT
namespace Go.Proofs.YthhfgjcdopkmgaaGreatDoor
open Go.Instr Go.RowKit ScnT
set_option linter.unusedVariables false
variable {b fr a : Nat} {S : ByteArray} {tv pm : Value}
set_option maxHeartbeats 2000000 in
theorem readSign_any (ts : List Tok) (w : World) (h : St 67 w b S fr a ts tv pm) (ha : a ≤ S.size) (hS : S.size ≤ 65536) (hn : ts.length ≤ 100000) :
    Calls Tryz.prog 118 #[.pointer (some ⟨b, 0, none⟩)] w (TokOr 67 (signT (restB S a) 3) (fun c => faulty c fr) ts w b S fr a pm) := by
  have hlt := h.box.lt
  have HH := Lib.hid h
  clear h
  generalize hr : signT (restB S a) 3 = r
  have HR0 := Lib.hid hr
  clear hr
  go_enter Tryz.func118, Tryz.ntmps118
  go_wp2_with fail
  go_loopg [2] 3 (fun g v2 wr => ∃ n : Nat, n ≤ 3 ∧ g = n ∧ v2 = .int .i64 (n : Int) ∧ signT (restB S a) n = r ∧ Below w.heap.size w wr)
  case atStart => exact ⟨3, by omega, rfl, rfl, HR0.out, Below.refl _ _⟩
  case round =>
    obtain ⟨n, hn3, hgk, rfl, hr, hb⟩ := hrel
    have HGK := Lib.hid hgk
    have HR := Lib.hid hr
    have HB := Lib.hid hb
    clear hgk hr hb HR0
    have HST := Lib.hid (HH.out.under HB.out)
    cases n with
    | zero =>
      go_wp2_with fail
      refine (refuse_any 100 wr HST.out.box).mono ?_
      rintro e w1 ⟨rfl, rfl⟩
      exact ⟨rfl, .inr ⟨100, HR.out.symm, rfl, HB.out.mono (Nat.le_of_lt hlt)⟩⟩
    | succ n =>
      have HP := Lib.hid (piece_any (n + 1) wr HST.out.box ha (by omega) (by omega))
      have H1 := Lib.hid (@sign_odd (restB S a) n)
      have H2 := Lib.hid (@sign_is (restB S a) n)
      have H3 := Lib.hid (@sign_on (restB S a) n)
      have htl : ((restB S a).take (n + 1)).length ≤ 3 := by rw [List.length_take]; omega
      generalize (restB S a).take (n + 1) = t at *
      obtain ⟨s, hs⟩ : ∃ s, mkS t = s := ⟨_, rfl⟩
      have hsd : s.data.toList = t := by rw [← hs]; simp
      have hsz : s.size = t.length := by rw [← hs]; simp
      have HPUT : Hid (∀ (w1 : World), St 67 w1 b S fr (a + t.length) ts tv pm → Calls Tryz.prog 52 #[.pointer (some ⟨b, 0, none⟩), .int .u8 6, .string s] w1 (PutPost 6 t ts w1 b S fr (a + t.length) pm)) := by
        intro w1 h1
        rw [← hs]
        exact put_any 6 t ts w1 h1 (by omega) (by omega)
      have HF : Hid (∀ w1, Calls Tryz.prog 181 #[.string s] w1 fun e w' => e = .returned (.bool (oddSigns.contains t)) ∧ w1 = w') := fun w1 => by have := isForeignSign_any s w1; rwa [hsd] at this
      have HI : Hid (∀ w1, Calls Tryz.prog 182 #[.string s] w1 fun e w' => e = .returned (.bool (signs.contains t)) ∧ w1 = w') := fun w1 => by have := isSign_any s w1; rwa [hsd] at this
      rw [hs] at HP
      have HSZ := Lib.hid hsz
      have hszb : s.size ≤ 3 := by omega
      have HSTEP : Hid (∀ w1, Box w1 b S fr a tv pm → Calls Tryz.prog 50 #[.pointer (some ⟨b, 0, none⟩), .int .i64 (s.size : Int)] w1 fun e w' => e = .returned (.tuple #[]) ∧ Box w' b S fr (a + t.length) tv pm ∧ w1.grownBy w' (some b)) := fun w1 hb => by
        rw [← hsz]
        exact step_any s.size w1 hb (by omega) (by omega)
      clear hs hsd hsz htl
      cases h1 : oddSigns.contains t
      · rw [h1] at HF
        cases h2 : signs.contains t
        · rw [h2] at HI
          have HE := Lib.hid (H3.out h1 h2)
          clear h1 h2
          go_wp2_with fail
          refine HP.out.mono ?_
          rintro e w1 ⟨rfl, hb1⟩
          have HB1 := Lib.hid hb1
          clear hb1
          go_wp2_with (go_at_call 181; refine (HF.out _).mono ?_; rintro e w' ⟨rfl, rfl⟩)
          refine (must_yes w1 b).mono ?_
          rintro e w2 ⟨rfl, rfl⟩
          go_wp2_with (go_at_call 182; refine (HI.out _).mono ?_; rintro e w' ⟨rfl, rfl⟩)
          go_roundg n
          case rel => exact ⟨n, by omega, rfl, by go_num, by rw [← HE.out]; exact HR.out, HB.out.trans (HB1.out.mono HB.out.size)⟩
          case measure => rw [HGK.out]; omega
        · rw [h2] at HI
          have HE := Lib.hid (H2.out h1 h2)
          clear h1 h2
          go_wp2_with fail
          refine HP.out.mono ?_
          rintro e w1 ⟨rfl, hb1⟩
          have HB1 := Lib.hid hb1
          clear hb1
          go_wp2_with (go_at_call 181; refine (HF.out _).mono ?_; rintro e w' ⟨rfl, rfl⟩)
          refine (must_yes w1 b).mono ?_
          rintro e w2 ⟨rfl, rfl⟩
          go_wp2_with (go_at_call 182; refine (HI.out _).mono ?_; rintro e w' ⟨rfl, rfl⟩)
          have HBX := Lib.hid (HST.out.box.under HB1.out HST.out.box.lt)
          refine (HSTEP.out w1 HBX.out).mono ?_
          rintro e w3 ⟨rfl, hb3, hg3⟩
          have HB3 := Lib.hid (And.intro hb3 hg3)
          clear hb3 hg3
          go_wp2_with fail
          refine (HPUT.out w3 ((HST.out.under HB1.out).keep HB3.out.1 HB3.out.2)).mono ?_
          rintro e w5 ⟨rfl, hs5, hb5⟩
          have HS5 := Lib.hid (And.intro hs5 hb5)
          clear hs5 hb5
          go_wp2_with fail
          go_end0
          exact .inl ⟨6, t, t.length, by rw [← HE.out]; exact HR.out.symm, rfl, HS5.out.1, (((HB.out.mono (Nat.le_of_lt hlt)).trans (HB1.out.mono (Nat.le_of_lt HST.out.box.lt))).trans (below_of_grownB HB3.out.2 HBX.out.lt)).trans HS5.out.2⟩
      · rw [h1] at HF
        have HE := Lib.hid (H1.out h1)
        clear h1
        go_wp2_with fail
        refine HP.out.mono ?_
        rintro e w1 ⟨rfl, hb1⟩
        have HB1 := Lib.hid hb1
        clear hb1
        go_wp2_with (go_at_call 181; refine (HF.out _).mono ?_; rintro e w' ⟨rfl, rfl⟩)
        refine (must_no w1 (HST.out.box.under HB1.out HST.out.box.lt)).mono ?_
        rintro e w2 ⟨rfl, rfl⟩
        exact ⟨rfl, .inr ⟨101, by rw [← HE.out]; exact HR.out.symm, rfl, (HB.out.mono (Nat.le_of_lt hlt)).trans (HB1.out.mono (Nat.le_of_lt HST.out.box.lt))⟩⟩
end Go.Proofs.YthhfgjcdopkmgaaGreatDoor
