/- How far bytes go by. -/
import Derived.Test.YthhfgjcdopkmgaaGreatDoorScnG
set_option maxRecDepth 100000
namespace ScnT
open Go Go.RowKit
set_option linter.unusedVariables false
def notNL (c : UInt8) : Bool := c != 10
/-- k bytes have gone by. -/
structure Passed (p : UInt8 → Bool) (w wr : World) (b : Nat) (S : ByteArray) (fr a k : Nat) (tv pm : Value) : Prop where
  box : Box wr b S fr k tv pm
  gr : w.grownBy wr (some b)
  eq : (restB S a).takeWhile p = (restB S a).take (k - a) ++ (restB S k).takeWhile p
  le : a ≤ k
def PassPost (p : UInt8 → Bool) (w : World) (b : Nat) (S : ByteArray) (fr a : Nat) (tv pm : Value) (e : Ending) (w' : World) : Prop :=
  e = .returned (.string (mkS ((restB S a).takeWhile p))) ∧ Box w' b S fr (a + ((restB S a).takeWhile p).length) tv pm ∧ w.grownBy w' (some b)
section
variable {p : UInt8 → Bool} {w wr : World} {b fr a k : Nat} {S : ByteArray} {tv pm : Value}
theorem Box.drawn (h : Box w b S fr k tv pm) (n : Nat) : Box (w.drewN n) b S fr k tv pm := h.keep rfl
theorem Passed.start (h : Box w b S fr a tv pm) : Passed p w w b S fr a a tv pm := ⟨h, ⟨rfl, rfl, rfl, Nat.le_refl _, fun _ _ _ => rfl⟩, by simp, Nat.le_refl _⟩
theorem Passed.next (h : Passed p w wr b S fr a k tv pm) (hlt : k < S.size) (hp : p S[k] = true) : ∀ (nq : Nat) (w2 : World), Box w2 b S fr (k + 1) tv pm → (wr.drewN nq).grownBy w2 (some b) → Passed p w w2 b S fr a (k + 1) tv pm := by
  intro nq w2 hb hg
  have hle := h.le
  refine ⟨hb, grown_trans (grown_trans h.gr (grown_below (drawn_below _ _) _)) hg, ?_, by omega⟩
  have h1 := rest_get S k hlt
  have h2 : (restB S a).take (k + 1 - a) = (restB S a).take (k - a) ++ [S[k]] := by
    unfold restB
    have e1 : k + 1 - a = k - a + 1 := by omega
    have e2 : a + (k - a) = k := by omega
    rw [e1, List.take_add_one, List.getElem?_drop, e2, List.getElem?_eq_getElem (by simpa using hlt)]
    rfl
  rw [h.eq, h1, List.takeWhile_cons, if_pos hp, h2, List.append_assoc]
  rfl
theorem Passed.take_eq (h : Passed p w wr b S fr a k tv pm) (h0 : (restB S k).takeWhile p = []) (hk : k ≤ S.size) : (restB S a).takeWhile p = (restB S a).take (k - a) ∧ ((restB S a).takeWhile p).length = k - a := by
  have hle := h.le
  have h1 := h.eq
  rw [h0, List.append_nil] at h1
  refine ⟨h1, ?_⟩
  rw [h1, List.length_take, rest_len]
  omega
/-- What is left to say at the end. -/
structure PassEnd (p : UInt8 → Bool) (w wr : World) (b : Nat) (S : ByteArray) (fr a k : Nat) (tv pm : Value) : Prop where
  post : ∀ n m : Nat, PassPost p w b S fr a tv pm (.returned (.string (S.extract a k))) ((wr.drewN n).drewN m)
theorem Passed.fin (h : Passed p w wr b S fr a k tv pm) (h0 : (restB S k).takeWhile p = []) (hk : k ≤ S.size) : PassEnd p w wr b S fr a k tv pm := by
  obtain ⟨h1, h2⟩ := h.take_eq h0 hk
  refine ⟨fun n m => ⟨?_, ?_, ?_⟩⟩
  · rw [h1, Lib.extract_eq]
    rfl
  · have hle := h.le
    have e : a + (k - a) = k := by omega
    rw [h2, e]; exact h.box.keep rfl
  · exact ⟨h.gr.os, h.gr.tape, h.gr.output, h.gr.size, h.gr.block⟩
theorem Passed.stop_in (h : Passed p w wr b S fr a k tv pm) (hlt : k < S.size) (hp : p S[k] = false) : PassEnd p w wr b S fr a k tv pm :=
  h.fin (by rw [rest_get S _ hlt, List.takeWhile_cons, hp]; rfl) (by omega)
theorem Passed.stop_out (h : Passed p w wr b S fr a k tv pm) (hle : k = S.size) : PassEnd p w wr b S fr a k tv pm :=
  h.fin (by rw [rest_nil S _ (by omega)]; rfl) (by omega)
theorem PassEnd.finish (h : PassEnd p w wr b S fr a k tv pm) (n m : Nat) {e : Ending} {w' : World} (he : e = .returned (.string (S.extract a k))) (hw : w' = (wr.drewN n).drewN m) : PassPost p w b S fr a tv pm e w' := by
  subst he hw
  exact h.post n m
end
end ScnT
namespace Go.Proofs.YthhfgjcdopkmgaaGreatDoor
open Go.Instr Go.RowKit ScnT
set_option linter.unusedVariables false
variable {b fr a : Nat} {S : ByteArray} {tv pm : Value}
theorem notNL_any (c : UInt8) (w : World) : Calls Tryz.prog 108 #[.int .u8 c.toNat] w fun e w' => e = .returned (.bool (notNL c)) ∧ w = w' := notEnd_any c w
theorem flipW {P : Program} {f : FuncId} {args : Array Value} {w : World} {v : Value} (h : Calls P f args w fun e w' => e = .returned v ∧ w = w') : Calls P f args w fun e w' => e = .returned v ∧ w' = w := h.mono fun _ _ ⟨h1, h2⟩ => ⟨h1, h2.symm⟩
theorem atEnd_false (w : World) (h : Box w b S fr a tv pm) (ha : a < S.size) : Calls Tryz.prog 110 #[.pointer (some ⟨b, 0, none⟩)] w fun e w' => e = .returned (.bool false) ∧ ∃ n, w' = w.drewN n := by
  have := atEnd_any w h
  rwa [show decide (a = S.size) = false from by simp; omega] at this
theorem atEnd_true (w : World) (h : Box w b S fr a tv pm) (ha : a = S.size) : Calls Tryz.prog 110 #[.pointer (some ⟨b, 0, none⟩)] w fun e w' => e = .returned (.bool true) ∧ ∃ n, w' = w.drewN n := by
  have := atEnd_any w h
  rwa [show decide (a = S.size) = true from by simp [ha]] at this
theorem step_1 (w : World) (h : Box w b S fr a tv pm) (ha : a ≤ 100000) :
    Calls Tryz.prog 50 #[.pointer (some ⟨b, 0, none⟩), .int .i64 1] w fun e w' => e = .returned (.tuple #[]) ∧ Box w' b S fr (a + 1) tv pm ∧ w.grownBy w' (some b) := by
  simpa using step_any 1 w h ha (by omega)

set_option maxHeartbeats 1000000 in
theorem pass_blank (w : World) (h : Box w b S fr a tv pm) (ha : a ≤ S.size) (hS : S.size ≤ 100000) :
    Calls Tryz.prog 105 #[.pointer (some ⟨b, 0, none⟩), .func (.func 106) #[] #[]] w (PassPost isBl w b S fr a tv pm) := by
  have HH := Lib.hid h
  obtain ⟨c0, c1, c2, c3, c4, f1, f2, f3⟩ := h
  go_enter Tryz.func105, Tryz.ntmps105
  go_wp2_with fail
  go_loopg [10] (S.size - a) (fun g v10 wr => ∃ k : Nat, k ≤ S.size ∧ g = S.size - k ∧ Passed isBl w wr b S fr a k tv pm)
  case atStart => exact ⟨a, by omega, rfl, Passed.start HH.out⟩
  case round =>
    obtain ⟨k, hk, hgk, hP⟩ := hrel
    have HGK := Lib.hid hgk
    clear hgk
    obtain ⟨d0, d1, d2, d3, d4, e1, e2, e3⟩ := hP.box
    have hak : a ≤ k := hP.le
    have hak' : (a : Int) ≤ (k : Int) := by omega
    have HP := Lib.hid hP
    clear hP c0 c1 c2 c3 c4 f1 f2 f3
    by_cases hlt : k < S.size
    · have hlt' : (k : Int) < (S.size : Int) := by omega
      have hE := atEnd_any wr HP.out.box
      have hE0 : decide (k = S.size) = false := by simp; omega
      rw [hE0] at hE
      have HE := Lib.hid hE
      have HC := Lib.hid (fun ww => flipW (isBlank_any S[k] ww))
      clear hE hE0
      cases hp : isBl S[k]
      · rw [hp] at HC
        have HN := Lib.hid (HP.out.stop_in hlt hp)
        clear hp
        go_wp2_with fail
        go_quiet ((first | (go_at_call 110; exact Calls.quiet_of (atEnd_false _ (HP.out.box.drawn _) hlt)) | (go_at_call 106; exact Calls.quiet_of_same (HC.out _))))
        go_wp2_with fail
        go_quiet (fail)
        go_wp2_with fail
        go_ret
        exact HN.out.finish _ _ rfl rfl
      · rw [hp] at HC
        have HN := Lib.hid (HP.out.next hlt hp)
        clear hp
        go_wp2_with fail
        go_quiet ((first | (go_at_call 110; exact Calls.quiet_of (atEnd_false _ (HP.out.box.drawn _) hlt)) | (go_at_call 106; exact Calls.quiet_of_same (HC.out _))))
        go_wp2_with (go_at_call 50; refine (step_1 _ (HP.out.box.drawn _) (by omega)).mono ?_)
        rintro e w2 ⟨rfl, hb2, hg2⟩
        go_wp2_with fail
        go_roundg (S.size - (k + 1))
        case rel => exact ⟨k + 1, by omega, rfl, HN.out _ w2 hb2 hg2⟩
        case measure => rw [HGK.out]; omega
    · have hle : S.size ≤ k := by omega
      have HN := Lib.hid (HP.out.stop_out (by omega))
      have HKS : Hid (k = S.size) := by show k = S.size; omega
      clear hle
      go_wp2_with fail
      go_quiet ((go_at_call 110; exact Calls.quiet_of (atEnd_true _ (HP.out.box.drawn _) HKS.out)))
      go_wp2_with fail
      go_quiet (fail)
      go_wp2_with fail
      go_ret
      exact HN.out.finish _ _ rfl rfl

set_option maxHeartbeats 1000000 in
theorem pass_line (w : World) (h : Box w b S fr a tv pm) (ha : a ≤ S.size) (hS : S.size ≤ 100000) :
    Calls Tryz.prog 105 #[.pointer (some ⟨b, 0, none⟩), .func (.func 108) #[] #[]] w (PassPost notNL w b S fr a tv pm) := by
  have HH := Lib.hid h
  obtain ⟨c0, c1, c2, c3, c4, f1, f2, f3⟩ := h
  go_enter Tryz.func105, Tryz.ntmps105
  go_wp2_with fail
  go_loopg [10] (S.size - a) (fun g v10 wr => ∃ k : Nat, k ≤ S.size ∧ g = S.size - k ∧ Passed notNL w wr b S fr a k tv pm)
  case atStart => exact ⟨a, by omega, rfl, Passed.start HH.out⟩
  case round =>
    obtain ⟨k, hk, hgk, hP⟩ := hrel
    have HGK := Lib.hid hgk
    clear hgk
    obtain ⟨d0, d1, d2, d3, d4, e1, e2, e3⟩ := hP.box
    have hak : a ≤ k := hP.le
    have hak' : (a : Int) ≤ (k : Int) := by omega
    have HP := Lib.hid hP
    clear hP c0 c1 c2 c3 c4 f1 f2 f3
    by_cases hlt : k < S.size
    · have hlt' : (k : Int) < (S.size : Int) := by omega
      have hE := atEnd_any wr HP.out.box
      have hE0 : decide (k = S.size) = false := by simp; omega
      rw [hE0] at hE
      have HE := Lib.hid hE
      have HC := Lib.hid (fun ww => flipW (notNL_any S[k] ww))
      clear hE hE0
      cases hp : notNL S[k]
      · rw [hp] at HC
        have HN := Lib.hid (HP.out.stop_in hlt hp)
        clear hp
        go_wp2_with fail
        go_quiet ((first | (go_at_call 110; exact Calls.quiet_of (atEnd_false _ (HP.out.box.drawn _) hlt)) | (go_at_call 108; exact Calls.quiet_of_same (HC.out _))))
        go_wp2_with fail
        go_quiet (fail)
        go_wp2_with fail
        go_ret
        exact HN.out.finish _ _ rfl rfl
      · rw [hp] at HC
        have HN := Lib.hid (HP.out.next hlt hp)
        clear hp
        go_wp2_with fail
        go_quiet ((first | (go_at_call 110; exact Calls.quiet_of (atEnd_false _ (HP.out.box.drawn _) hlt)) | (go_at_call 108; exact Calls.quiet_of_same (HC.out _))))
        go_wp2_with (go_at_call 50; refine (step_1 _ (HP.out.box.drawn _) (by omega)).mono ?_)
        rintro e w2 ⟨rfl, hb2, hg2⟩
        go_wp2_with fail
        go_roundg (S.size - (k + 1))
        case rel => exact ⟨k + 1, by omega, rfl, HN.out _ w2 hb2 hg2⟩
        case measure => rw [HGK.out]; omega
    · have hle : S.size ≤ k := by omega
      have HN := Lib.hid (HP.out.stop_out (by omega))
      have HKS : Hid (k = S.size) := by show k = S.size; omega
      clear hle
      go_wp2_with fail
      go_quiet ((go_at_call 110; exact Calls.quiet_of (atEnd_true _ (HP.out.box.drawn _) HKS.out)))
      go_wp2_with fail
      go_quiet (fail)
      go_wp2_with fail
      go_ret
      exact HN.out.finish _ _ rfl rfl

set_option maxHeartbeats 1000000 in
theorem pass_digit (w : World) (h : Box w b S fr a tv pm) (ha : a ≤ S.size) (hS : S.size ≤ 100000) :
    Calls Tryz.prog 105 #[.pointer (some ⟨b, 0, none⟩), .func (.func 114) #[] #[]] w (PassPost isDg w b S fr a tv pm) := by
  have HH := Lib.hid h
  obtain ⟨c0, c1, c2, c3, c4, f1, f2, f3⟩ := h
  go_enter Tryz.func105, Tryz.ntmps105
  go_wp2_with fail
  go_loopg [10] (S.size - a) (fun g v10 wr => ∃ k : Nat, k ≤ S.size ∧ g = S.size - k ∧ Passed isDg w wr b S fr a k tv pm)
  case atStart => exact ⟨a, by omega, rfl, Passed.start HH.out⟩
  case round =>
    obtain ⟨k, hk, hgk, hP⟩ := hrel
    have HGK := Lib.hid hgk
    clear hgk
    obtain ⟨d0, d1, d2, d3, d4, e1, e2, e3⟩ := hP.box
    have hak : a ≤ k := hP.le
    have hak' : (a : Int) ≤ (k : Int) := by omega
    have HP := Lib.hid hP
    clear hP c0 c1 c2 c3 c4 f1 f2 f3
    by_cases hlt : k < S.size
    · have hlt' : (k : Int) < (S.size : Int) := by omega
      have hE := atEnd_any wr HP.out.box
      have hE0 : decide (k = S.size) = false := by simp; omega
      rw [hE0] at hE
      have HE := Lib.hid hE
      have HC := Lib.hid (fun ww => flipW (isDigit_any S[k] ww))
      clear hE hE0
      cases hp : isDg S[k]
      · rw [hp] at HC
        have HN := Lib.hid (HP.out.stop_in hlt hp)
        clear hp
        go_wp2_with fail
        go_quiet ((first | (go_at_call 110; exact Calls.quiet_of (atEnd_false _ (HP.out.box.drawn _) hlt)) | (go_at_call 114; exact Calls.quiet_of_same (HC.out _))))
        go_wp2_with fail
        go_quiet (fail)
        go_wp2_with fail
        go_ret
        exact HN.out.finish _ _ rfl rfl
      · rw [hp] at HC
        have HN := Lib.hid (HP.out.next hlt hp)
        clear hp
        go_wp2_with fail
        go_quiet ((first | (go_at_call 110; exact Calls.quiet_of (atEnd_false _ (HP.out.box.drawn _) hlt)) | (go_at_call 114; exact Calls.quiet_of_same (HC.out _))))
        go_wp2_with (go_at_call 50; refine (step_1 _ (HP.out.box.drawn _) (by omega)).mono ?_)
        rintro e w2 ⟨rfl, hb2, hg2⟩
        go_wp2_with fail
        go_roundg (S.size - (k + 1))
        case rel => exact ⟨k + 1, by omega, rfl, HN.out _ w2 hb2 hg2⟩
        case measure => rw [HGK.out]; omega
    · have hle : S.size ≤ k := by omega
      have HN := Lib.hid (HP.out.stop_out (by omega))
      have HKS : Hid (k = S.size) := by show k = S.size; omega
      clear hle
      go_wp2_with fail
      go_quiet ((go_at_call 110; exact Calls.quiet_of (atEnd_true _ (HP.out.box.drawn _) HKS.out)))
      go_wp2_with fail
      go_quiet (fail)
      go_wp2_with fail
      go_ret
      exact HN.out.finish _ _ rfl rfl

set_option maxHeartbeats 1000000 in
theorem pass_name (w : World) (h : Box w b S fr a tv pm) (ha : a ≤ S.size) (hS : S.size ≤ 100000) :
    Calls Tryz.prog 105 #[.pointer (some ⟨b, 0, none⟩), .func (.func 174) #[] #[]] w (PassPost isLd w b S fr a tv pm) := by
  have HH := Lib.hid h
  obtain ⟨c0, c1, c2, c3, c4, f1, f2, f3⟩ := h
  go_enter Tryz.func105, Tryz.ntmps105
  go_wp2_with fail
  go_loopg [10] (S.size - a) (fun g v10 wr => ∃ k : Nat, k ≤ S.size ∧ g = S.size - k ∧ Passed isLd w wr b S fr a k tv pm)
  case atStart => exact ⟨a, by omega, rfl, Passed.start HH.out⟩
  case round =>
    obtain ⟨k, hk, hgk, hP⟩ := hrel
    have HGK := Lib.hid hgk
    clear hgk
    obtain ⟨d0, d1, d2, d3, d4, e1, e2, e3⟩ := hP.box
    have hak : a ≤ k := hP.le
    have hak' : (a : Int) ≤ (k : Int) := by omega
    have HP := Lib.hid hP
    clear hP c0 c1 c2 c3 c4 f1 f2 f3
    by_cases hlt : k < S.size
    · have hlt' : (k : Int) < (S.size : Int) := by omega
      have hE := atEnd_any wr HP.out.box
      have hE0 : decide (k = S.size) = false := by simp; omega
      rw [hE0] at hE
      have HE := Lib.hid hE
      have HC := Lib.hid (fun ww => flipW (letterDigit_any S[k] ww))
      clear hE hE0
      cases hp : isLd S[k]
      · rw [hp] at HC
        have HN := Lib.hid (HP.out.stop_in hlt hp)
        clear hp
        go_wp2_with fail
        go_quiet ((first | (go_at_call 110; exact Calls.quiet_of (atEnd_false _ (HP.out.box.drawn _) hlt)) | (go_at_call 174; exact Calls.quiet_of_same (HC.out _))))
        go_wp2_with fail
        go_quiet (fail)
        go_wp2_with fail
        go_ret
        exact HN.out.finish _ _ rfl rfl
      · rw [hp] at HC
        have HN := Lib.hid (HP.out.next hlt hp)
        clear hp
        go_wp2_with fail
        go_quiet ((first | (go_at_call 110; exact Calls.quiet_of (atEnd_false _ (HP.out.box.drawn _) hlt)) | (go_at_call 174; exact Calls.quiet_of_same (HC.out _))))
        go_wp2_with (go_at_call 50; refine (step_1 _ (HP.out.box.drawn _) (by omega)).mono ?_)
        rintro e w2 ⟨rfl, hb2, hg2⟩
        go_wp2_with fail
        go_roundg (S.size - (k + 1))
        case rel => exact ⟨k + 1, by omega, rfl, HN.out _ w2 hb2 hg2⟩
        case measure => rw [HGK.out]; omega
    · have hle : S.size ≤ k := by omega
      have HN := Lib.hid (HP.out.stop_out (by omega))
      have HKS : Hid (k = S.size) := by show k = S.size; omega
      clear hle
      go_wp2_with fail
      go_quiet ((go_at_call 110; exact Calls.quiet_of (atEnd_true _ (HP.out.box.drawn _) HKS.out)))
      go_wp2_with fail
      go_quiet (fail)
      go_wp2_with fail
      go_ret
      exact HN.out.finish _ _ rfl rfl
end Go.Proofs.YthhfgjcdopkmgaaGreatDoor
