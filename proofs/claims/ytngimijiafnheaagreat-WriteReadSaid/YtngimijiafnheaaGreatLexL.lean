/- An action's token. -/
import Derived.Test.YtngimijiafnheaaGreatLexK
set_option maxRecDepth 100000
namespace LexT
open Go Go.RowKit
set_option linter.unusedVariables false
/-- What a call that reads a token does: it puts it, and goes on behind it; or it refuses. -/
def TokOr (E : TypeId) (r : Except Nat (Nat × Bs × Nat)) (F : Nat → List PanicEntry) (ts : List Tok) (w : World) (b : Nat) (S : ByteArray) (fr a : Nat) (pm : Value) (e : Ending) (w' : World) : Prop :=
  (∃ k t n, r = .ok (k, t, n) ∧ e = .returned (.tuple #[]) ∧ (∃ tv', St E w' b S fr (a + n) (ts ++ [⟨k, t, fr⟩]) tv' 0 pm) ∧ Nigh b w w') ∨ (∃ c, r = .error c ∧ e = .panicked (F c) ∧ Nigh b w w')
/-- So far the action has gone by; so many are open. -/
structure Acting (w wr : World) (b : Nat) (S : ByteArray) (a p : Nat) (tv : Value) (o : Nat) (pm : Value) : Prop where
  box : Box wr b S a p tv o pm
  gr : w.grownBy wr (some b)
  le : a + 1 ≤ p
  hi : p ≤ S.size
  few : o ≤ p
  eq : actB 0 (restB S a) = if o = 0 then some (p - a) else (actB o (restB S p)).map (· + (p - a))
section
variable {w wr w2 : World} {b a p o n : Nat} {S : ByteArray} {tv pm : Value} {c : UInt8} {r : Bs}
theorem Acting.next (h : Acting w wr b S a p tv o pm) (ho : 1 ≤ o) (hl : restB S p = c :: r) (hp : pieceB c r = some n) (hb : Box w2 b S a (p + n) tv (openB c o) pm) (hg : wr.grownBy w2 (some b)) : Acting w w2 b S a (p + n) tv (openB c o) pm := by
  have hle := h.le
  have hhi := h.hi
  have hn := pieceB_len hp
  have hlen := congrArg List.length hl
  rw [rest_len, List.length_cons] at hlen
  have hop : openB c o ≤ o + 1 := by unfold openB; split <;> (try split) <;> omega
  have hfew := h.few
  refine ⟨hb, grown_trans h.gr hg, by omega, by omega, by omega, ?_⟩
  rw [h.eq, if_neg (by omega), hl, actB_cons, hp]
  simp only
  have hd : (c :: r).drop n = restB S (p + n) := by rw [← hl, drop_rest]
  rw [hd]
  by_cases h0 : openB c o = 0
  · rw [if_pos h0, if_pos h0]; simp; omega
  · rw [if_neg h0, if_neg h0, Option.map_map]
    congr 1
    funext x
    simp only [Function.comp]
    omega
theorem Acting.bad (h : Acting w wr b S a p tv o pm) (ho : 1 ≤ o) (hl : restB S p = [] ∨ ∃ c r, restB S p = c :: r ∧ pieceB c r = none) : actionT (restB S a) = .error 101 := by
  have e : actB 0 (restB S a) = none := by
    rw [h.eq, if_neg (by omega)]
    rcases hl with hl | ⟨c, r, hl, hp⟩
    · rw [hl]; rfl
    · rw [hl, actB_cons, hp]; rfl
  unfold actionT
  rw [e]
theorem Acting.fin (h : Acting w wr b S a p tv 0 pm) (hc : lookB (restB S a) 0 = 123) (ha : a < S.size) : actionT (restB S a) = .ok (9, ((restB S a).take (p - a - 1)).drop 1, p - a) ∧ a + 2 ≤ p := by
  have hle := h.le
  have e : actB 0 (restB S a) = some (p - a) := by rw [h.eq, if_pos rfl]
  refine ⟨by unfold actionT; rw [e], ?_⟩
  rw [rest_cons_look S a ha, hc, actB_first] at e
  cases e1 : actB 1 (restB S (a + 1)) with
  | none => rw [e1] at e; cases e
  | some m =>
    rw [e1] at e
    simp only [Option.map_some, Option.some.injEq] at e
    have := actB_len _ _ _ _ (Nat.le_refl _) e1
    omega
end
theorem inner_eq (l : Bs) (n : Nat) (h : 2 ≤ n) (hl : n ≤ l.length) : (mkS (l.take n)).extract 1 (n - 1) = mkS ((l.take (n - 1)).drop 1) := by
  rw [Go.Lib.extract_eq, mkS_list]
  have : n - 1 - 1 = n - 2 := by omega
  rw [this]
  show mkS _ = mkS _
  congr 1
  rw [List.drop_take, List.drop_take, List.take_take]
  congr 1
  omega
end LexT
namespace Go.Proofs.YtngimijiafnheaaGreat
open Go.Instr Go.RowKit LexT
set_option linter.unusedVariables false
variable {b fr a o : Nat} {S : ByteArray} {tv pm : Value} {m : Nat}
set_option maxHeartbeats 2000000 in
theorem readAction_any (ts : List Tok) (w : World) (h : St 110 w b S a a ts tv 0 (.map (some m))) (hm : ActsAt w m b) (hmb : Hid (m = b + 1)) (ha : a < S.size) (hc : lookB (restB S a) 0 = 123) (hS : S.size ≤ 65536) (hn : ts.length ≤ 100000) :
    Calls Tryz.prog 88 #[.pointer (some ⟨b, 0, none⟩)] w (TokOr 110 (actionT (restB S a)) (fun c => faulty c a) ts w b S a a (.map (some m))) := by
  have HH := Lib.hid h
  have hlt := h.box.lt
  have HM : Hid (∀ w1 : World, w.grownBy w1 (some b) → ActsAt w1 m b) := fun w1 hg => (hg.block m (Array.getElem?_eq_some_iff.1 hm).1 (by have := hmb.out; intro hh; injection hh; omega)).trans hm
  have HW : Hid (∀ (p o : Nat) (w1 : World), p ≤ S.size → o ≤ p → (1 ≤ o ∨ lookB (restB S p) 0 = 123) → w.grownBy w1 (some b) → Box w1 b S a p tv o (.map (some m)) → Calls Tryz.prog 109 #[.pointer (some ⟨b, 0, none⟩)] w1 (WithinOr (restB S p) w1 b S a p tv o (.map (some m)))) := fun p o w1 hp ho hc hg hb => readWithin_any w1 hb (HM.out w1 hg) hmb hp hS (by omega) hc
  have hfirst := rest_cons_look S a ha
  rw [hc] at hfirst
  have HF := Lib.hid hfirst
  have HC := Lib.hid hc
  clear h hm hfirst hc
  go_enter Tryz.func88, Tryz.ntmps88
  go_wp2_with fail
  refine (HW.out a 0 w (by omega) (by omega) (.inr HC.out) (grown_refl _ _) HH.out.box).mono ?_
  rintro e w1 (⟨c, r, n, hl, hp, rfl, hb1, hg1⟩ | ⟨hl, rfl, hg1⟩)
  · have HR : Hid (Acting w w1 b S a (a + 1) tv 1 (.map (some m))) := by
      rw [HF.out] at hl
      injection hl with hl1 hl2
      subst hl1
      have : n = 1 := by simp [pieceB] at hp; omega
      subst this
      refine ⟨hb1, hg1, Nat.le_refl _, by omega, by omega, ?_⟩
      rw [HF.out, actB_first, if_neg (by decide)]
      have : a + 1 - a = 1 := by omega
      rw [this]
    clear hl hp hb1 hg1
    go_wp2_with fail
    go_loopg [5] (S.size + 1 - (a + 1)) (fun g v5 wr => ∃ p o : Nat, g = S.size + 1 - p ∧ Acting w wr b S a p tv o (.map (some m)))
    case atStart => exact ⟨a + 1, 1, rfl, HR.out⟩
    case round =>
      obtain ⟨p, o, hgk, hR⟩ := hrel
      have HGK := Lib.hid hgk
      have hle := hR.le
      have hhi := hR.hi
      have hfew := hR.few
      have HR2 := Lib.hid hR
      obtain ⟨c0, c1, c2, c3, c4, c5, f1, f2, f3, f4⟩ := id hR.box
      clear hgk hR HR c0 c1 c2 c3 c5 f1 f2 f3 f4
      by_cases ho : o = 0
      · subst ho
        obtain ⟨hfin, hp2⟩ := HR2.out.fin HC.out ha
        have HFIN := Lib.hid hfin
        have HT := Lib.hid (taken_any wr HR2.out.box (by omega) hhi (by omega))
        have hlen : ((restB S a).take (p - a)).length = p - a := by rw [List.length_take, rest_len]; omega
        have HIN := Lib.hid (inner_eq (restB S a) (p - a) (by omega) (by rw [rest_len]; omega))
        obtain ⟨s, hs⟩ : ∃ s, mkS ((restB S a).take (p - a)) = s := ⟨_, rfl⟩
        have hsz : s.size = p - a := by rw [← hs, mkS_size, hlen]
        rw [hs] at HT HIN
        have hszI : (s.size : Int) = (p : Int) - (a : Int) := by omega
        have HPUT : Hid (∀ w1 : World, Below wr.heap.size wr w1 → Calls Tryz.prog 57 #[.pointer (some ⟨b, 0, none⟩), .int .u8 9, .string (s.extract 1 (s.size - 1))] w1 (PutPost 9 (((restB S a).take (p - a - 1)).drop 1) ts w1 b S a p 0 (.map (some m)))) := by
          intro w1 hb
          rw [hsz, HIN.out]
          exact put_any 9 _ ts w1 ((HH.out.keep HR2.out.box HR2.out.gr).under hb) (by omega)
        have e1 : IntKind.i64.wrap ((s.size : Int) - 1) = (s.size : Int) - 1 := IntWalk.i64_in _ (by omega)
        have e2 : ((s.size : Int) - 1).toNat = s.size - 1 := by omega
        have e3 : (1 : Int) ≤ (s.size : Int) - 1 := by omega
        have e4 : (s.size : Int) - 1 ≤ (s.size : Int) := by omega
        have e5 : (0 : Int) ≤ (s.size : Int) - 1 := by omega
        clear hs hlen hszI HIN hfin
        have HSZ := Lib.hid hsz
        clear hsz
        go_wp2_with fail
        refine HT.out.mono ?_
        rintro e w2 ⟨rfl, hb2⟩
        have HB2 := Lib.hid hb2
        clear hb2
        go_wp2_with fail
        refine (HPUT.out w2 HB2.out).mono ?_
        rintro e w3 ⟨rfl, hs3, hb3⟩
        have HS3 := Lib.hid (And.intro hs3 hb3)
        clear hs3 hb3
        have HPA : Hid (a + (p - a) = p) := by show _ = _; omega
        go_wp2_with fail
        go_end0
        refine .inl ⟨9, _, p - a, HFIN.out, rfl, by rw [HPA.out]; exact HS3.out.1, ?_⟩
        exact ((nigh_of_grown HR2.out.gr).trans (nigh_of_below HB2.out b)).trans HS3.out.2
      · have ho1 : 1 ≤ o := by omega
        have hoi : (0 : Int) < (o : Int) := by omega
        have e0 : decide ((0 : Int) < (o : Int)) = true := by simp; omega
        go_wp2_with fail
        refine (HW.out p o wr hhi hfew (.inl ho1) HR2.out.gr HR2.out.box).mono ?_
        rintro e w2 (⟨c, r, n, hl, hp, rfl, hb2, hg2⟩ | ⟨hl, rfl, hg2⟩)
        · have HA : Hid (Acting w w2 b S a (p + n) tv (openB c o) (.map (some m))) := HR2.out.next ho1 hl hp hb2 hg2
          have hn := pieceB_len hp
          clear hl hp hb2 hg2
          go_wp2_with fail
          go_roundg (S.size + 1 - (p + n))
          case rel => exact ⟨p + n, openB c o, rfl, HA.out⟩
          case measure => rw [HGK.out]; have := HA.out.hi; omega
        · exact ⟨rfl, .inr ⟨101, HR2.out.bad ho1 hl, rfl, (nigh_of_grown HR2.out.gr).trans (nigh_of_grown hg2)⟩⟩
  · exfalso
    rcases hl with hl | ⟨c, r, hl, hp⟩
    · rw [HF.out] at hl; cases hl
    · rw [HF.out] at hl
      injection hl with hl1 hl2
      subst hl1
      simp [pieceB] at hp
end Go.Proofs.YtngimijiafnheaaGreat
