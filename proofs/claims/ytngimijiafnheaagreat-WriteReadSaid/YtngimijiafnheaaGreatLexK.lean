/- What goes by at once within an action; an action's token. -/
import Derived.Test.YtngimijiafnheaaGreatLexJ
set_option maxRecDepth 100000
namespace Go.Proofs.YtngimijiafnheaaGreat
open Go.Instr Go.RowKit LexT
set_option linter.unusedVariables false
variable {b fr a o : Nat} {S : ByteArray} {tv : Value} {m : Nat}
theorem acts_find (c : UInt8) (b : Nat) (h1 : ¬ c = 123) (h2 : ¬ c = 125) (h3 : ¬ c = 34) (h4 : ¬ c = 47) : findNow (.int .u8) (.int .u8 (c.toNat : Int)) (acts b).toList 0 = some none := by
  have g : ∀ k : UInt8, ¬ c = k → ((c.toNat : Int) == (k.toNat : Int)) = false := by
    intro k hk
    rw [← Bool.not_eq_true, beq_iff_eq]
    intro h
    exact hk (UInt8.toNat_inj.1 (by omega))
  have g1 := g 123 h1
  have g2 := g 125 h2
  have g3 := g 34 h3
  have g4 := g 47 h4
  generalize (c.toNat : Int) = n at *
  have e1 : ((123 : UInt8).toNat : Int) = 123 := rfl
  have e2 : ((125 : UInt8).toNat : Int) = 125 := rfl
  have e3 : ((34 : UInt8).toNat : Int) = 34 := rfl
  have e4 : ((47 : UInt8).toNat : Int) = 47 := rfl
  rw [e1] at g1; rw [e2] at g2; rw [e3] at g3; rw [e4] at g4
  simp [acts, findNow, sameNow, g1, g2, g3, g4]
/-- What goes by at once does; or the action is none. -/
def WithinOr (l : Bs) (w : World) (b : Nat) (S : ByteArray) (fr a : Nat) (tv : Value) (o : Nat) (pm : Value) (e : Ending) (w' : World) : Prop :=
  (∃ c r n, l = c :: r ∧ pieceB c r = some n ∧ e = .returned (.tuple #[]) ∧ Box w' b S fr (a + n) tv (openB c o) pm ∧ w.grownBy w' (some b)) ∨ ((l = [] ∨ ∃ c r, l = c :: r ∧ pieceB c r = none) ∧ e = .panicked (faulty 101 fr) ∧ w.grownBy w' (some b))
theorem piece_other {c : UInt8} {r : Bs} (h3 : ¬ c = 34) (h4 : ¬ c = 47) : pieceB c r = some 1 := by simp [pieceB, h3, h4]
theorem open_other {c : UInt8} {o : Nat} (h1 : ¬ c = 123) (h2 : ¬ c = 125) : openB c o = o := by simp [openB, h1, h2]
theorem piece_str (r : Bs) : pieceB 34 r = (strB r).map (· + 1) := rfl
theorem piece_slash (r : Bs) : pieceB 47 r = some (1 + slashB r) := by
  unfold pieceB slashB
  rw [if_neg (by decide), if_pos (by decide)]
  split <;> rfl
set_option maxHeartbeats 2000000 in
theorem readWithin_any (w : World) (h : Box w b S fr a tv o (.map (some m))) (hm : ActsAt w m b) (hmb : Hid (m = b + 1)) (ha : a ≤ S.size) (hS : S.size ≤ 65536) (ho : o ≤ 70000) (hc : 1 ≤ o ∨ lookB (restB S a) 0 = 123) :
    Calls Tryz.prog 109 #[.pointer (some ⟨b, 0, none⟩)] w (WithinOr (restB S a) w b S fr a tv o (.map (some m))) := by
  have HH := Lib.hid h
  obtain ⟨c0, c1, c2, c3, c4, c5, f1, f2, f3, f4⟩ := id h
  clear c0 c1 c2 c3 c4 f1 f2 f3 f4
  by_cases hlt : a < S.size
  · have HT := Lib.hid ((take_in w.drew (h.drawn 1) hlt (by omega)).mono fun e w' (hq : _ ∧ _ ∧ _) => (⟨hq.1, hq.2.1, grown_trans (grown_below (drawn_below w 1) _) hq.2.2⟩ : _ ∧ _ ∧ w.grownBy w' (some b)))
    have hrest := rest_cons_look S a hlt
    have hmw : m < w.heap.size := (Array.getElem?_eq_some_iff.1 hm).1
    have hz : ∀ w : World, (zeroValue 1).run Tryz.prog w = .ok (.nilFunc) w := fun w => by kernel_rfl
    have HLK : Hid (∀ (k : Int) (i : Nat) (v : Value) (w1 : World), findNow (.int .u8) (.int .u8 k) (acts b).toList 0 = some (some (i, v)) → w.grownBy w1 (some b) → (lookup 84 (.map (some m)) (.int .u8 k) true).run Tryz.prog w1 = .ok (.tuple #[v, .bool true]) w1) := fun k i v w1 hf hg =>
      run_lookup_u8_there 84 5 1 w1 m (acts b) 4 k i v Tryz.underlying84 Tryz.underlying5 ((hg.block m hmw (by have := hmb.out; intro hh; injection hh with hh; omega)).trans hm) hf
    have HLN : Hid (∀ (k : Int) (w1 : World), findNow (.int .u8) (.int .u8 k) (acts b).toList 0 = some none → w.grownBy w1 (some b) → (lookup 84 (.map (some m)) (.int .u8 k) true).run Tryz.prog w1 = .ok (.tuple #[.nilFunc, .bool false]) w1) := fun k w1 hf hg =>
      run_lookup_u8_not 84 5 1 w1 m (acts b) 4 k _ Tryz.underlying84 Tryz.underlying5 ((hg.block m hmw (by have := hmb.out; intro hh; injection hh with hh; omega)).trans hm) (hz w1) hf
    clear h hm hz hmw
    generalize lookB (restB S a) 0 = c at *
    have HR := Lib.hid hrest
    clear hrest
    by_cases h1 : c = 123
    · subst h1
      have HL : Hid (∀ w1, w.grownBy w1 (some b) → (lookup 84 (.map (some m)) (.int .u8 123) true).run Tryz.prog w1 = .ok (.tuple #[.func (.func 51) #[.pointer (some ⟨b, 0, none⟩)] #[], .bool true]) w1) := fun w1 hg => HLK.out 123 0 _ w1 rfl hg
      clear HLK HLN
      have HT' : Hid (Calls Tryz.prog 78 #[.pointer (some ⟨b, 0, none⟩)] w.drew fun e w' => e = .returned (.int .u8 123) ∧ Box w' b S fr (a + 1) tv o (.map (some m)) ∧ w.grownBy w' (some b)) := HT.out
      clear HT
      go_enter Tryz.func109, Tryz.ntmps109
      go_wp2_with fail
      go_region_law (go_simp; go_at_call 78; refine HT'.out.mono ?_; rintro e w1 ⟨rfl, hb1, hg1⟩
                     have hl := HL.out w1 hg1
                     have HB := Lib.hid (And.intro hb1 hg1)
                     obtain ⟨d0, d1, d2, d3, d4, d5, e1, e2, e3, e4⟩ := hb1
                     clear d0 d1 d2 d3 d4 e1 e2 e3 e4 hg1)
      all_goals
        go_wp2_with fail
        refine (openBrace_any _ (HB.out.1.keep rfl) (by omega)).mono ?_
        rintro e w2 ⟨rfl, hb2, hg2⟩
        have HB2 := Lib.hid (And.intro hb2 (grown_trans HB.out.2 hg2))
        clear hb2 hg2
        go_wp2_with fail
        go_end0
        exact .inl ⟨123, _, 1, HR.out, rfl, rfl, HB2.out.1, HB2.out.2⟩
    · by_cases h2 : c = 125
      · subst h2
        have ho1 : 1 ≤ o := by rcases hc with hc | hc; exact hc; exact absurd hc (by decide)
        have HL : Hid (∀ w1, w.grownBy w1 (some b) → (lookup 84 (.map (some m)) (.int .u8 125) true).run Tryz.prog w1 = .ok (.tuple #[.func (.func 52) #[.pointer (some ⟨b, 0, none⟩)] #[], .bool true]) w1) := fun w1 hg => HLK.out 125 1 _ w1 rfl hg
        clear HLK HLN h1
        have HT' : Hid (Calls Tryz.prog 78 #[.pointer (some ⟨b, 0, none⟩)] w.drew fun e w' => e = .returned (.int .u8 125) ∧ Box w' b S fr (a + 1) tv o (.map (some m)) ∧ w.grownBy w' (some b)) := HT.out
        clear HT
        go_enter Tryz.func109, Tryz.ntmps109
        go_wp2_with fail
        go_region_law (go_simp; go_at_call 78; refine HT'.out.mono ?_; rintro e w1 ⟨rfl, hb1, hg1⟩
                       have hl := HL.out w1 hg1
                       have HB := Lib.hid (And.intro hb1 hg1)
                       obtain ⟨d0, d1, d2, d3, d4, d5, e1, e2, e3, e4⟩ := hb1
                       clear d0 d1 d2 d3 d4 e1 e2 e3 e4 hg1)
        all_goals
          go_wp2_with fail
          refine (closeBrace_any _ (HB.out.1.keep rfl) (by omega) ho1).mono ?_
          rintro e w2 ⟨rfl, hb2, hg2⟩
          have HB2 := Lib.hid (And.intro hb2 (grown_trans HB.out.2 hg2))
          clear hb2 hg2
          go_wp2_with fail
          go_end0
          exact .inl ⟨125, _, 1, HR.out, rfl, rfl, HB2.out.1, HB2.out.2⟩
      · by_cases h3 : c = 34
        · subst h3
          have HL : Hid (∀ w1, w.grownBy w1 (some b) → (lookup 84 (.map (some m)) (.int .u8 34) true).run Tryz.prog w1 = .ok (.tuple #[.func (.func 53) #[.pointer (some ⟨b, 0, none⟩)] #[], .bool true]) w1) := fun w1 hg => HLK.out 34 2 _ w1 rfl hg
          clear HLK HLN h1 h2 hc
          have HT' : Hid (Calls Tryz.prog 78 #[.pointer (some ⟨b, 0, none⟩)] w.drew fun e w' => e = .returned (.int .u8 34) ∧ Box w' b S fr (a + 1) tv o (.map (some m)) ∧ w.grownBy w' (some b)) := HT.out
          clear HT
          go_enter Tryz.func109, Tryz.ntmps109
          go_wp2_with fail
          go_region_law (go_simp; go_at_call 78; refine HT'.out.mono ?_; rintro e w1 ⟨rfl, hb1, hg1⟩
                         have hl := HL.out w1 hg1
                         have HB := Lib.hid (And.intro hb1 hg1)
                         obtain ⟨d0, d1, d2, d3, d4, d5, e1, e2, e3, e4⟩ := hb1
                         clear d0 d1 d2 d3 d4 e1 e2 e3 e4 hg1)
          all_goals
            go_wp2_with fail
            refine (passString_any _ (HB.out.1.keep rfl) (by omega) hS).mono ?_
            rintro e w2 (⟨n, hn, rfl, hb2, hg2⟩ | ⟨hn, rfl, hg2⟩)
            · have HB2 := Lib.hid (And.intro hn (And.intro hb2 (grown_trans HB.out.2 hg2)))
              clear hn hb2 hg2
              go_wp2_with fail
              go_end0
              refine .inl ⟨34, _, n + 1, HR.out, ?_, rfl, ?_, HB2.out.2.2⟩
              · rw [piece_str, HB2.out.1]; rfl
              · have := HB2.out.2.1
                rwa [show a + 1 + n = a + (n + 1) from by omega] at this
            · exact ⟨rfl, .inr ⟨.inr ⟨34, _, HR.out, by rw [piece_str, hn]; rfl⟩, rfl, grown_trans HB.out.2 hg2⟩⟩
        · by_cases h4 : c = 47
          · subst h4
            have HL : Hid (∀ w1, w.grownBy w1 (some b) → (lookup 84 (.map (some m)) (.int .u8 47) true).run Tryz.prog w1 = .ok (.tuple #[.func (.func 54) #[.pointer (some ⟨b, 0, none⟩)] #[], .bool true]) w1) := fun w1 hg => HLK.out 47 3 _ w1 rfl hg
            clear HLK HLN h1 h2 h3 hc
            have HT' : Hid (Calls Tryz.prog 78 #[.pointer (some ⟨b, 0, none⟩)] w.drew fun e w' => e = .returned (.int .u8 47) ∧ Box w' b S fr (a + 1) tv o (.map (some m)) ∧ w.grownBy w' (some b)) := HT.out
            clear HT
            go_enter Tryz.func109, Tryz.ntmps109
            go_wp2_with fail
            go_region_law (go_simp; go_at_call 78; refine HT'.out.mono ?_; rintro e w1 ⟨rfl, hb1, hg1⟩
                           have hl := HL.out w1 hg1
                           have HB := Lib.hid (And.intro hb1 hg1)
                           obtain ⟨d0, d1, d2, d3, d4, d5, e1, e2, e3, e4⟩ := hb1
                           clear d0 d1 d2 d3 d4 e1 e2 e3 e4 hg1)
            all_goals
              go_wp2_with fail
              refine (passSlash_any _ (HB.out.1.keep rfl) (by omega) (by omega)).mono ?_
              rintro e w2 ⟨rfl, hb2, hg2⟩
              have HB2 := Lib.hid (And.intro hb2 (grown_trans HB.out.2 hg2))
              clear hb2 hg2
              go_wp2_with fail
              go_end0
              refine .inl ⟨47, _, 1 + slashB (restB S (a + 1)), HR.out, piece_slash _, rfl, ?_, HB2.out.2⟩
              have := HB2.out.1
              rwa [Nat.add_assoc] at this
          · have HL : Hid (∀ w1, w.grownBy w1 (some b) → (lookup 84 (.map (some m)) (.int .u8 (c.toNat : Int)) true).run Tryz.prog w1 = .ok (.tuple #[.nilFunc, .bool false]) w1) := fun w1 hg => HLN.out _ w1 (acts_find c b h1 h2 h3 h4) hg
            have HP : Hid (∀ r, pieceB c r = some 1) := fun r => piece_other h3 h4
            have HO : Hid (openB c o = o) := open_other h1 h2
            have HT' := HT
            clear HLK HLN h1 h2 h3 h4 hc HT
            go_enter Tryz.func109, Tryz.ntmps109
            go_wp2_with fail
            go_region_law (go_simp; go_at_call 78; refine HT'.out.mono ?_; rintro e w1 ⟨rfl, hb1, hg1⟩
                           have hl := HL.out w1 hg1
                           have HB := Lib.hid (And.intro hb1 hg1)
                           obtain ⟨d0, d1, d2, d3, d4, d5, e1, e2, e3, e4⟩ := hb1
                           clear d0 d1 d2 d3 d4 e1 e2 e3 e4 hg1)
            all_goals
              go_wp2_with fail
              go_end0
              refine .inl ⟨c, _, 1, HR.out, HP.out _, rfl, ?_, HB.out.2⟩
              rw [HO.out]
              exact HB.out.1.keep rfl
  · have HT' := Lib.hid (take_out w.drew (h.drawn 1) (show a = S.size by omega))
    have HE : Hid (restB S a = []) := rest_nil S a (by omega)
    clear h hm hc
    go_enter Tryz.func109, Tryz.ntmps109
    go_wp2_with fail
    go_region_with ((go_at_call 78; refine HT'.out.mono ?_; rintro e w1 ⟨rfl, hg1⟩; (suffices hz : wpAny Tryz.prog .any #[] (fun _ _ _ => True) 0 #[] ⟨#[], []⟩ w1 by (refine ⟨rfl, ?_⟩; exact (show WithinOr (restB S a) w b S fr a tv o (.map (some m)) _ _ from (.inr ⟨.inl HE.out, rfl, grown_trans (grown_below (drawn_below w 1) _) hg1⟩))))))
    all_goals trivial
end Go.Proofs.YtngimijiafnheaaGreat
