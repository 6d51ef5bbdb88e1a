/- A string's token. -/
import Derived.Test.YthhfgjcdopkmgaaGreatDoorScnO
set_option maxRecDepth 100000
namespace ScnT
open Go Go.RowKit
set_option linter.unusedVariables false
/-- What a call that reads a token does: it puts it, and goes on behind it; or it refuses. -/
def TokOr (E : TypeId) (r : Except Nat (Nat × Bs × Nat)) (F : Nat → List PanicEntry) (ts : List Tok) (w : World) (b : Nat) (S : ByteArray) (fr a : Nat) (pm : Value) (e : Ending) (w' : World) : Prop :=
  (∃ k t n, r = .ok (k, t, n) ∧ e = .returned (.tuple #[]) ∧ (∃ tv', St E w' b S fr (a + n) (ts ++ [⟨k, t, fr⟩]) tv' pm) ∧ Below b w w') ∨ (∃ c, r = .error c ∧ e = .panicked (F c) ∧ Below b w w')
/-- The builder's part: what has been said. -/
structure Rs (w wr : World) (TB TE b : Nat) (S : ByteArray) (fr a q : Nat) (acc : Bs) (tv pm : Value) : Prop where
  box : Box wr b S fr q tv pm
  gr : w.grownBy wr (some b)
  bld : Lib.IsBuilder TB TE w.heap.size w.heap.size (Lib.byteCells acc) wr
  eq : saysB (restB S (a + 1)) = (saysB (restB S q)).map fun x => (acc ++ x.1, x.2 + (q - (a + 1)))
  len : acc.length ≤ q
  le : a + 1 ≤ q
  hi : q ≤ S.size + 5
theorem grown_of_belowB {w x y : World} {b : Nat} (hg : w.grownBy x (some b)) (hb : Below w.heap.size x y) : w.grownBy y (some b) :=
  ⟨hb.os.trans hg.os, hb.tape.trans hg.tape, hb.output.trans hg.output, Nat.le_trans hg.size hb.size, fun k hk hne => (hb.block k hk).trans (hg.block k hk hne)⟩
theorem below_of_grownB {w y : World} {b : Nat} (hg : w.grownBy y (some b)) (hb : b < w.heap.size) : Below b w y := (Below.refl _ _).grown hg (by omega) (fun g hh => by injection hh; omega)
end ScnT
namespace Go.Proofs.YthhfgjcdopkmgaaGreatDoor
open Go.Instr Go.RowKit ScnT
set_option linter.unusedVariables false
variable {b fr a : Nat} {S : ByteArray} {tv pm : Value} {pm0 : Nat}
theorem string_end {q : Nat} {acc : Bs} (h : saysB (restB S (a + 1)) = (saysB (restB S q)).map fun x => (acc ++ x.1, x.2 + (q - (a + 1)))) (h34 : (lookB (restB S q) 0 == 34) = true) (hle : a + 1 ≤ q) (ha : a < S.size) : stringT (restB S a) = .ok (5, acc, q + 1 - a) := by
  rw [said_rest S q, if_pos h34] at h
  unfold stringT
  have e : (restB S a).drop 1 = restB S (a + 1) := by unfold restB; rw [List.drop_drop]
  rw [e, h]
  simp only [Option.map_some, List.append_nil]
  have : 1 + (q - (a + 1)) + 1 = q + 1 - a := by omega
  rw [this]
theorem string_none {q : Nat} {acc : Bs} (h : saysB (restB S (a + 1)) = (saysB (restB S q)).map fun x => (acc ++ x.1, x.2 + (q - (a + 1)))) (h34 : (lookB (restB S q) 0 == 34) = false) (hs : saidAt S q = none) : stringT (restB S a) = .error 101 := by
  rw [said_rest S q, h34, hs] at h
  unfold stringT
  have e : (restB S a).drop 1 = restB S (a + 1) := by unfold restB; rw [List.drop_drop]
  rw [e, h]
  rfl
theorem string_next {q n : Nat} {v : UInt8} {acc : Bs} (h : saysB (restB S (a + 1)) = (saysB (restB S q)).map fun x => (acc ++ x.1, x.2 + (q - (a + 1)))) (h34 : (lookB (restB S q) 0 == 34) = false) (hs : saidAt S q = some (v, n)) (hle : a + 1 ≤ q) :
    saysB (restB S (a + 1)) = (saysB (restB S (q + n))).map fun x => (acc ++ [v] ++ x.1, x.2 + (q + n - (a + 1))) := by
  rw [said_rest S q, h34, hs] at h
  rw [h]
  simp only [Bool.false_eq_true, if_false]
  cases saysB (restB S (q + n)) <;> simp
  omega
set_option maxHeartbeats 2000000 in
theorem readString_any (ts : List Tok) (w : World) (h : St 67 w b S fr a ts tv (.map (some pm0))) (hp : PairsAt w pm0) (hpb : pm0 < b) (ha : a < S.size) (hS : S.size ≤ 65536) (hn : ts.length ≤ 100000) :
    Calls Tryz.prog 116 #[.pointer (some ⟨b, 0, none⟩)] w (TokOr 67 (stringT (restB S a)) (fun c => faulty c fr) ts w b S fr a (.map (some pm0))) := by
  have HH := Lib.hid h
  have hlt := h.box.lt
  have HP := Lib.hid hp
  clear h hp
  have hb0 : Below w.heap.size w (w.alloc (.cells #[.pointer none, .slice none 0 0] 41)) := (Below.refl _ _).alloc (Nat.le_refl _) _
  have HB0 := Lib.hid hb0
  have HI : Hid (Lib.IsBuilder 41 5 w.heap.size w.heap.size (Lib.byteCells []) (w.alloc (.cells #[.pointer none, .slice none 0 0] 41))) := Lib.fresh_isBuilder 41 5 w
  clear hb0
  go_enter Tryz.func116, Tryz.ntmps116
  go_wp2_with fail
  refine (step_1 _ (HH.out.box.under HB0.out hlt) (by omega)).mono ?_
  rintro e w1 ⟨rfl, hb1, hg1⟩
  have HR : Hid (Rs w w1 41 5 b S fr a (a + 1) [] tv (.map (some pm0))) := by
    refine ⟨hb1, grown_trans (grown_below HB0.out _) hg1, isBuilder_kept HI.out hg1 hlt, ?_, Nat.zero_le _, Nat.le_refl _, by omega⟩
    cases saysB (restB S (a + 1)) <;> simp
  clear hb1 hg1
  go_wp2_with fail
  go_loopg [7] (S.size + 8 - (a + 1)) (fun g v7 wr => ∃ (q : Nat) (acc : Bs), g = S.size + 8 - q ∧ Rs w wr 41 5 b S fr a q acc tv (.map (some pm0)))
  case atStart => exact ⟨a + 1, [], rfl, HR.out⟩
  case round =>
    obtain ⟨q, acc, hgk, hR⟩ := hrel
    have HGK := Lib.hid hgk
    have hq := hR.hi
    have HR2 := Lib.hid hR
    clear hgk hR HR
    have hwr : w.heap.size ≤ wr.heap.size := HR2.out.gr.size
    have HL := Lib.hid (look_any 0 wr HR2.out.box (by omega) (by omega) (by omega))
    cases h34 : (lookB (restB S q) 0 == 34)
    · have h34' : (((lookB (restB S q) 0).toNat : Int) != 34) = true := by
        simp only [bne_iff_ne, ne_eq]
        intro hh
        have : lookB (restB S q) 0 = 34 := UInt8.toNat_inj.1 (by rw [show (34 : UInt8).toNat = 34 from rfl]; omega)
        rw [this] at h34
        exact absurd h34 (by decide)
      have H34 := Lib.hid h34
      clear h34
      go_wp2_with fail
      refine HL.out.mono ?_
      rintro e w2 ⟨rfl, hb2⟩
      have HB2 := Lib.hid hb2
      clear hb2
      go_wp2_with fail
      have HBX := Lib.hid (HR2.out.box.under HB2.out HR2.out.box.lt)
      have HPX : Hid (PairsAt w2 pm0) := (HB2.out.block pm0 (by omega)).trans ((HR2.out.gr.block pm0 (by omega) (by intro hh; injection hh; omega)).trans HP.out)
      refine (readSaid_any w2 HBX.out HPX.out (by omega) (by omega) (by omega)).mono ?_
      rintro e w3 (⟨v, n, hs, rfl, hb3, hg3⟩ | ⟨hs, rfl, hg3⟩)
      · have HS := Lib.hid hs
        have hpos := said_pos hs
        have HB3 := Lib.hid (And.intro hb3 hg3)
        clear hs hb3 hg3
        go_wp2_with fail
        have HBD := Lib.hid (isBuilder_kept (isBuilder_kept HR2.out.bld (grown_below HB2.out (some b)) hlt) HB3.out.2 hlt)
        have hw3 : w.heap.size ≤ w3.heap.size := by have := HB2.out.size; have := HB3.out.2.size; omega
        refine (WriteByte_any w.heap.size w.heap.size (Lib.byteCells acc) (v.toNat : Int) w3 HBD.out (by have := HR2.out.len; simp [Lib.byteCells]; omega) hw3).mono ?_
        rintro e w4 ⟨rfl, hi4, hb4⟩
        have HB4 := Lib.hid (And.intro hi4 hb4)
        clear hi4 hb4
        go_wp2_with fail
        go_roundg (S.size + 8 - (q + n))
        case rel =>
          refine ⟨q + n, acc ++ [v], rfl, ?_⟩
          refine ⟨HB3.out.1.under HB4.out.2 hlt, grown_of_belowB (grown_trans (grown_trans HR2.out.gr (grown_below HB2.out _)) HB3.out.2) HB4.out.2, ?_, string_next HR2.out.eq H34.out HS.out HR2.out.le, ?_, ?_, ?_⟩
          · have := HB4.out.1
            simpa [Lib.byteCells] using this
          · have := HR2.out.len; simp; omega
          · have := HR2.out.le; omega
          · omega
        case measure => rw [HGK.out]; omega
      · have HS := Lib.hid hs
        clear hs
        refine ⟨rfl, .inr ⟨101, string_none HR2.out.eq H34.out HS.out, rfl, below_of_grownB (grown_trans (grown_trans HR2.out.gr (grown_below HB2.out _)) hg3) hlt⟩⟩
    · have h34' : (((lookB (restB S q) 0).toNat : Int) != 34) = false := by
        rw [beq_iff_eq] at h34
        rw [h34]
        rfl
      have H34 := Lib.hid h34
      clear h34
      go_wp2_with fail
      refine HL.out.mono ?_
      rintro e w2 ⟨rfl, hb2⟩
      have HB2 := Lib.hid hb2
      clear hb2
      go_wp2_with fail
      have HBX := Lib.hid (HR2.out.box.under HB2.out HR2.out.box.lt)
      refine (step_1 w2 HBX.out (by omega)).mono ?_
      rintro e w3 ⟨rfl, hb3, hg3⟩
      have HB3 := Lib.hid (And.intro hb3 hg3)
      clear hb3 hg3
      go_wp2_with fail
      have HBD := Lib.hid (isBuilder_kept (isBuilder_kept HR2.out.bld (grown_below HB2.out (some b)) hlt) HB3.out.2 hlt)
      have hw3 : w.heap.size ≤ w3.heap.size := by have := HB2.out.size; have := HB3.out.2.size; omega
      refine (String_any w.heap.size w.heap.size acc w3 HBD.out hw3).mono ?_
      rintro e w4 ⟨rfl, hb4⟩
      have HB4 := Lib.hid hb4
      clear hb4
      go_wp2_with fail
      have HG : Hid (w.grownBy w4 (some b)) := grown_of_belowB (grown_trans (grown_trans HR2.out.gr (grown_below HB2.out _)) HB3.out.2) HB4.out
      have HST : Hid (St 67 w4 b S fr (q + 1) ts tv (.map (some pm0))) := HH.out.keep (HB3.out.1.under HB4.out hlt) HG.out
      refine (put_any 5 acc ts w4 HST.out (by omega) (by omega)).mono ?_
      rintro e w5 ⟨rfl, hs5, hb5⟩
      have HS5 := Lib.hid hs5
      have HB5 := Lib.hid hb5
      clear hs5 hb5
      go_wp2_with fail
      go_end0
      have hle := HR2.out.le
      refine .inl ⟨5, acc, q + 1 - a, string_end HR2.out.eq H34.out hle ha, rfl, ?_, (below_of_grownB HG.out hlt).trans HB5.out⟩
      have := HS5.out
      rwa [show a + (q + 1 - a) = q + 1 from by omega]
end Go.Proofs.YthhfgjcdopkmgaaGreatDoor
