/- Where in a source one is: the place's calls; how far bytes go by. -/
import Derived.Test.YtngimijiafnheaaGreatLexE
import Derived.Deep.QuietTactic
import Derived.BigQuiet
import Derived.Deep.Draws
set_option maxRecDepth 100000
namespace LexT
open Go Go.RowKit
set_option linter.unusedVariables false
/-- What is left of a source. -/
def restB (S : ByteArray) (a : Nat) : Bs := S.data.toList.drop a
/-- The reader's memory. -/
structure Box (w : World) (b : Nat) (S : ByteArray) (fr a : Nat) (tv : Value) (o : Nat) (pm : Value) : Prop where
  c0 : w.cell? ⟨b, 0, none⟩ = some (.string S)
  c1 : w.cell? ⟨b, 1, none⟩ = some (.int .i64 (fr : Int))
  c2 : w.cell? ⟨b, 2, none⟩ = some (.int .i64 (a : Int))
  c3 : w.cell? ⟨b, 3, none⟩ = some tv
  c4 : w.cell? ⟨b, 4, none⟩ = some (.int .i64 (o : Int))
  c5 : w.cell? ⟨b, 5, none⟩ = some pm
  f1 : w.frozen? ⟨b, 1, none⟩ = false
  f2 : w.frozen? ⟨b, 2, none⟩ = false
  f3 : w.frozen? ⟨b, 3, none⟩ = false
  f4 : w.frozen? ⟨b, 4, none⟩ = false
section
variable {w w' : World} {b fr a o : Nat} {S : ByteArray} {tv pm : Value}
theorem Box.keep (h : Box w b S fr a tv o pm) (hw : w'.heap[b]? = w.heap[b]?) : Box w' b S fr a tv o pm :=
  ⟨(World.cell?_of_block hw).trans h.c0, (World.cell?_of_block hw).trans h.c1, (World.cell?_of_block hw).trans h.c2, (World.cell?_of_block hw).trans h.c3, (World.cell?_of_block hw).trans h.c4, (World.cell?_of_block hw).trans h.c5, (World.frozen?_of_block hw).trans h.f1, (World.frozen?_of_block hw).trans h.f2, (World.frozen?_of_block hw).trans h.f3, (World.frozen?_of_block hw).trans h.f4⟩
theorem Box.lt (h : Box w b S fr a tv o pm) : b < w.heap.size := World.block_lt_of_cell? _ _ h.c0
theorem Box.under {B : Nat} (h : Box w b S fr a tv o pm) (hb : Below B w w') (hB : b < B) : Box w' b S fr a tv o pm := h.keep (hb.block b hB)
theorem Box.drawn (h : Box w b S fr a tv o pm) (n : Nat) : Box (w.drewN n) b S fr a tv o pm := h.keep rfl
theorem Box.step (h : Box w b S fr a tv o pm) (a' : Nat) : Box (w.setCell ⟨b, 2, none⟩ (.int .i64 (a' : Int))) b S fr a' tv o pm := by
  obtain ⟨c0, c1, c2, c3, c4, c5, f1, f2, f3, f4⟩ := h
  constructor <;> simp [go_sem, c0, c1, c2, c3, c4, c5, f1, f2, f3, f4]
theorem Box.begin_ (h : Box w b S fr a tv o pm) : Box (w.setCell ⟨b, 1, none⟩ (.int .i64 (a : Int))) b S a a tv o pm := by
  obtain ⟨c0, c1, c2, c3, c4, c5, f1, f2, f3, f4⟩ := h
  constructor <;> simp [go_sem, c0, c1, c2, c3, c4, c5, f1, f2, f3, f4]
theorem Box.put (h : Box w b S fr a tv o pm) (tv' : Value) : Box (w.setCell ⟨b, 3, none⟩ tv') b S fr a tv' o pm := by
  obtain ⟨c0, c1, c2, c3, c4, c5, f1, f2, f3, f4⟩ := h
  constructor <;> simp [go_sem, c0, c1, c2, c3, c4, c5, f1, f2, f3, f4]
theorem Box.turn (h : Box w b S fr a tv o pm) (o' : Nat) : Box (w.setCell ⟨b, 4, none⟩ (.int .i64 (o' : Int))) b S fr a tv o' pm := by
  obtain ⟨c0, c1, c2, c3, c4, c5, f1, f2, f3, f4⟩ := h
  constructor <;> simp [go_sem, c0, c1, c2, c3, c4, c5, f1, f2, f3, f4]
theorem grown_set (w : World) (b o : Nat) (v : Value) : w.grownBy (w.setCell ⟨b, o, none⟩ v) (some b) :=
  ⟨rfl, rfl, rfl, by simp [World.setCell], fun k hk hne => Below.heap_setCell _ _ _ _ (by rintro rfl; exact hne rfl)⟩
theorem grown_trans {x y z : World} {r : Option Nat} (h1 : x.grownBy y r) (h2 : y.grownBy z r) : x.grownBy z r :=
  ⟨h2.os.trans h1.os, h2.tape.trans h1.tape, h2.output.trans h1.output, Nat.le_trans h1.size h2.size, fun k hk hne => (h2.block k (Nat.lt_of_lt_of_le hk h1.size) hne).trans (h1.block k hk hne)⟩
theorem grown_refl (x : World) (r : Option Nat) : x.grownBy x r := ⟨rfl, rfl, rfl, Nat.le_refl _, fun _ _ _ => rfl⟩
theorem grown_below {x y : World} (h : Below x.heap.size x y) (row : Option Nat) : x.grownBy y row := ⟨h.os, h.tape, h.output, h.size, fun i hi _ => h.block i hi⟩
theorem drawn_below (w : World) (n : Nat) : Below w.heap.size w (w.drewN n) := ⟨rfl, rfl, rfl, Nat.le_refl _, fun _ _ => rfl⟩
/-- Nothing but the reader itself has changed of what lies up to its map. -/
structure Nigh (b : Nat) (w w' : World) : Prop where
  os : w'.os = w.os
  tape : w'.tape = w.tape
  output : w'.output = w.output
  size : w.heap.size ≤ w'.heap.size
  block : ∀ k, k < w.heap.size → k < b + 2 → k ≠ b → w'.heap[k]? = w.heap[k]?
theorem Nigh.refl (b : Nat) (w : World) : Nigh b w w := ⟨rfl, rfl, rfl, Nat.le_refl _, fun _ _ _ _ => rfl⟩
theorem Nigh.trans {b : Nat} {x y z : World} (h1 : Nigh b x y) (h2 : Nigh b y z) : Nigh b x z :=
  ⟨h2.os.trans h1.os, h2.tape.trans h1.tape, h2.output.trans h1.output, Nat.le_trans h1.size h2.size, fun k hk h3 h4 => (h2.block k (Nat.lt_of_lt_of_le hk h1.size) h3 h4).trans (h1.block k hk h3 h4)⟩
theorem nigh_of_below {x y : World} (h : Below x.heap.size x y) (b : Nat) : Nigh b x y := ⟨h.os, h.tape, h.output, h.size, fun k hk _ _ => h.block k hk⟩
theorem nigh_of_grown {x y : World} {b : Nat} (h : x.grownBy y (some b)) : Nigh b x y := ⟨h.os, h.tape, h.output, h.size, fun k hk _ hn => h.block k hk (by intro hh; injection hh with hh; exact hn hh)⟩
theorem Nigh.below {b : Nat} {x y : World} (h : Nigh b x y) (hb : b ≤ x.heap.size) : Below b x y := ⟨h.os, h.tape, h.output, h.size, fun k hk => h.block k (by omega) (by omega) (by omega)⟩
theorem below_of_grownB {w y : World} {b : Nat} (hg : w.grownBy y (some b)) (hb : b < w.heap.size) : Below b w y := (Below.refl _ _).grown hg (by omega) (fun g hh => by injection hh; omega)
theorem rest_get (S : ByteArray) (a : Nat) (h : a < S.size) : restB S a = S[a] :: restB S (a + 1) := by
  unfold restB
  rw [List.drop_eq_getElem_cons (by simpa using h)]
  rfl
theorem rest_nil (S : ByteArray) (a : Nat) (h : S.size ≤ a) : restB S a = [] := by
  unfold restB
  exact List.drop_of_length_le (by simpa using h)
theorem look_in (S : ByteArray) (a n : Nat) (h : a + n < S.size) : lookB (restB S a) n = S[a + n] := by
  unfold lookB restB
  rw [List.getD_eq_getElem?_getD, List.getElem?_drop, List.getElem?_eq_getElem (by simpa using h)]
  rfl
theorem look_here (S : ByteArray) (a : Nat) (h : a < S.size) : lookB (restB S a) 0 = S[a] := by rw [rest_get S a h]; rfl
theorem rest_len (S : ByteArray) (a : Nat) : (restB S a).length = S.size - a := by simp [restB]
theorem drop_rest (S : ByteArray) (a n : Nat) : (restB S a).drop n = restB S (a + n) := by unfold restB; rw [List.drop_drop]
/-- k bytes have gone by. -/
structure Passed (p : UInt8 → Bool) (w wr : World) (b : Nat) (S : ByteArray) (fr a k : Nat) (tv : Value) (o : Nat) (pm : Value) : Prop where
  box : Box wr b S fr k tv o pm
  gr : w.grownBy wr (some b)
  eq : ((restB S a).takeWhile p).length = (k - a) + ((restB S k).takeWhile p).length
  le : a ≤ k
def PassPost (p : UInt8 → Bool) (w : World) (b : Nat) (S : ByteArray) (fr a : Nat) (tv : Value) (o : Nat) (pm : Value) (e : Ending) (w' : World) : Prop :=
  e = .returned (.tuple #[]) ∧ Box w' b S fr (a + ((restB S a).takeWhile p).length) tv o pm ∧ w.grownBy w' (some b)
variable {p : UInt8 → Bool} {wr : World} {k : Nat}
theorem Passed.start (h : Box w b S fr a tv o pm) : Passed p w w b S fr a a tv o pm := ⟨h, grown_refl _ _, by simp, Nat.le_refl _⟩
theorem Passed.next (h : Passed p w wr b S fr a k tv o pm) (hlt : k < S.size) (hp : p S[k] = true) : ∀ (nq : Nat) (w2 : World), Box w2 b S fr (k + 1) tv o pm → (wr.drewN nq).grownBy w2 (some b) → Passed p w w2 b S fr a (k + 1) tv o pm := by
  intro nq w2 hb hg
  have hle := h.le
  refine ⟨hb, grown_trans (grown_trans h.gr (grown_below (drawn_below _ _) _)) hg, ?_, by omega⟩
  have h1 := rest_get S k hlt
  rw [h.eq, h1, List.takeWhile_cons, if_pos hp, List.length_cons]
  omega
/-- What is left to say at the end. -/
structure PassEnd (p : UInt8 → Bool) (w wr : World) (b : Nat) (S : ByteArray) (fr a k : Nat) (tv : Value) (o : Nat) (pm : Value) : Prop where
  post : ∀ n : Nat, PassPost p w b S fr a tv o pm (.returned (.tuple #[])) (wr.drewN n)
theorem Passed.fin (h : Passed p w wr b S fr a k tv o pm) (h0 : (restB S k).takeWhile p = []) : PassEnd p w wr b S fr a k tv o pm := by
  refine ⟨fun n => ⟨rfl, ?_, ⟨h.gr.os, h.gr.tape, h.gr.output, h.gr.size, h.gr.block⟩⟩⟩
  have hle := h.le
  have e : a + ((restB S a).takeWhile p).length = k := by rw [h.eq, h0, List.length_nil]; omega
  rw [e]; exact h.box.keep rfl
theorem Passed.stop_in (h : Passed p w wr b S fr a k tv o pm) (hlt : k < S.size) (hp : p S[k] = false) : PassEnd p w wr b S fr a k tv o pm :=
  h.fin (by rw [rest_get S _ hlt, List.takeWhile_cons, hp]; rfl)
theorem Passed.stop_out (h : Passed p w wr b S fr a k tv o pm) (hle : k = S.size) : PassEnd p w wr b S fr a k tv o pm :=
  h.fin (by rw [rest_nil S _ (by omega)]; rfl)
theorem PassEnd.finish (h : PassEnd p w wr b S fr a k tv o pm) (n : Nat) {e : Ending} {w' : World} (he : e = .returned (.tuple #[])) (hw : w' = wr.drewN n) : PassPost p w b S fr a tv o pm e w' := by
  subst he hw
  exact h.post n
end
end LexT
namespace Go.Proofs.YtngimijiafnheaaGreat
open Go.Instr Go.RowKit LexT
set_option linter.unusedVariables false
variable {b fr a o : Nat} {S : ByteArray} {tv pm : Value}
theorem flipW {P : Program} {f : FuncId} {args : Array Value} {w : World} {v : Value} (h : Calls P f args w fun e w' => e = .returned v ∧ w = w') : Calls P f args w fun e w' => e = .returned v ∧ w' = w := h.mono fun _ _ ⟨h1, h2⟩ => ⟨h1, h2.symm⟩
theorem step_any (n : Nat) (w : World) (h : Box w b S fr a tv o pm) (ha : a ≤ 100000) (hn : n ≤ 100000) :
    Calls Tryz.prog 104 #[.pointer (some ⟨b, 0, none⟩), .int .i64 n] w fun e w' => e = .returned (.tuple #[]) ∧ Box w' b S fr (a + n) tv o pm ∧ w.grownBy w' (some b) := by
  have HB := Lib.hid h
  obtain ⟨c0, c1, c2, c3, c4, c5, f1, f2, f3, f4⟩ := h
  go_enter Tryz.func104, Tryz.ntmps104
  go_wp2_with fail
  go_end0
  refine ⟨rfl, ?_, grown_set _ _ _ _⟩
  have := HB.out.step (a + n)
  simpa using this
theorem begin_any (w : World) (h : Box w b S fr a tv o pm) :
    Calls Tryz.prog 84 #[.pointer (some ⟨b, 0, none⟩)] w fun e w' => e = .returned (.tuple #[]) ∧ Box w' b S a a tv o pm ∧ w.grownBy w' (some b) := by
  have HB := Lib.hid h
  obtain ⟨c0, c1, c2, c3, c4, c5, f1, f2, f3, f4⟩ := h
  go_enter Tryz.func84, Tryz.ntmps84
  go_wp2_with fail
  go_end0
  exact ⟨rfl, HB.out.begin_, grown_set _ _ _ _⟩
theorem atEnd_any (w : World) (h : Box w b S fr a tv o pm) :
    Calls Tryz.prog 85 #[.pointer (some ⟨b, 0, none⟩)] w fun e w' => e = .returned (.bool (decide (a = S.size))) ∧ ∃ n, w' = w.drewN n := by
  obtain ⟨c0, c1, c2, c3, c4, c5, f1, f2, f3, f4⟩ := h
  go_enter Tryz.func85, Tryz.ntmps85
  go_wp2_with fail
  go_quiet (fail)
  go_wp2_with fail
  go_ret
  refine ⟨ret_bool (by rw [Bool.eq_iff_iff]; simp; omega), _, rfl⟩
theorem atEnd_false (w : World) (h : Box w b S fr a tv o pm) (ha : a < S.size) : Calls Tryz.prog 85 #[.pointer (some ⟨b, 0, none⟩)] w fun e w' => e = .returned (.bool false) ∧ ∃ n, w' = w.drewN n := by
  have := atEnd_any w h
  rwa [show decide (a = S.size) = false from by simp; omega] at this
theorem atEnd_true (w : World) (h : Box w b S fr a tv o pm) (ha : a = S.size) : Calls Tryz.prog 85 #[.pointer (some ⟨b, 0, none⟩)] w fun e w' => e = .returned (.bool true) ∧ ∃ n, w' = w.drewN n := by
  have := atEnd_any w h
  rwa [show decide (a = S.size) = true from by simp [ha]] at this
theorem step_1 (w : World) (h : Box w b S fr a tv o pm) (ha : a ≤ 100000) :
    Calls Tryz.prog 104 #[.pointer (some ⟨b, 0, none⟩), .int .i64 1] w fun e w' => e = .returned (.tuple #[]) ∧ Box w' b S fr (a + 1) tv o pm ∧ w.grownBy w' (some b) := by
  simpa using step_any 1 w h ha (by omega)
theorem taken_any (w : World) (h : Box w b S fr a tv o pm) (hf : fr ≤ a) (ha : a ≤ S.size) (hS : S.size ≤ 100000) :
    Calls Tryz.prog 108 #[.pointer (some ⟨b, 0, none⟩)] w fun e w' => e = .returned (.string (mkS ((restB S fr).take (a - fr)))) ∧ Below w.heap.size w w' := by
  obtain ⟨c0, c1, c2, c3, c4, c5, f1, f2, f3, f4⟩ := h
  have HE := Lib.hid (Lib.extract_eq S fr a)
  go_enter Tryz.func108, Tryz.ntmps108
  go_wp2_with fail
  go_quiet (fail)
  go_wp2_with fail
  go_ret
  exact ⟨by rw [HE.out]; rfl, drawn_below _ _⟩

set_option maxHeartbeats 1000000 in
theorem pass_blank (w : World) (h : Box w b S fr a tv o pm) (ha : a ≤ S.size) (hS : S.size ≤ 100000) :
    Calls Tryz.prog 82 #[.pointer (some ⟨b, 0, none⟩), .func (.func 83) #[] #[]] w (PassPost isBl w b S fr a tv o pm) := by
  have HH := Lib.hid h
  obtain ⟨c0, c1, c2, c3, c4, c5, f1, f2, f3, f4⟩ := h
  go_enter Tryz.func82, Tryz.ntmps82
  go_wp2_with fail
  go_loopg [4] (S.size - a) (fun g v4 wr => ∃ k : Nat, k ≤ S.size ∧ g = S.size - k ∧ Passed isBl w wr b S fr a k tv o pm)
  case atStart => exact ⟨a, by omega, rfl, Passed.start HH.out⟩
  case round =>
    obtain ⟨k, hk, hgk, hP⟩ := hrel
    have HGK := Lib.hid hgk
    clear hgk
    obtain ⟨d0, d1, d2, d3, d4, d5, e1, e2, e3, e4⟩ := hP.box
    have hak : a ≤ k := hP.le
    have hak' : (a : Int) ≤ (k : Int) := by omega
    have HP := Lib.hid hP
    clear hP c0 c1 c2 c3 c4 c5 f1 f2 f3 f4
    by_cases hlt : k < S.size
    · have hlt' : (k : Int) < (S.size : Int) := by omega
      have HC := Lib.hid (fun ww => flipW (isBlank_any S[k] ww))
      cases hp : isBl S[k]
      · rw [hp] at HC
        have HN := Lib.hid (HP.out.stop_in hlt hp)
        clear hp
        go_wp2_with fail
        go_quiet ((first | (go_at_call 85; exact Calls.quiet_of (atEnd_false _ (HP.out.box.drawn _) hlt)) | (go_at_call 83; exact Calls.quiet_of_same (HC.out _))))
        go_wp2_with fail
        go_end0
        exact HN.out.finish _ rfl rfl
      · rw [hp] at HC
        have HN := Lib.hid (HP.out.next hlt hp)
        clear hp
        go_wp2_with fail
        go_quiet ((first | (go_at_call 85; exact Calls.quiet_of (atEnd_false _ (HP.out.box.drawn _) hlt)) | (go_at_call 83; exact Calls.quiet_of_same (HC.out _))))
        go_wp2_with (go_at_call 104; refine (step_1 _ (HP.out.box.drawn _) (by omega)).mono ?_)
        rintro e w2 ⟨rfl, hb2, hg2⟩
        go_wp2_with fail
        go_roundg (S.size - (k + 1))
        case rel => exact ⟨k + 1, by omega, rfl, HN.out _ w2 hb2 hg2⟩
        case measure => rw [HGK.out]; omega
    · have hle : S.size ≤ k := by omega
      have HN := Lib.hid (HP.out.stop_out (by omega))
      have HKS : Hid (k = S.size) := by show k = S.size; omega
      clear hle
      go_wp2_with fail
      go_quiet ((go_at_call 85; exact Calls.quiet_of (atEnd_true _ (HP.out.box.drawn _) HKS.out)))
      go_wp2_with fail
      go_end0
      exact HN.out.finish _ rfl rfl

set_option maxHeartbeats 1000000 in
theorem pass_line (w : World) (h : Box w b S fr a tv o pm) (ha : a ≤ S.size) (hS : S.size ≤ 100000) :
    Calls Tryz.prog 82 #[.pointer (some ⟨b, 0, none⟩), .func (.func 106) #[] #[]] w (PassPost notNL w b S fr a tv o pm) := by
  have HH := Lib.hid h
  obtain ⟨c0, c1, c2, c3, c4, c5, f1, f2, f3, f4⟩ := h
  go_enter Tryz.func82, Tryz.ntmps82
  go_wp2_with fail
  go_loopg [4] (S.size - a) (fun g v4 wr => ∃ k : Nat, k ≤ S.size ∧ g = S.size - k ∧ Passed notNL w wr b S fr a k tv o pm)
  case atStart => exact ⟨a, by omega, rfl, Passed.start HH.out⟩
  case round =>
    obtain ⟨k, hk, hgk, hP⟩ := hrel
    have HGK := Lib.hid hgk
    clear hgk
    obtain ⟨d0, d1, d2, d3, d4, d5, e1, e2, e3, e4⟩ := hP.box
    have hak : a ≤ k := hP.le
    have hak' : (a : Int) ≤ (k : Int) := by omega
    have HP := Lib.hid hP
    clear hP c0 c1 c2 c3 c4 c5 f1 f2 f3 f4
    by_cases hlt : k < S.size
    · have hlt' : (k : Int) < (S.size : Int) := by omega
      have HC := Lib.hid (fun ww => flipW (notNL_any S[k] ww))
      cases hp : notNL S[k]
      · rw [hp] at HC
        have HN := Lib.hid (HP.out.stop_in hlt hp)
        clear hp
        go_wp2_with fail
        go_quiet ((first | (go_at_call 85; exact Calls.quiet_of (atEnd_false _ (HP.out.box.drawn _) hlt)) | (go_at_call 106; exact Calls.quiet_of_same (HC.out _))))
        go_wp2_with fail
        go_end0
        exact HN.out.finish _ rfl rfl
      · rw [hp] at HC
        have HN := Lib.hid (HP.out.next hlt hp)
        clear hp
        go_wp2_with fail
        go_quiet ((first | (go_at_call 85; exact Calls.quiet_of (atEnd_false _ (HP.out.box.drawn _) hlt)) | (go_at_call 106; exact Calls.quiet_of_same (HC.out _))))
        go_wp2_with (go_at_call 104; refine (step_1 _ (HP.out.box.drawn _) (by omega)).mono ?_)
        rintro e w2 ⟨rfl, hb2, hg2⟩
        go_wp2_with fail
        go_roundg (S.size - (k + 1))
        case rel => exact ⟨k + 1, by omega, rfl, HN.out _ w2 hb2 hg2⟩
        case measure => rw [HGK.out]; omega
    · have hle : S.size ≤ k := by omega
      have HN := Lib.hid (HP.out.stop_out (by omega))
      have HKS : Hid (k = S.size) := by show k = S.size; omega
      clear hle
      go_wp2_with fail
      go_quiet ((go_at_call 85; exact Calls.quiet_of (atEnd_true _ (HP.out.box.drawn _) HKS.out)))
      go_wp2_with fail
      go_end0
      exact HN.out.finish _ rfl rfl

set_option maxHeartbeats 1000000 in
theorem pass_name (w : World) (h : Box w b S fr a tv o pm) (ha : a ≤ S.size) (hS : S.size ≤ 100000) :
    Calls Tryz.prog 82 #[.pointer (some ⟨b, 0, none⟩), .func (.func 107) #[] #[]] w (PassPost isLd w b S fr a tv o pm) := by
  have HH := Lib.hid h
  obtain ⟨c0, c1, c2, c3, c4, c5, f1, f2, f3, f4⟩ := h
  go_enter Tryz.func82, Tryz.ntmps82
  go_wp2_with fail
  go_loopg [4] (S.size - a) (fun g v4 wr => ∃ k : Nat, k ≤ S.size ∧ g = S.size - k ∧ Passed isLd w wr b S fr a k tv o pm)
  case atStart => exact ⟨a, by omega, rfl, Passed.start HH.out⟩
  case round =>
    obtain ⟨k, hk, hgk, hP⟩ := hrel
    have HGK := Lib.hid hgk
    clear hgk
    obtain ⟨d0, d1, d2, d3, d4, d5, e1, e2, e3, e4⟩ := hP.box
    have hak : a ≤ k := hP.le
    have hak' : (a : Int) ≤ (k : Int) := by omega
    have HP := Lib.hid hP
    clear hP c0 c1 c2 c3 c4 c5 f1 f2 f3 f4
    by_cases hlt : k < S.size
    · have hlt' : (k : Int) < (S.size : Int) := by omega
      have HC := Lib.hid (fun ww => flipW (isOfName_any S[k] ww))
      cases hp : isLd S[k]
      · rw [hp] at HC
        have HN := Lib.hid (HP.out.stop_in hlt hp)
        clear hp
        go_wp2_with fail
        go_quiet ((first | (go_at_call 85; exact Calls.quiet_of (atEnd_false _ (HP.out.box.drawn _) hlt)) | (go_at_call 107; exact Calls.quiet_of_same (HC.out _))))
        go_wp2_with fail
        go_end0
        exact HN.out.finish _ rfl rfl
      · rw [hp] at HC
        have HN := Lib.hid (HP.out.next hlt hp)
        clear hp
        go_wp2_with fail
        go_quiet ((first | (go_at_call 85; exact Calls.quiet_of (atEnd_false _ (HP.out.box.drawn _) hlt)) | (go_at_call 107; exact Calls.quiet_of_same (HC.out _))))
        go_wp2_with (go_at_call 104; refine (step_1 _ (HP.out.box.drawn _) (by omega)).mono ?_)
        rintro e w2 ⟨rfl, hb2, hg2⟩
        go_wp2_with fail
        go_roundg (S.size - (k + 1))
        case rel => exact ⟨k + 1, by omega, rfl, HN.out _ w2 hb2 hg2⟩
        case measure => rw [HGK.out]; omega
    · have hle : S.size ≤ k := by omega
      have HN := Lib.hid (HP.out.stop_out (by omega))
      have HKS : Hid (k = S.size) := by show k = S.size; omega
      clear hle
      go_wp2_with fail
      go_quiet ((go_at_call 85; exact Calls.quiet_of (atEnd_true _ (HP.out.box.drawn _) HKS.out)))
      go_wp2_with fail
      go_end0
      exact HN.out.finish _ rfl rfl
theorem passLine_any (w : World) (h : Box w b S fr a tv o pm) (ha : a ≤ S.size) (hS : S.size ≤ 100000) :
    Calls Tryz.prog 81 #[.pointer (some ⟨b, 0, none⟩)] w (PassPost notNL w b S fr a tv o pm) := by
  have H := Lib.hid (pass_line w h ha hS)
  clear h
  unfold PassPost at H ⊢
  go_enter Tryz.func81, Tryz.ntmps81
  go_wp2_with fail
  refine H.out.mono ?_
  rintro e w1 ⟨rfl, hb1, hg1⟩
  have HB := Lib.hid (And.intro hb1 hg1)
  clear hb1 hg1
  go_wp2_with fail
  go_end0
  exact ⟨rfl, HB.out.1, HB.out.2⟩
end Go.Proofs.YtngimijiafnheaaGreat
