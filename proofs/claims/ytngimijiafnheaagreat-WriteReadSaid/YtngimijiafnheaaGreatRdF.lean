/- some, perhapsGiven: with whatever reads one. -/
import Derived.Test.YtngimijiafnheaaGreatRdE
import Derived.Deep.LoopGhost
set_option maxRecDepth 100000
set_option linter.unusedSimpArgs false
namespace LexT
open Go Go.RowKit
set_option linter.unusedVariables false
/-- Below a block nothing but the reader has changed. -/
structure Nb (lo b : Nat) (w w' : World) : Prop where
  os : w'.os = w.os
  tape : w'.tape = w.tape
  output : w'.output = w.output
  size : w.heap.size ≤ w'.heap.size
  block : ∀ k, k < lo → k ≠ b → w'.heap[k]? = w.heap[k]?
theorem Nb.refl (lo b : Nat) (w : World) : Nb lo b w w := ⟨rfl, rfl, rfl, Nat.le_refl _, fun _ _ _ => rfl⟩
theorem Nb.trans {lo b : Nat} {x y z : World} (h1 : Nb lo b x y) (h2 : Nb lo b y z) : Nb lo b x z :=
  ⟨h2.os.trans h1.os, h2.tape.trans h1.tape, h2.output.trans h1.output, Nat.le_trans h1.size h2.size, fun k hk hn => (h2.block k hk hn).trans (h1.block k hk hn)⟩
theorem Nb.of_grown {lo b : Nat} {x y : World} (h : x.grownBy y (some b)) (hl : lo ≤ x.heap.size) : Nb lo b x y :=
  ⟨h.os, h.tape, h.output, h.size, fun k hk hn => h.block k (by omega) (by intro hh; injection hh with hh; exact hn hh)⟩
theorem Nb.of_below {lo b : Nat} {x y : World} (h : Below lo x y) : Nb lo b x y := ⟨h.os, h.tape, h.output, h.size, fun k hk _ => h.block k hk⟩
theorem Nb.grown {b : Nat} {x y : World} (h : Nb x.heap.size b x y) : x.grownBy y (some b) :=
  ⟨h.os, h.tape, h.output, h.size, fun k hk hne => h.block k hk (by intro hh; exact hne (by rw [hh]))⟩
theorem Nb.mono {lo lo' b : Nat} {x y : World} (h : Nb lo b x y) (hl : lo' ≤ lo) : Nb lo' b x y := ⟨h.os, h.tape, h.output, h.size, fun k hk hn => h.block k (by omega) hn⟩
/-- Below a block nothing but the reader and one box has changed. -/
structure Nx (lo b p : Nat) (w w' : World) : Prop where
  os : w'.os = w.os
  tape : w'.tape = w.tape
  output : w'.output = w.output
  size : w.heap.size ≤ w'.heap.size
  block : ∀ k, k < lo → k ≠ b → k ≠ p → w'.heap[k]? = w.heap[k]?
theorem Nx.trans {lo b p : Nat} {x y z : World} (h1 : Nx lo b p x y) (h2 : Nx lo b p y z) : Nx lo b p x z :=
  ⟨h2.os.trans h1.os, h2.tape.trans h1.tape, h2.output.trans h1.output, Nat.le_trans h1.size h2.size, fun k hk hn hp => (h2.block k hk hn hp).trans (h1.block k hk hn hp)⟩
theorem Nx.of_grown {lo b p : Nat} {x y : World} (h : x.grownBy y (some b)) (hl : lo ≤ x.heap.size) : Nx lo b p x y :=
  ⟨h.os, h.tape, h.output, h.size, fun k hk hn _ => h.block k (by omega) (by intro hh; injection hh with hh; exact hn hh)⟩
/-- The rest of what is read behind one. -/
def Rst {β : Type} (one : β → List Tok → Pa β) (sep : Bs) (R : Pa β) (f : Nat) (x : β) (l : List Tok) : Prop :=
  R = if atB [sep] l then someF one sep f x l.tail else some (.ok (x, l))
theorem Rst.stop {β : Type} {one : β → List Tok → Pa β} {sep : Bs} {R : Pa β} {f : Nat} {x : β} {l : List Tok} (h : Rst one sep R f x l) (ha : atB [sep] l = false) : R = some (.ok (x, l)) := by
  rw [h, ha]; rfl
theorem Rst.err {β : Type} {one : β → List Tok → Pa β} {sep : Bs} {R : Pa β} {f : Nat} {x : β} {l : List Tok} {e : Er} (h : Rst one sep R (f + 1) x l) (ha : atB [sep] l = true) (ho : one x l.tail = some (.error e)) : R = some (.error e) := by
  rw [h, ha]; simp [someF, ho, bnd]
theorem Rst.more {β : Type} {one : β → List Tok → Pa β} {sep : Bs} {R : Pa β} {f : Nat} {x x' : β} {l l' : List Tok} (h : Rst one sep R (f + 1) x l) (ha : atB [sep] l = true) (ho : one x l.tail = some (.ok (x', l'))) : Rst one sep R f x' l' := by
  unfold Rst
  rw [h, ha]; simp [someF, ho, bnd]
end LexT
namespace Go.Proofs.YtngimijiafnheaaGreat
open Go.Instr Go.RowKit LexT
set_option linter.unusedVariables false
/-- What a call does that reads something into what J tells of. -/
def OneP {β : Type} (n b lo p : Nat) (J : World → β → Nat → Prop) (m : Nat) (R : Pa β) (w : World) (e : Ending) (w' : World) : Prop :=
  (∃ x l', R = some (.ok (x, l')) ∧ e = .returned (.tuple #[]) ∧ Rd n w' b l' ∧ l'.length < m ∧ J w' x l'.length ∧ Nx lo b p w w') ∨
  (∃ c q : Nat, R = some (.error (c, q)) ∧ e = .panicked (faulty c q) ∧ Nx lo b p w w')
variable {n b : Nat} {t : Tok} {r l : List Tok}
set_option maxHeartbeats 2000000 in
theorem some_any {β : Type} (F : FuncId) (caps : Array Value) (one : β → List Tok → Pa β) (sep : Bs) (J : World → β → Nat → Prop) (lo p N : Nat) (hsep : sep ≠ []) (eg : ∀ args w, (callFunc F args).run Tryz.prog w = .ok (.enter F args) w)
    (hJ : ∀ w w' x m m', J w x m → m' ≤ m → lo ≤ w.heap.size → w.grownBy w' (some b) → J w' x m')
    (hone : ∀ w x l, Rd n w b l → l.length < N → J w x l.length → lo ≤ w.heap.size → Calls Tryz.prog F caps w (OneP n b lo p J l.length (one x l) w))
    (f : Nat) (w : World) (x : β) (l : List Tok) (h : Rd n w b l) (hj : J w x l.length) (hlo : lo ≤ w.heap.size) (hN : l.length < N) (hf : l.length ≤ f) :
    Calls Tryz.prog 66 #[.pointer (some ⟨b, 0, none⟩), .string (mkS sep), .func (.func F) #[] caps] w (OneP n b lo p J l.length (someF one sep f x l) w) := by
  obtain ⟨f, rfl⟩ : ∃ k, f = k + 1 := ⟨f - 1, by have := h.ends.pos; omega⟩
  have H1 := Lib.hid (hone w x l h hN hj hlo)
  have HONE := Lib.hid hone
  have HJ := Lib.hid hJ
  have HS := Lib.hid hsep
  have HLO := Lib.hid hlo
  have HF := Lib.hid hf
  have HN := Lib.hid hN
  clear hone hJ hsep hlo hf h hj hN
  go_enter Tryz.func66, Tryz.ntmps66
  go_wp2_with fail
  try simp only [Array.append_empty, Array.empty_append]
  refine H1.out.mono ?_
  rintro e w1 (⟨x1, l1, ho, rfl, hr1, hl1, hj1, hb1⟩ | ⟨c, q, ho, rfl, hb1⟩)
  · have HR : Hid (Rst one sep (someF one sep (f + 1) x l) f x1 l1) := by
      show _ = _
      simp [someF, ho, bnd]
    obtain ⟨R, hR⟩ : ∃ R, someF one sep (f + 1) x l = R := ⟨_, rfl⟩
    rw [hR] at HR
    have HRR := Lib.hid hR
    have H0 := Lib.hid (And.intro hr1 (And.intro hl1 (And.intro hj1 hb1)))
    clear ho hR hr1 hl1 hj1 hb1
    go_wp2_with fail
    go_loopg [8] (l1.length) (fun g v8 wr => ∃ (f' : Nat) (x' : β) (l' : List Tok), g = l'.length ∧ Rst one sep R f' x' l' ∧ l'.length ≤ f' ∧ Rd n wr b l' ∧ l'.length < l.length ∧ J wr x' l'.length ∧ Nx lo b p w wr)
    case atStart => exact ⟨f, x1, l1, rfl, HR.out, by have := HF.out; have := H0.out.2.1; omega, H0.out⟩
    case round =>
      obtain ⟨f', x', l', hg, hrest, hf', hr', hl', hj', hb'⟩ := hrel
      have HT := Lib.hid (takes_any sep HS.out wr hr')
      have HQ := Lib.hid (And.intro hg (And.intro hrest (And.intro hf' (And.intro hl' (And.intro hj' hb')))))
      clear hg hrest hf' hr' hl' hj' hb'
      go_wp2_with fail
      refine HT.out.mono ?_
      rintro e w2 (⟨ha, rfl, hr2, hg2⟩ | ⟨ha, rfl, hr2, hlt, hg2⟩)
      · have HE : Hid (OneP n b lo p J l.length R w (.returned (.tuple #[])) w2) := by
          obtain ⟨_, hrest, _, hl', hj', hb'⟩ := HQ.out
          have hs : lo ≤ wr.heap.size := by have := hb'.size; have := HLO.out; omega
          exact .inl ⟨x', l', hrest.stop ha, rfl, hr2, hl', HJ.out _ _ _ _ _ hj' (Nat.le_refl _) hs hg2, hb'.trans (Nx.of_grown hg2 hs)⟩
        clear ha hr2 hg2
        go_wp2_with fail
        go_end0
        rw [HRR.out]
        exact HE.out
      · obtain ⟨hg, hrest, hf', hl', hj', hb'⟩ := HQ.out
        have hs : lo ≤ wr.heap.size := by have := hb'.size; have := HLO.out; omega
        have hs2 : lo ≤ w2.heap.size := by have := hg2.size; omega
        have HC := Lib.hid (HONE.out w2 x' l'.tail hr2 (by have := HN.out; omega) (HJ.out _ _ _ _ _ hj' (by omega) hs hg2) hs2)
        have HB2 : Hid (Nx lo b p w w2) := hb'.trans (Nx.of_grown hg2 hs)
        have HA := Lib.hid (And.intro ha hlt)
        clear hg hrest hf' hl' hj' hb' ha hlt hg2 hr2 hs hs2
        go_wp2_with fail
        try simp only [Array.append_empty, Array.empty_append]
        refine HC.out.mono ?_
        rintro e w3 (⟨x3, l3, ho, rfl, hr3, hl3, hj3, hb3⟩ | ⟨c, q, ho, rfl, hb3⟩)
        · have H3 := Lib.hid (And.intro ho (And.intro hr3 (And.intro hl3 (And.intro hj3 hb3))))
          clear ho hr3 hl3 hj3 hb3
          go_wp2_with fail
          obtain ⟨ho, hr3, hl3, hj3, hb3⟩ := H3.out
          obtain ⟨hg, hrest, hf', hl', hj', hb'⟩ := HQ.out
          obtain ⟨ha, hlt⟩ := HA.out
          obtain ⟨f'', rfl⟩ : ∃ k, f' = k + 1 := ⟨f' - 1, by omega⟩
          go_roundg (l3.length)
          case rel => exact ⟨f'', x3, l3, rfl, hrest.more ha ho, by omega, hr3, by omega, hj3, HB2.out.trans hb3⟩
          case measure => omega
        · obtain ⟨hg, hrest, hf', hl', hj', hb'⟩ := HQ.out
          obtain ⟨ha, hlt⟩ := HA.out
          obtain ⟨f'', rfl⟩ : ∃ k, f' = k + 1 := ⟨f' - 1, by omega⟩
          exact ⟨rfl, .inr ⟨c, q, HRR.out.trans (hrest.err ha ho), rfl, HB2.out.trans hb3⟩⟩
  · exact ⟨rfl, .inr ⟨c, q, by simp [someF, ho, bnd], rfl, hb1⟩⟩
set_option maxHeartbeats 2000000 in
theorem given_any {β : Type} (F : FuncId) (caps : Array Value) (one : β → List Tok → Pa β) (J : World → β → Nat → Prop) (lo p N : Nat) (eg : ∀ args w, (callFunc F args).run Tryz.prog w = .ok (.enter F args) w)
    (hJ : ∀ w w' x m m', J w x m → m' ≤ m → lo ≤ w.heap.size → w.grownBy w' (some b) → J w' x m')
    (hone : ∀ w x l, Rd n w b l → l.length < N → J w x l.length → lo ≤ w.heap.size → Calls Tryz.prog F caps w (OneP n b lo p J l.length (one x l) w))
    (f : Nat) (w : World) (x : β) (l : List Tok) (h : Rd n w b l) (hj : J w x l.length) (hlo : lo ≤ w.heap.size) (hN : l.length < N) (hf : l.length ≤ f) :
    Calls Tryz.prog 64 #[.pointer (some ⟨b, 0, none⟩), .func (.func F) #[] caps] w (OneP n b lo p J (l.length + 1) (givenF one f x l) w) := by
  have HT := Lib.hid (takes_any [40] (by simp) w h)
  have HP := Lib.hid (And.intro hj (And.intro hlo (And.intro hN hf)))
  have HONE := Lib.hid hone
  have HJ := Lib.hid hJ
  have HEG := Lib.hid eg
  clear hone hJ hj hlo hN hf h eg
  go_enter Tryz.func64, Tryz.ntmps64
  go_wp2_with fail
  refine HT.out.mono ?_
  rintro e w1 (⟨ha, rfl, hr1, hg1⟩ | ⟨ha, rfl, hr1, hlt, hg1⟩)
  · have HE : Hid (OneP n b lo p J (l.length + 1) (givenF one f x l) w (.returned (.tuple #[])) w1) := by
      obtain ⟨hj, hlo, hN, hf⟩ := HP.out
      refine .inl ⟨x, l, ?_, rfl, hr1, by omega, HJ.out _ _ _ _ _ hj (Nat.le_refl _) hlo hg1, Nx.of_grown hg1 hlo⟩
      unfold givenF; rw [ha]; rfl
    clear ha hr1 hg1
    go_wp2_with fail
    go_end0
    exact HE.out
  · have HS := by
      obtain ⟨hj, hlo, hN, hf⟩ := HP.out
      have hs : lo ≤ w1.heap.size := by have := hg1.size; omega
      exact Lib.hid (some_any F caps one [44] J lo p N (by simp) HEG.out HJ.out HONE.out f w1 x l.tail hr1 (HJ.out _ _ _ _ _ hj (by omega) hlo hg1) hs (by omega) (by omega))
    have H1 := Lib.hid (And.intro ha (And.intro hlt hg1))
    clear ha hr1 hlt hg1
    go_wp2_with fail
    refine HS.out.mono ?_
    rintro e w2 (⟨x2, l2, ho, rfl, hr2, hl2, hj2, hb2⟩ | ⟨c, q, ho, rfl, hb2⟩)
    · have hs2 : lo ≤ w2.heap.size := by have := hb2.size; have := H1.out.2.2.size; have := HP.out.2.1; omega
      have hb0 : Below w2.heap.size w2 (w2.alloc (.cells #[.string (mkS [41])] 9)) := (Below.refl _ _).alloc (Nat.le_refl _) _
      have HN : Hid (∀ ww, ww = w2.alloc (.cells #[.string (mkS [41])] 9) → Calls Tryz.prog 59 #[.pointer (some ⟨b, 0, none⟩), .slice (some ⟨w2.heap.size, 0, none⟩) 1 1] ww (TokP n b l2 (needF [[41]] l2) ww)) := by
        rintro ww rfl
        exact need_any [[41]] w2.heap.size 1 (by simp) _ (hr2.under hb0) (TxtAt.new w2 9 [[41]] w2.heap.size rfl) rfl (by omega)
      have H2 := Lib.hid (And.intro ho (And.intro hr2 (And.intro hl2 (And.intro hj2 (And.intro hb2 (And.intro hs2 hb0))))))
      clear ho hr2 hl2 hj2 hb2 hs2 hb0
      go_wp2_with fail
      refine (HN.out _ rfl).mono ?_
      rintro e w3 (⟨t3, l3, hn3, rfl, hr3, hl3, hg3⟩ | ⟨c, q, hn3, rfl, hg3⟩)
      · have HE : Hid (OneP n b lo p J (l.length + 1) (givenF one f x l) w (.returned (.tuple #[])) w3) := by
          obtain ⟨ho, hr2, hl2, hj2, hb2, hs2, hb0⟩ := H2.out
          obtain ⟨ha, hlt, hg1⟩ := H1.out
          obtain ⟨hj, hlo, hN, hf⟩ := HP.out
          have hg : w2.grownBy w3 (some b) := grown_trans (grown_under hb0 b) hg3
          refine .inl ⟨x2, l3, ?_, rfl, hr3, by omega, HJ.out _ _ _ _ _ hj2 (by omega) hs2 hg, ((Nx.of_grown hg1 hlo).trans hb2).trans (Nx.of_grown hg hs2)⟩
          unfold givenF; rw [ha, ho]; simp [bnd, hn3]
        clear hn3 hr3 hl3 hg3
        unfold tokV
        go_wp2_with fail
        go_end0
        exact HE.out
      · obtain ⟨ho, hr2, hl2, hj2, hb2, hs2, hb0⟩ := H2.out
        obtain ⟨ha, hlt, hg1⟩ := H1.out
        obtain ⟨hj, hlo, hN, hf⟩ := HP.out
        refine ⟨rfl, .inr ⟨c, q, ?_, rfl, ((Nx.of_grown hg1 hlo).trans hb2).trans (Nx.of_grown (grown_trans (grown_under hb0 b) hg3) hs2)⟩⟩
        unfold givenF; rw [ha, ho]; simp [bnd, hn3]
    · obtain ⟨ha, hlt, hg1⟩ := H1.out
      obtain ⟨hj, hlo, hN, hf⟩ := HP.out
      refine ⟨rfl, .inr ⟨c, q, ?_, rfl, (Nx.of_grown hg1 hlo).trans hb2⟩⟩
      unfold givenF; rw [ha, ho]; simp [bnd]
end Go.Proofs.YtngimijiafnheaaGreat
