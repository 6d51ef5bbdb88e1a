/- The bag: all lists in it lie apart, if its lists of one kind do. -/
import Derived.Test.YthhfgjcdopkmgaaGreatDoorScnFa
import Derived.Test.YthhfgjcdopkmgaaGreatDoorScnFb
import Derived.Test.YthhfgjcdopkmgaaGreatDoorFlH
set_option maxRecDepth 100000
namespace Go.Proofs.YthhfgjcdopkmgaaGreatDoor
open Go.Instr Go.RowKit FlT
set_option linter.unusedVariables false
set_option maxHeartbeats 4000000 in
theorem apart_any (b : Nat) (v : Value) (T : TypeId) (S : Nat → Prop) (w : World) (hb : w.heap[b]? = some (.cells (bagCells v) T)) (hlt : b < w.heap.size) (hS : ¬ S b)
    (ht : ∀ ww, Below w.heap.size w ww → Calls Tryz.prog 72 #[v] ww fun e w' => e = .returned (.bool true) ∧ Moves S ww w') :
    Calls Tryz.prog 32 #[.pointer (some ⟨b, 0, none⟩)] w fun e w' => e = .returned (.bool true) ∧ Moves S w w' := by
  have HC : Hid (∀ ww, Moves S w ww → ∀ j, ww.cell? ⟨b, j, none⟩ = (bagCells v)[j]?) := fun ww hm j => bag_cell ((hm.block b hlt hS).trans hb) j
  have HT := Lib.hid ht
  have HM := Lib.hid (Below.refl w.heap.size w)
  have c := HC.out _ (Moves.of_below HM.out) 0
  simp only [bagCells] at c
  clear hb hlt hS ht
  go_enter Tryz.func32, Tryz.ntmps32
  go_wp2_with fail
  refine (flatLimbs_nil _).mono ?_
  rintro e w1 ⟨rfl, hq⟩
  have HM1 := Lib.hid (HM.out.trans (hq.mono HM.out.size))
  clear hq c HM
  have HM := HM1
  clear HM1
  have c := HC.out _ (Moves.of_below HM.out) 1
  simp only [bagCells] at c
  go_wp2_with fail
  refine (flatWords_nil _).mono ?_
  rintro e w2 ⟨rfl, hq⟩
  have HM2 := Lib.hid (HM.out.trans (hq.mono HM.out.size))
  clear hq c HM
  have HM := HM2
  clear HM2
  have c := HC.out _ (Moves.of_below HM.out) 2
  simp only [bagCells] at c
  go_wp2_with fail
  refine (flatInts_nil _).mono ?_
  rintro e w3 ⟨rfl, hq⟩
  have HM3 := Lib.hid (HM.out.trans (hq.mono HM.out.size))
  clear hq c HM
  have HM := HM3
  clear HM3
  have c := HC.out _ (Moves.of_below HM.out) 3
  simp only [bagCells] at c
  go_wp2_with fail
  refine (flatLongs_nil _).mono ?_
  rintro e w4 ⟨rfl, hq⟩
  have HM4 := Lib.hid (HM.out.trans (hq.mono HM.out.size))
  clear hq c HM
  have HM := HM4
  clear HM4
  have c := HC.out _ (Moves.of_below HM.out) 4
  simp only [bagCells] at c
  go_wp2_with fail
  refine (flatTexts_nil _).mono ?_
  rintro e w5 ⟨rfl, hq⟩
  have HM5 := Lib.hid (HM.out.trans (hq.mono HM.out.size))
  clear hq c HM
  have HM := HM5
  clear HM5
  have c := HC.out _ (Moves.of_below HM.out) 5
  simp only [bagCells] at c
  go_wp2_with fail
  refine (flatBytes_nil _).mono ?_
  rintro e w6 ⟨rfl, hq⟩
  have HM6 := Lib.hid (HM.out.trans (hq.mono HM.out.size))
  clear hq c HM
  have HM := HM6
  clear HM6
  have c := HC.out _ (Moves.of_below HM.out) 6
  simp only [bagCells] at c
  go_wp2_with fail
  refine (HT.out _ HM.out).mono ?_
  rintro e w7 ⟨rfl, hq⟩
  have HM7 := Lib.hid ((Moves.of_below HM.out).trans hq)
  clear hq c HM
  have HM := HM7
  clear HM7
  have c := HC.out _ HM.out 7
  simp only [bagCells] at c
  go_wp2_with fail
  refine (flatFaults_nil _).mono ?_
  rintro e w8 ⟨rfl, hq⟩
  have HM8 := Lib.hid (HM.out.trans (Moves.of_below hq))
  clear hq c HM
  have HM := HM8
  clear HM8
  have c := HC.out _ HM.out 8
  simp only [bagCells] at c
  go_wp2_with fail
  refine (flatNodes_nil _).mono ?_
  rintro e w9 ⟨rfl, hq⟩
  have HM9 := Lib.hid (HM.out.trans (Moves.of_below hq))
  clear hq c HM
  have HM := HM9
  clear HM9
  have c := HC.out _ HM.out 9
  simp only [bagCells] at c
  go_wp2_with fail
  refine (flatTypes_nil _).mono ?_
  rintro e w10 ⟨rfl, hq⟩
  have HM10 := Lib.hid (HM.out.trans (Moves.of_below hq))
  clear hq c HM
  have HM := HM10
  clear HM10
  have c := HC.out _ HM.out 10
  simp only [bagCells] at c
  go_wp2_with fail
  refine (flatValues_nil _).mono ?_
  rintro e w11 ⟨rfl, hq⟩
  have HM11 := Lib.hid (HM.out.trans (Moves.of_below hq))
  clear hq c HM
  have HM := HM11
  clear HM11
  have c := HC.out _ HM.out 11
  simp only [bagCells] at c
  go_wp2_with fail
  refine (flatOutcomes_nil _).mono ?_
  rintro e w12 ⟨rfl, hq⟩
  have HM12 := Lib.hid (HM.out.trans (Moves.of_below hq))
  clear hq c HM
  have HM := HM12
  clear HM12
  have c := HC.out _ HM.out 12
  simp only [bagCells] at c
  go_wp2_with fail
  refine (flatWordRow_nil _).mono ?_
  rintro e w13 ⟨rfl, hq⟩
  have HM13 := Lib.hid (HM.out.trans (Moves.of_below hq))
  clear hq c HM
  have HM := HM13
  clear HM13
  have c := HC.out _ HM.out 13
  simp only [bagCells] at c
  go_wp2_with fail
  refine (flatAlts_nil _).mono ?_
  rintro e w14 ⟨rfl, hq⟩
  have HM14 := Lib.hid (HM.out.trans (Moves.of_below hq))
  clear hq c HM
  have HM := HM14
  clear HM14
  have c := HC.out _ HM.out 14
  simp only [bagCells] at c
  go_wp2_with fail
  refine (flatRules_nil _).mono ?_
  rintro e w15 ⟨rfl, hq⟩
  have HM15 := Lib.hid (HM.out.trans (Moves.of_below hq))
  clear hq c HM
  have HM := HM15
  clear HM15
  have c := HC.out _ HM.out 15
  simp only [bagCells] at c
  go_wp2_with fail
  refine (flatDecls_nil _).mono ?_
  rintro e w16 ⟨rfl, hq⟩
  have HM16 := Lib.hid (HM.out.trans (Moves.of_below hq))
  clear hq c HM
  have HM := HM16
  clear HM16
  have c := HC.out _ HM.out 16
  simp only [bagCells] at c
  go_wp2_with fail
  refine (flatSources_nil _).mono ?_
  rintro e w17 ⟨rfl, hq⟩
  have HM17 := Lib.hid (HM.out.trans (Moves.of_below hq))
  clear hq c HM
  have HM := HM17
  clear HM17
  have c := HC.out _ HM.out 17
  simp only [bagCells] at c
  go_wp2_with fail
  refine (flatProds_nil _).mono ?_
  rintro e w18 ⟨rfl, hq⟩
  have HM18 := Lib.hid (HM.out.trans (Moves.of_below hq))
  clear hq c HM
  have HM := HM18
  clear HM18
  have c := HC.out _ HM.out 18
  simp only [bagCells] at c
  go_wp2_with fail
  refine (flatSymbols_nil _).mono ?_
  rintro e w19 ⟨rfl, hq⟩
  have HM19 := Lib.hid (HM.out.trans (Moves.of_below hq))
  clear hq c HM
  have HM := HM19
  clear HM19
  have c := HC.out _ HM.out 19
  simp only [bagCells] at c
  go_wp2_with fail
  refine (flatGrammars_nil _).mono ?_
  rintro e w20 ⟨rfl, hq⟩
  have HM20 := Lib.hid (HM.out.trans (Moves.of_below hq))
  clear hq c HM
  have HM := HM20
  clear HM20
  have c := HC.out _ HM.out 20
  simp only [bagCells] at c
  go_wp2_with fail
  refine (flatItems_nil _).mono ?_
  rintro e w21 ⟨rfl, hq⟩
  have HM21 := Lib.hid (HM.out.trans (Moves.of_below hq))
  clear hq c HM
  have HM := HM21
  clear HM21
  have c := HC.out _ HM.out 21
  simp only [bagCells] at c
  go_wp2_with fail
  refine (flatEdges_nil _).mono ?_
  rintro e w22 ⟨rfl, hq⟩
  have HM22 := Lib.hid (HM.out.trans (Moves.of_below hq))
  clear hq c HM
  have HM := HM22
  clear HM22
  have c := HC.out _ HM.out 22
  simp only [bagCells] at c
  go_wp2_with fail
  refine (flatStates_nil _).mono ?_
  rintro e w23 ⟨rfl, hq⟩
  have HM23 := Lib.hid (HM.out.trans (Moves.of_below hq))
  clear hq c HM
  have HM := HM23
  clear HM23
  have c := HC.out _ HM.out 23
  simp only [bagCells] at c
  go_wp2_with fail
  refine (flatAheads_nil _).mono ?_
  rintro e w24 ⟨rfl, hq⟩
  have HM24 := Lib.hid (HM.out.trans (Moves.of_below hq))
  clear hq c HM
  have HM := HM24
  clear HM24
  have c := HC.out _ HM.out 24
  simp only [bagCells] at c
  go_wp2_with fail
  refine (flatActs_nil _).mono ?_
  rintro e w25 ⟨rfl, hq⟩
  have HM25 := Lib.hid (HM.out.trans (Moves.of_below hq))
  clear hq c HM
  have HM := HM25
  clear HM25
  have c := HC.out _ HM.out 25
  simp only [bagCells] at c
  go_wp2_with fail
  refine (flatClashes_nil _).mono ?_
  rintro e w26 ⟨rfl, hq⟩
  have HM26 := Lib.hid (HM.out.trans (Moves.of_below hq))
  clear hq c HM
  have HM := HM26
  clear HM26
  have c := HC.out _ HM.out 26
  simp only [bagCells] at c
  go_wp2_with fail
  refine (flatPackedRow_nil _).mono ?_
  rintro e w27 ⟨rfl, hq⟩
  have HM27 := Lib.hid (HM.out.trans (Moves.of_below hq))
  clear hq c HM
  have HM := HM27
  clear HM27
  have c := HC.out _ HM.out 27
  simp only [bagCells] at c
  go_wp2_with fail
  refine (flatTrees_nil _).mono ?_
  rintro e w28 ⟨rfl, hq⟩
  have HM28 := Lib.hid (HM.out.trans (Moves.of_below hq))
  clear hq c HM
  have HM := HM28
  clear HM28
  have c := HC.out _ HM.out 28
  simp only [bagCells] at c
  go_wp2_with fail
  refine (flatToks_nil _).mono ?_
  rintro e w29 ⟨rfl, hq⟩
  have HM29 := Lib.hid (HM.out.trans (Moves.of_below hq))
  clear hq c HM
  have HM := HM29
  clear HM29
  have c := HC.out _ HM.out 29
  simp only [bagCells] at c
  go_wp2_with fail
  refine (flatParsedRow_nil _).mono ?_
  rintro e w30 ⟨rfl, hq⟩
  have HM30 := Lib.hid (HM.out.trans (Moves.of_below hq))
  clear hq c HM
  have HM := HM30
  clear HM30
  have c := HC.out _ HM.out 30
  simp only [bagCells] at c
  go_wp2_with fail
  refine (flatNotices_nil _).mono ?_
  rintro e w31 ⟨rfl, hq⟩
  have HM31 := Lib.hid (HM.out.trans (Moves.of_below hq))
  clear hq c HM
  have HM := HM31
  clear HM31
  go_wp2_with fail
  go_ret
  exact ⟨rfl, HM.out⟩
end Go.Proofs.YthhfgjcdopkmgaaGreatDoor
