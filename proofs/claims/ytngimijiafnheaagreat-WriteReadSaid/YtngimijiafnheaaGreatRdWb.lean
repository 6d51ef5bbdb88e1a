/- Lists of words, alternatives, rules, declarations that are the same. -/
import Derived.Test.YtngimijiafnheaaGreatRdWa
set_option maxRecDepth 100000
set_option linter.unusedSimpArgs false
namespace LexT
open Go Go.RowKit
set_option linter.unusedVariables false
theorem flat_length {α : Type} (f : α → List Cell) (k : Nat) (hf : ∀ x, (f x).length = k) : ∀ l : List α, (l.flatMap f).length = l.length * k
  | [] => by simp
  | y :: l => by rw [List.flatMap_cons, List.length_append, hf, flat_length f k hf l, List.length_cons, Nat.add_mul]; omega
theorem list3 (l : List Value) (h : l.length = 3) : ∃ a b c, l = [a, b, c] := by
  match l, h with
  | [a, b, c], _ => exact ⟨a, b, c, rfl⟩
theorem list4 (l : List Value) (h : l.length = 4) : ∃ a b c d, l = [a, b, c, d] := by
  match l, h with
  | [a, b, c, d], _ => exact ⟨a, b, c, d, rfl⟩
theorem list6 (l : List Value) (h : l.length = 6) : ∃ a b c d e f, l = [a, b, c, d, e, f] := by
  match l, h with
  | [a, b, c, d, e, f], _ => exact ⟨a, b, c, d, e, f, rfl⟩
theorem wdsC_flat (Tw : TypeId) : ∀ ws : List Wd, wdsC Tw ws = ws.flatMap (wdC Tw)
  | [] => by simp [wdsC]
  | x :: xs => by simp [wdsC, wdsC_flat Tw xs]
end LexT
namespace Go.Proofs.YtngimijiafnheaaGreat
open Go.Instr Go.RowKit LexT
set_option linter.unusedVariables false
theorem SameWordRow_of_len (x : Wd) : (wdC 50 x).length = 3 := wdC_length _ x
theorem SameAlts_of_len (x : Al) : (altC x).length = 6 := rfl
theorem SameRules_of_len (x : Ru) : (ruleC x).length = 4 := rfl
theorem SameDecls_of_len (x : De) : (declC x).length = 4 := rfl
set_option maxHeartbeats 4000000 in
theorem SameWordRow_of (xs : List Wd) (a b : Option Addr) (n m ca cb : Nat) (S S' : List Nat) (w : World) (ha : At w (.row 50 3 (xs.flatMap (wdC 50))) S (.slice a n ca)) (hb : At w (.row 50 3 (xs.flatMap (wdC 50))) S' (.slice b m cb))
    (helem : ∀ x ∈ xs, ∀ (S S' : List Nat) (vx vy : List Value) (ww : World), AtL ww (wdC 50 x) S vx → AtL ww (wdC 50 x) S' vy → Calls Tryz.prog 119 #[.agg vx.toArray, .agg vy.toArray] ww fun e w' => e = .returned (.bool true) ∧ Below ww.heap.size ww w') :
    Calls Tryz.prog 112 #[.slice a n ca, .slice b m cb] w fun e w' => e = .returned (.bool true) ∧ Below w.heap.size w w' := by
  have hfl : ∀ x : Wd, (wdC 50 x).length = 3 := SameWordRow_of_len
  have hn : xs.length = n := by have := ha.count; rw [flat_length (wdC 50) 3 hfl] at this; omega
  have hm : xs.length = m := by have := hb.count; rw [flat_length (wdC 50) 3 hfl] at this; omega
  have hl := ha.small
  subst hn
  subst hm
  unfold maxLen at hl
  have HA := Lib.hid (And.intro ha hb)
  have HL := Lib.hid helem
  clear ha hb helem
  have hll : (xs.length : Int) ≤ 9223372036854775807 := by omega
  clear hl
  go_enter Tryz.func112, Tryz.ntmps112
  go_wp2_with fail
  go_loopg [5] xs.length (fun g v wr => ∃ i : Nat, i ≤ xs.length ∧ g = xs.length - i ∧ v = .int .i64 i ∧ Below w.heap.size w wr)
  case atStart => exact ⟨0, by omega, rfl, rfl, Below.refl _ _⟩
  case round =>
    obtain ⟨i, hi, hgi, rfl, hbl⟩ := hrel
    have HB := Lib.hid hbl
    have HG := Lib.hid hgi
    clear hbl hgi
    by_cases hlt : i < xs.length
    · obtain ⟨x, hx⟩ : ∃ x, xs[i]? = some x := ⟨_, List.getElem?_eq_getElem hlt⟩
      have hmem : x ∈ xs := List.mem_of_getElem? hx
      have e1 : ((xs.flatMap (wdC 50)).drop (i * 3)).take 3 = wdC 50 x := flat_elem _ 3 hfl xs i x hx
      obtain ⟨ga, va, Sa, rfl, hna, hga, hva, hca⟩ := HA.out.1.elem i hlt
      obtain ⟨gb, vb, Sb, rfl, hnb, hgb, hvb, hcb⟩ := HA.out.2.elem i hlt
      rw [e1] at hva hvb
      obtain ⟨v0, v1, v2, rfl⟩ := list3 va ((AtL.length _ _ _ hva).trans (hfl x))
      obtain ⟨u0, u1, u2, rfl⟩ := list3 vb ((AtL.length _ _ _ hvb).trans (hfl x))
      have ka0 : wr.cell? ⟨ga, i * 3, none⟩ = some v0 := (HB.out.cell (p := ⟨ga, i * 3, none⟩) hga).trans (by have := hca 0 _ rfl; simpa using this)
      have ka1 : wr.cell? ⟨ga, i * 3 + 1, none⟩ = some v1 := (HB.out.cell (p := ⟨ga, i * 3 + 1, none⟩) hga).trans (hca 1 _ rfl)
      have ka2 : wr.cell? ⟨ga, i * 3 + 2, none⟩ = some v2 := (HB.out.cell (p := ⟨ga, i * 3 + 2, none⟩) hga).trans (hca 2 _ rfl)
      have kb0 : wr.cell? ⟨gb, i * 3, none⟩ = some u0 := (HB.out.cell (p := ⟨gb, i * 3, none⟩) hgb).trans (by have := hcb 0 _ rfl; simpa using this)
      have kb1 : wr.cell? ⟨gb, i * 3 + 1, none⟩ = some u1 := (HB.out.cell (p := ⟨gb, i * 3 + 1, none⟩) hgb).trans (hcb 1 _ rfl)
      have kb2 : wr.cell? ⟨gb, i * 3 + 2, none⟩ = some u2 := (HB.out.cell (p := ⟨gb, i * 3 + 2, none⟩) hgb).trans (hcb 2 _ rfl)
      have HE := Lib.hid (HL.out x hmem _ _ _ _ wr.drew ((hva.same _ _ _ (fun g hg => HB.out.block g (AtL.lt _ _ _ hva g hg))).same _ _ _ (fun _ _ => rfl)) ((hvb.same _ _ _ (fun g hg => HB.out.block g (AtL.lt _ _ _ hvb g hg))).same _ _ _ (fun _ _ => rfl)))
      have i1 : (i : Int) < (xs.length : Int) := by omega
      have i0 : (0 : Int) ≤ (i : Int) := by omega
      clear hca hcb hva hvb e1 hx hmem
      go_wp2_with fail
      go_region_law (
        go_simp
        go_at_call 119
        refine HE.out.mono ?_
        rintro e w2 ⟨rfl, hb2⟩
        have HB2 := Lib.hid (HB.out.trans ((Below.refl wr.heap.size wr).drew.trans hb2 |>.mono HB.out.size))
        clear hb2)
      all_goals
        go_wp2_with fail
        go_roundg (xs.length - (i + 1))
        case rel => exact ⟨i + 1, by omega, rfl, by go_num, HB2.out⟩
        case measure => rw [HG.out]; omega
    · have i1 : ¬ (i : Int) < (xs.length : Int) := by omega
      go_wp2_with fail
      go_ret
      exact ⟨rfl, HB.out⟩
set_option maxHeartbeats 4000000 in
theorem SameAlts_of (xs : List Al) (a b : Option Addr) (n m ca cb : Nat) (S S' : List Nat) (w : World) (ha : At w (.row 47 6 (xs.flatMap altC)) S (.slice a n ca)) (hb : At w (.row 47 6 (xs.flatMap altC)) S' (.slice b m cb))
    (helem : ∀ x ∈ xs, ∀ (S S' : List Nat) (vx vy : List Value) (ww : World), AtL ww (altC x) S vx → AtL ww (altC x) S' vy → Calls Tryz.prog 97 #[.agg vx.toArray, .agg vy.toArray] ww fun e w' => e = .returned (.bool true) ∧ Below ww.heap.size ww w') :
    Calls Tryz.prog 70 #[.slice a n ca, .slice b m cb] w fun e w' => e = .returned (.bool true) ∧ Below w.heap.size w w' := by
  have hfl : ∀ x : Al, (altC x).length = 6 := SameAlts_of_len
  have hn : xs.length = n := by have := ha.count; rw [flat_length altC 6 hfl] at this; omega
  have hm : xs.length = m := by have := hb.count; rw [flat_length altC 6 hfl] at this; omega
  have hl := ha.small
  subst hn
  subst hm
  unfold maxLen at hl
  have HA := Lib.hid (And.intro ha hb)
  have HL := Lib.hid helem
  clear ha hb helem
  have hll : (xs.length : Int) ≤ 9223372036854775807 := by omega
  clear hl
  go_enter Tryz.func70, Tryz.ntmps70
  go_wp2_with fail
  go_loopg [5] xs.length (fun g v wr => ∃ i : Nat, i ≤ xs.length ∧ g = xs.length - i ∧ v = .int .i64 i ∧ Below w.heap.size w wr)
  case atStart => exact ⟨0, by omega, rfl, rfl, Below.refl _ _⟩
  case round =>
    obtain ⟨i, hi, hgi, rfl, hbl⟩ := hrel
    have HB := Lib.hid hbl
    have HG := Lib.hid hgi
    clear hbl hgi
    by_cases hlt : i < xs.length
    · obtain ⟨x, hx⟩ : ∃ x, xs[i]? = some x := ⟨_, List.getElem?_eq_getElem hlt⟩
      have hmem : x ∈ xs := List.mem_of_getElem? hx
      have e1 : ((xs.flatMap altC).drop (i * 6)).take 6 = altC x := flat_elem _ 6 hfl xs i x hx
      obtain ⟨ga, va, Sa, rfl, hna, hga, hva, hca⟩ := HA.out.1.elem i hlt
      obtain ⟨gb, vb, Sb, rfl, hnb, hgb, hvb, hcb⟩ := HA.out.2.elem i hlt
      rw [e1] at hva hvb
      obtain ⟨v0, v1, v2, v3, v4, v5, rfl⟩ := list6 va ((AtL.length _ _ _ hva).trans (hfl x))
      obtain ⟨u0, u1, u2, u3, u4, u5, rfl⟩ := list6 vb ((AtL.length _ _ _ hvb).trans (hfl x))
      have ka0 : wr.cell? ⟨ga, i * 6, none⟩ = some v0 := (HB.out.cell (p := ⟨ga, i * 6, none⟩) hga).trans (by have := hca 0 _ rfl; simpa using this)
      have ka1 : wr.cell? ⟨ga, i * 6 + 1, none⟩ = some v1 := (HB.out.cell (p := ⟨ga, i * 6 + 1, none⟩) hga).trans (hca 1 _ rfl)
      have ka2 : wr.cell? ⟨ga, i * 6 + 2, none⟩ = some v2 := (HB.out.cell (p := ⟨ga, i * 6 + 2, none⟩) hga).trans (hca 2 _ rfl)
      have ka3 : wr.cell? ⟨ga, i * 6 + 3, none⟩ = some v3 := (HB.out.cell (p := ⟨ga, i * 6 + 3, none⟩) hga).trans (hca 3 _ rfl)
      have ka4 : wr.cell? ⟨ga, i * 6 + 4, none⟩ = some v4 := (HB.out.cell (p := ⟨ga, i * 6 + 4, none⟩) hga).trans (hca 4 _ rfl)
      have ka5 : wr.cell? ⟨ga, i * 6 + 5, none⟩ = some v5 := (HB.out.cell (p := ⟨ga, i * 6 + 5, none⟩) hga).trans (hca 5 _ rfl)
      have kb0 : wr.cell? ⟨gb, i * 6, none⟩ = some u0 := (HB.out.cell (p := ⟨gb, i * 6, none⟩) hgb).trans (by have := hcb 0 _ rfl; simpa using this)
      have kb1 : wr.cell? ⟨gb, i * 6 + 1, none⟩ = some u1 := (HB.out.cell (p := ⟨gb, i * 6 + 1, none⟩) hgb).trans (hcb 1 _ rfl)
      have kb2 : wr.cell? ⟨gb, i * 6 + 2, none⟩ = some u2 := (HB.out.cell (p := ⟨gb, i * 6 + 2, none⟩) hgb).trans (hcb 2 _ rfl)
      have kb3 : wr.cell? ⟨gb, i * 6 + 3, none⟩ = some u3 := (HB.out.cell (p := ⟨gb, i * 6 + 3, none⟩) hgb).trans (hcb 3 _ rfl)
      have kb4 : wr.cell? ⟨gb, i * 6 + 4, none⟩ = some u4 := (HB.out.cell (p := ⟨gb, i * 6 + 4, none⟩) hgb).trans (hcb 4 _ rfl)
      have kb5 : wr.cell? ⟨gb, i * 6 + 5, none⟩ = some u5 := (HB.out.cell (p := ⟨gb, i * 6 + 5, none⟩) hgb).trans (hcb 5 _ rfl)
      have HE := Lib.hid (HL.out x hmem _ _ _ _ wr.drew ((hva.same _ _ _ (fun g hg => HB.out.block g (AtL.lt _ _ _ hva g hg))).same _ _ _ (fun _ _ => rfl)) ((hvb.same _ _ _ (fun g hg => HB.out.block g (AtL.lt _ _ _ hvb g hg))).same _ _ _ (fun _ _ => rfl)))
      have i1 : (i : Int) < (xs.length : Int) := by omega
      have i0 : (0 : Int) ≤ (i : Int) := by omega
      clear hca hcb hva hvb e1 hx hmem
      go_wp2_with fail
      go_region_law (
        go_simp
        go_at_call 97
        refine HE.out.mono ?_
        rintro e w2 ⟨rfl, hb2⟩
        have HB2 := Lib.hid (HB.out.trans ((Below.refl wr.heap.size wr).drew.trans hb2 |>.mono HB.out.size))
        clear hb2)
      all_goals
        go_wp2_with fail
        go_roundg (xs.length - (i + 1))
        case rel => exact ⟨i + 1, by omega, rfl, by go_num, HB2.out⟩
        case measure => rw [HG.out]; omega
    · have i1 : ¬ (i : Int) < (xs.length : Int) := by omega
      go_wp2_with fail
      go_ret
      exact ⟨rfl, HB.out⟩
set_option maxHeartbeats 4000000 in
theorem SameRules_of (xs : List Ru) (a b : Option Addr) (n m ca cb : Nat) (S S' : List Nat) (w : World) (ha : At w (.row 44 4 (xs.flatMap ruleC)) S (.slice a n ca)) (hb : At w (.row 44 4 (xs.flatMap ruleC)) S' (.slice b m cb))
    (helem : ∀ x ∈ xs, ∀ (S S' : List Nat) (vx vy : List Value) (ww : World), AtL ww (ruleC x) S vx → AtL ww (ruleC x) S' vy → Calls Tryz.prog 39 #[.agg vx.toArray, .agg vy.toArray] ww fun e w' => e = .returned (.bool true) ∧ Below ww.heap.size ww w') :
    Calls Tryz.prog 22 #[.slice a n ca, .slice b m cb] w fun e w' => e = .returned (.bool true) ∧ Below w.heap.size w w' := by
  have hfl : ∀ x : Ru, (ruleC x).length = 4 := SameRules_of_len
  have hn : xs.length = n := by have := ha.count; rw [flat_length ruleC 4 hfl] at this; omega
  have hm : xs.length = m := by have := hb.count; rw [flat_length ruleC 4 hfl] at this; omega
  have hl := ha.small
  subst hn
  subst hm
  unfold maxLen at hl
  have HA := Lib.hid (And.intro ha hb)
  have HL := Lib.hid helem
  clear ha hb helem
  have hll : (xs.length : Int) ≤ 9223372036854775807 := by omega
  clear hl
  go_enter Tryz.func22, Tryz.ntmps22
  go_wp2_with fail
  go_loopg [5] xs.length (fun g v wr => ∃ i : Nat, i ≤ xs.length ∧ g = xs.length - i ∧ v = .int .i64 i ∧ Below w.heap.size w wr)
  case atStart => exact ⟨0, by omega, rfl, rfl, Below.refl _ _⟩
  case round =>
    obtain ⟨i, hi, hgi, rfl, hbl⟩ := hrel
    have HB := Lib.hid hbl
    have HG := Lib.hid hgi
    clear hbl hgi
    by_cases hlt : i < xs.length
    · obtain ⟨x, hx⟩ : ∃ x, xs[i]? = some x := ⟨_, List.getElem?_eq_getElem hlt⟩
      have hmem : x ∈ xs := List.mem_of_getElem? hx
      have e1 : ((xs.flatMap ruleC).drop (i * 4)).take 4 = ruleC x := flat_elem _ 4 hfl xs i x hx
      obtain ⟨ga, va, Sa, rfl, hna, hga, hva, hca⟩ := HA.out.1.elem i hlt
      obtain ⟨gb, vb, Sb, rfl, hnb, hgb, hvb, hcb⟩ := HA.out.2.elem i hlt
      rw [e1] at hva hvb
      obtain ⟨v0, v1, v2, v3, rfl⟩ := list4 va ((AtL.length _ _ _ hva).trans (hfl x))
      obtain ⟨u0, u1, u2, u3, rfl⟩ := list4 vb ((AtL.length _ _ _ hvb).trans (hfl x))
      have ka0 : wr.cell? ⟨ga, i * 4, none⟩ = some v0 := (HB.out.cell (p := ⟨ga, i * 4, none⟩) hga).trans (by have := hca 0 _ rfl; simpa using this)
      have ka1 : wr.cell? ⟨ga, i * 4 + 1, none⟩ = some v1 := (HB.out.cell (p := ⟨ga, i * 4 + 1, none⟩) hga).trans (hca 1 _ rfl)
      have ka2 : wr.cell? ⟨ga, i * 4 + 2, none⟩ = some v2 := (HB.out.cell (p := ⟨ga, i * 4 + 2, none⟩) hga).trans (hca 2 _ rfl)
      have ka3 : wr.cell? ⟨ga, i * 4 + 3, none⟩ = some v3 := (HB.out.cell (p := ⟨ga, i * 4 + 3, none⟩) hga).trans (hca 3 _ rfl)
      have kb0 : wr.cell? ⟨gb, i * 4, none⟩ = some u0 := (HB.out.cell (p := ⟨gb, i * 4, none⟩) hgb).trans (by have := hcb 0 _ rfl; simpa using this)
      have kb1 : wr.cell? ⟨gb, i * 4 + 1, none⟩ = some u1 := (HB.out.cell (p := ⟨gb, i * 4 + 1, none⟩) hgb).trans (hcb 1 _ rfl)
      have kb2 : wr.cell? ⟨gb, i * 4 + 2, none⟩ = some u2 := (HB.out.cell (p := ⟨gb, i * 4 + 2, none⟩) hgb).trans (hcb 2 _ rfl)
      have kb3 : wr.cell? ⟨gb, i * 4 + 3, none⟩ = some u3 := (HB.out.cell (p := ⟨gb, i * 4 + 3, none⟩) hgb).trans (hcb 3 _ rfl)
      have HE := Lib.hid (HL.out x hmem _ _ _ _ wr.drew ((hva.same _ _ _ (fun g hg => HB.out.block g (AtL.lt _ _ _ hva g hg))).same _ _ _ (fun _ _ => rfl)) ((hvb.same _ _ _ (fun g hg => HB.out.block g (AtL.lt _ _ _ hvb g hg))).same _ _ _ (fun _ _ => rfl)))
      have i1 : (i : Int) < (xs.length : Int) := by omega
      have i0 : (0 : Int) ≤ (i : Int) := by omega
      clear hca hcb hva hvb e1 hx hmem
      go_wp2_with fail
      go_region_law (
        go_simp
        go_at_call 39
        refine HE.out.mono ?_
        rintro e w2 ⟨rfl, hb2⟩
        have HB2 := Lib.hid (HB.out.trans ((Below.refl wr.heap.size wr).drew.trans hb2 |>.mono HB.out.size))
        clear hb2)
      all_goals
        go_wp2_with fail
        go_roundg (xs.length - (i + 1))
        case rel => exact ⟨i + 1, by omega, rfl, by go_num, HB2.out⟩
        case measure => rw [HG.out]; omega
    · have i1 : ¬ (i : Int) < (xs.length : Int) := by omega
      go_wp2_with fail
      go_ret
      exact ⟨rfl, HB.out⟩
set_option maxHeartbeats 4000000 in
theorem SameDecls_of (xs : List De) (a b : Option Addr) (n m ca cb : Nat) (S S' : List Nat) (w : World) (ha : At w (.row 41 4 (xs.flatMap declC)) S (.slice a n ca)) (hb : At w (.row 41 4 (xs.flatMap declC)) S' (.slice b m cb))
    (helem : ∀ x ∈ xs, ∀ (S S' : List Nat) (vx vy : List Value) (ww : World), AtL ww (declC x) S vx → AtL ww (declC x) S' vy → Calls Tryz.prog 38 #[.agg vx.toArray, .agg vy.toArray] ww fun e w' => e = .returned (.bool true) ∧ Below ww.heap.size ww w') :
    Calls Tryz.prog 21 #[.slice a n ca, .slice b m cb] w fun e w' => e = .returned (.bool true) ∧ Below w.heap.size w w' := by
  have hfl : ∀ x : De, (declC x).length = 4 := SameDecls_of_len
  have hn : xs.length = n := by have := ha.count; rw [flat_length declC 4 hfl] at this; omega
  have hm : xs.length = m := by have := hb.count; rw [flat_length declC 4 hfl] at this; omega
  have hl := ha.small
  subst hn
  subst hm
  unfold maxLen at hl
  have HA := Lib.hid (And.intro ha hb)
  have HL := Lib.hid helem
  clear ha hb helem
  have hll : (xs.length : Int) ≤ 9223372036854775807 := by omega
  clear hl
  go_enter Tryz.func21, Tryz.ntmps21
  go_wp2_with fail
  go_loopg [5] xs.length (fun g v wr => ∃ i : Nat, i ≤ xs.length ∧ g = xs.length - i ∧ v = .int .i64 i ∧ Below w.heap.size w wr)
  case atStart => exact ⟨0, by omega, rfl, rfl, Below.refl _ _⟩
  case round =>
    obtain ⟨i, hi, hgi, rfl, hbl⟩ := hrel
    have HB := Lib.hid hbl
    have HG := Lib.hid hgi
    clear hbl hgi
    by_cases hlt : i < xs.length
    · obtain ⟨x, hx⟩ : ∃ x, xs[i]? = some x := ⟨_, List.getElem?_eq_getElem hlt⟩
      have hmem : x ∈ xs := List.mem_of_getElem? hx
      have e1 : ((xs.flatMap declC).drop (i * 4)).take 4 = declC x := flat_elem _ 4 hfl xs i x hx
      obtain ⟨ga, va, Sa, rfl, hna, hga, hva, hca⟩ := HA.out.1.elem i hlt
      obtain ⟨gb, vb, Sb, rfl, hnb, hgb, hvb, hcb⟩ := HA.out.2.elem i hlt
      rw [e1] at hva hvb
      obtain ⟨v0, v1, v2, v3, rfl⟩ := list4 va ((AtL.length _ _ _ hva).trans (hfl x))
      obtain ⟨u0, u1, u2, u3, rfl⟩ := list4 vb ((AtL.length _ _ _ hvb).trans (hfl x))
      have ka0 : wr.cell? ⟨ga, i * 4, none⟩ = some v0 := (HB.out.cell (p := ⟨ga, i * 4, none⟩) hga).trans (by have := hca 0 _ rfl; simpa using this)
      have ka1 : wr.cell? ⟨ga, i * 4 + 1, none⟩ = some v1 := (HB.out.cell (p := ⟨ga, i * 4 + 1, none⟩) hga).trans (hca 1 _ rfl)
      have ka2 : wr.cell? ⟨ga, i * 4 + 2, none⟩ = some v2 := (HB.out.cell (p := ⟨ga, i * 4 + 2, none⟩) hga).trans (hca 2 _ rfl)
      have ka3 : wr.cell? ⟨ga, i * 4 + 3, none⟩ = some v3 := (HB.out.cell (p := ⟨ga, i * 4 + 3, none⟩) hga).trans (hca 3 _ rfl)
      have kb0 : wr.cell? ⟨gb, i * 4, none⟩ = some u0 := (HB.out.cell (p := ⟨gb, i * 4, none⟩) hgb).trans (by have := hcb 0 _ rfl; simpa using this)
      have kb1 : wr.cell? ⟨gb, i * 4 + 1, none⟩ = some u1 := (HB.out.cell (p := ⟨gb, i * 4 + 1, none⟩) hgb).trans (hcb 1 _ rfl)
      have kb2 : wr.cell? ⟨gb, i * 4 + 2, none⟩ = some u2 := (HB.out.cell (p := ⟨gb, i * 4 + 2, none⟩) hgb).trans (hcb 2 _ rfl)
      have kb3 : wr.cell? ⟨gb, i * 4 + 3, none⟩ = some u3 := (HB.out.cell (p := ⟨gb, i * 4 + 3, none⟩) hgb).trans (hcb 3 _ rfl)
      have HE := Lib.hid (HL.out x hmem _ _ _ _ wr.drew ((hva.same _ _ _ (fun g hg => HB.out.block g (AtL.lt _ _ _ hva g hg))).same _ _ _ (fun _ _ => rfl)) ((hvb.same _ _ _ (fun g hg => HB.out.block g (AtL.lt _ _ _ hvb g hg))).same _ _ _ (fun _ _ => rfl)))
      have i1 : (i : Int) < (xs.length : Int) := by omega
      have i0 : (0 : Int) ≤ (i : Int) := by omega
      clear hca hcb hva hvb e1 hx hmem
      go_wp2_with fail
      go_region_law (
        go_simp
        go_at_call 38
        refine HE.out.mono ?_
        rintro e w2 ⟨rfl, hb2⟩
        have HB2 := Lib.hid (HB.out.trans ((Below.refl wr.heap.size wr).drew.trans hb2 |>.mono HB.out.size))
        clear hb2)
      all_goals
        go_wp2_with fail
        go_roundg (xs.length - (i + 1))
        case rel => exact ⟨i + 1, by omega, rfl, by go_num, HB2.out⟩
        case measure => rw [HG.out]; omega
    · have i1 : ¬ (i : Int) < (xs.length : Int) := by omega
      go_wp2_with fail
      go_ret
      exact ⟨rfl, HB.out⟩
end Go.Proofs.YtngimijiafnheaaGreat
