/- Copies of rows. -/
import Derived.Test.YtngimijiafnheaaGreatRdWc
import Derived.OwnWalk
set_option maxRecDepth 100000
set_option linter.unusedSimpArgs false
namespace LexT
open Go Go.RowKit
set_option linter.unusedVariables false
theorem wpList_append_r {P : Program} {ops : Array Oper} {rest : List Oper} {o : Oper} {a : Act} {w : World} {Q : Exit → Act → World → Prop}
    (hg : o.guard = none) (s x : Operand) (t : TypeId) (hop : o.op = Op.call { callee := Callee.builtin Builtin.append, args := #[s, x], argTypes := #[t, t] })
    (e : TypeId) (i : TypeInfo) (z : Value) (size bytes : Nat) (ht : P.underlying t = some (.slice e)) (hi : P.info? e = some i) (hz : i.zero = some z)
    (hsize : i.size = size) (hby : i.bytes = bytes) (hzs : z.cells.size = size) (hsz : 0 < size)
    (v : Value) (n : Nat) (xs : List Value) (hs : a.eval s = v) (hown : w.ownsRow 0 e size v n xs)
    (ad : Addr) (m c : Nat) (hx : a.eval x = .slice (some ad) m c) (news : List Value) (hl : news.length = m * size) (hnews : ∀ j u, news[j]? = some u → w.cell? (ad.add j) = some u) (h1 : ∀ u ∈ news, u.oneCell' = true)
    (h63 : n + m ≤ maxLen) (hbytes : (n + m) * bytes ≤ 140737488355328)
    (hK : ∀ v' w', w'.ownsRow 0 e size v' (n + m) (xs ++ news) → w.grownBy w' v.ownBlock → (∀ k, v'.ownBlock = some k → v.ownBlock = some k ∨ w.heap.size ≤ k) → wpList P ops Q rest (a.put o.dst v') w') :
    wpList P ops Q (o :: rest) a w := by
  refine wpList_plain hg fun K hK' => ?_
  obtain ⟨v', w', hrun, h2, h3, h4⟩ := run_append_r (P := P) w t o.type e i z size bytes ht hi hz hsize hby hzs hsz v n xs hown ad m c news hl hnews h1 h63 hbytes
  unfold Oper.wp
  simp [execOp, hop, resolve, invoke, builtin, hs, hx, hrun, Result.andThen]
  exact hK' _ _ (hK _ _ h2 h3 h4)
theorem At.one {w : World} {c : Cell} {S : List Nat} {v : Value} (h : At w c S v) (hp : ∀ u, c = .p u → u.oneCell' = true) : v.oneCell' = true := by
  cases c with
  | p u => rw [h.unplain]; exact hp u rfl
  | row T k cs =>
    obtain ⟨ao, n, c, rfl⟩ := h.slice
    rfl
/-- What a copy of some cells is. -/
def CopP (cs : List Cell) (w : World) (e : Ending) (w' : World) : Prop := ∃ vy S', e = .returned (.agg vy.toArray) ∧ AtL w' cs S' vy ∧ S'.Nodup ∧ (∀ s ∈ S', w.heap.size ≤ s) ∧ Below w.heap.size w w'
def RowP (T : TypeId) (k : Nat) (cs : List Cell) (w : World) (e : Ending) (w' : World) : Prop := ∃ ao n c S', e = .returned (.slice ao n c) ∧ At w' (.row T k cs) S' (.slice ao n c) ∧ S'.Nodup ∧ (∀ s ∈ S', w.heap.size ≤ s) ∧ Below w.heap.size w w'
end LexT
namespace Go.Proofs.YtngimijiafnheaaGreat
open Go.Instr Go.RowKit LexT
set_option linter.unusedVariables false
theorem CopyWordRow_of_len (x : Wd) : (wdC 50 x).length = 3 := wdC_length _ x
theorem CopyAlts_of_len (x : Al) : (altC x).length = 6 := rfl
theorem CopyRules_of_len (x : Ru) : (ruleC x).length = 4 := rfl
theorem CopyDecls_of_len (x : De) : (declC x).length = 4 := rfl
theorem word_cells (x : Wd) {w : World} {S : List Nat} {v : List Value} (h : AtL w (wdC 50 x) S v) : ∀ u ∈ v, u.oneCell' = true := by
  cases x with
  | mk nm ws q =>
    obtain ⟨ao, n, c, Sa, rfl, _⟩ := wordParts h
    simp [Value.oneCell']
theorem alt_cells (x : Al) {w : World} {S : List Nat} {v : List Value} (h : AtL w (altC x) S v) : ∀ u ∈ v, u.oneCell' = true := by
  obtain ⟨ao, n, c, Sa, rfl, _⟩ := altParts h
  simp [Value.oneCell']
theorem rule_cells (x : Ru) {w : World} {S : List Nat} {v : List Value} (h : AtL w (ruleC x) S v) : ∀ u ∈ v, u.oneCell' = true := by
  obtain ⟨ao, n, c, Sa, bo, m, d, Sb, rfl, _⟩ := ruleParts h
  simp [Value.oneCell']
theorem decl_cells (x : De) {w : World} {S : List Nat} {v : List Value} (h : AtL w (declC x) S v) : ∀ u ∈ v, u.oneCell' = true := by
  obtain ⟨ao, n, c, Sa, rfl, _⟩ := declParts h
  simp [Value.oneCell']
set_option maxHeartbeats 4000000 in
theorem CopyWordRow_of (xs : List Wd) (a : Option Addr) (n ca : Nat) (S : List Nat) (w : World) (ha : At w (.row 50 3 (xs.flatMap (wdC 50))) S (.slice a n ca)) (hl : xs.length ≤ 100000)
    (helem : ∀ x ∈ xs, ∀ (S : List Nat) (vx : List Value) (ww : World), AtL ww (wdC 50 x) S vx → Calls Tryz.prog 127 #[.agg vx.toArray] ww (CopP (wdC 50 x) ww)) :
    Calls Tryz.prog 120 #[.slice a n ca] w (RowP 50 3 (xs.flatMap (wdC 50)) w) := by
  have hfl : ∀ x : Wd, (wdC 50 x).length = 3 := CopyWordRow_of_len
  have hn : xs.length = n := by have := ha.count; rw [flat_length (wdC 50) 3 hfl] at this; omega
  subst hn
  obtain ⟨i0, hi0, hz0, hz1, hz2⟩ := info_parts Tryz.infoWordB
  have HI := Lib.hid hi0
  have HZ := Lib.hid (And.intro hz0 (And.intro hz1 hz2))
  have HA := Lib.hid ha
  have HL := Lib.hid helem
  have hll : (xs.length : Int) ≤ 100000 := by omega
  have HLL := Lib.hid hl
  clear ha helem hi0 hz0 hz1 hz2 hl
  go_enter Tryz.func120, Tryz.ntmps120
  go_wp2_with fail
  go_loopg [3, 4] xs.length (fun g v u wr => ∃ (i : Nat) (ao : Option Addr) (m c : Nat) (So : List Nat), i ≤ xs.length ∧ g = xs.length - i ∧ u = .int .i64 i ∧ v = .slice ao m c ∧ At wr (.row 50 3 ((xs.take i).flatMap (wdC 50))) So (.slice ao m c) ∧ So.Nodup ∧ (∀ s ∈ So, w.heap.size ≤ s) ∧ Below w.heap.size w wr)
  case atStart => exact ⟨0, none, 0, 0, [], by omega, rfl, rfl, rfl, by simpa using At.empty w 50 3, List.nodup_nil, by simp, Below.refl _ _⟩
  case round =>
    obtain ⟨i, ao, m, c, So, hi, hgi, rfl, rfl, hat, hnd, hge, hbl⟩ := hrel
    have HB := Lib.hid hbl
    have HG := Lib.hid hgi
    have HO := Lib.hid (And.intro hat (And.intro hnd hge))
    clear hbl hgi hat hnd hge
    by_cases hlt : i < xs.length
    · obtain ⟨x, hx⟩ : ∃ x, xs[i]? = some x := ⟨_, List.getElem?_eq_getElem hlt⟩
      have hmem : x ∈ xs := List.mem_of_getElem? hx
      have e1 : ((xs.flatMap (wdC 50)).drop (i * 3)).take 3 = wdC 50 x := flat_elem _ 3 hfl xs i x hx
      have HTK : Hid ((xs.take (i + 1)).flatMap (wdC 50) = (xs.take i).flatMap (wdC 50) ++ wdC 50 x) := by
        show _ = _
        rw [List.take_add_one, hx, List.flatMap_append]; simp
      obtain ⟨ga, va, Sa, rfl, hna, hga, hva, hca⟩ := HA.out.elem i hlt
      rw [e1] at hva
      obtain ⟨v0, v1, v2, rfl⟩ := list3 va ((AtL.length _ _ _ hva).trans (hfl x))
      have ka0 : wr.cell? ⟨ga, i * 3, none⟩ = some v0 := (HB.out.cell (p := ⟨ga, i * 3, none⟩) hga).trans (by have := hca 0 _ rfl; simpa using this)
      have ka1 : wr.cell? ⟨ga, i * 3 + 1, none⟩ = some v1 := (HB.out.cell (p := ⟨ga, i * 3 + 1, none⟩) hga).trans (hca 1 _ rfl)
      have ka2 : wr.cell? ⟨ga, i * 3 + 2, none⟩ = some v2 := (HB.out.cell (p := ⟨ga, i * 3 + 2, none⟩) hga).trans (hca 2 _ rfl)
      have HE := Lib.hid (HL.out x hmem _ _ wr (hva.same _ _ _ (fun g hg => HB.out.block g (AtL.lt _ _ _ hva g hg))))
      have i1 : (i : Int) < (xs.length : Int) := by omega
      have i0' : (0 : Int) ≤ (i : Int) := by omega
      have HFL := Lib.hid (hfl x)
      clear hca hva e1 hx hmem
      go_wp2_with fail
      refine HE.out.mono ?_
      rintro e w2 ⟨vy, S2, rfl, hat2, hnd2, hge2, hb2⟩
      obtain ⟨nm, yo, yn, yc, yq, yws, hxm, hvy⟩ := AtL.word hat2
      subst hvy
      have HBW2 := Lib.hid hb2
      have HY := Lib.hid (And.intro hat2 (And.intro hnd2 hge2))
      have HONE := Lib.hid (word_cells x hat2)
      clear hat2 hnd2 hge2 hb2
      obtain ⟨W3, hW3⟩ : ∃ W3, W3 = w2.alloc (.cells #[.string (mkS nm), .slice yo yn yc, .int .i64 (yq : Int)] 50) := ⟨_, rfl⟩
      have hb3 : Below w2.heap.size w2 W3 := by rw [hW3]; exact (Below.refl _ _).alloc (Nat.le_refl _) _
      have hk3 : W3.heap[w2.heap.size]? = some (.cells #[.string (mkS nm), .slice yo yn yc, .int .i64 (yq : Int)] 50 (0, 0)) := by rw [hW3]; exact heap_alloc_new w2 _
      obtain ⟨⟨f0, f1, f2⟩, _⟩ := three_facts hk3
      have HW3 := Lib.hid hW3
      have HB3 := Lib.hid hb3
      clear hW3 hb3 hk3
      go_upto_region 6 with fail
      rw [← HW3.out]
      have HAPP : Hid (∃ nn xo So', At W3 (.row 50 3 ((xs.take i).flatMap (wdC 50))) So (.slice ao m c) ∧ ((xs.take i).flatMap (wdC 50)).length = nn * 3 ∧ nn = m ∧ W3.ownsRow 0 50 3 (.slice ao m c) nn xo ∧ So = ownL (.slice ao m c) ++ So' ∧ AtL W3 ((xs.take i).flatMap (wdC 50)) So' xo) := by
        have hat3 := (HO.out.1.same (w' := w2) _ _ _ (fun g hg => HBW2.out.block g (At.lt _ _ _ HO.out.1 g hg))).same (w' := W3) _ _ _ (fun g hg => HB3.out.block g (by have := At.lt _ _ _ HO.out.1 g hg; have := HBW2.out.size; omega))
        have h0 := hat3
        unfold At at h0
        obtain ⟨nn, xo, So', a1, a2, a3, a4⟩ := h0
        have hc := hat3.count
        exact ⟨nn, xo, So', hat3, a1, by omega, a2, a3, a4⟩
      obtain ⟨nn, xo, So', hat3, hc1, hnm, how, hSo, hAt'⟩ := HAPP.out
      subst hnm
      have HOW := Lib.hid (And.intro how (And.intro hc1 (And.intro hSo hAt')))
      clear hat3 hc1 how hSo hAt' HAPP
      have HNI := Lib.hid (show nn ≤ 100000 by have := HOW.out.2.1; rw [flat_length (wdC 50) 3 CopyWordRow_of_len, List.length_take] at this; have := HLL.out; omega)
      go_wp2_with (at_builtin; refine wpList_append_r rfl _ _ 45 rfl 50 i0 _ 3 48 Tryz.underlying45 HI.out HZ.out.1 HZ.out.2.1 HZ.out.2.2 rfl (by decide) _ nn xo rfl (own_same HOW.out.1 (fun g hg => Below.heap_alloc _ _ _ (HOW.out.1.lt g (mem_ownL.1 hg)).2)) ⟨W3.heap.size, 0, none⟩ 1 1 rfl [.string (mkS nm), .slice yo yn yc, .int .i64 (yq : Int)] rfl (new_cells W3 [.string (mkS nm), .slice yo yn yc, .int .i64 (yq : Int)] 50) HONE.out (by have := HNI.out; unfold maxLen; omega) (by have := HNI.out; omega) ?_; intro v4 W4 ho4 hg4 hnew4)
      obtain ⟨g4, c4, hv4⟩ := own_pos ho4 (by omega)
      subst hv4
      have hWB : Below W3.heap.size W3 (W3.alloc (.cells #[.string (mkS nm), .slice yo yn yc, .int .i64 (yq : Int)] 50)) := (Below.refl _ _).alloc (Nat.le_refl _) _
      have hd3 : AtL (W3.alloc (.cells #[.string (mkS nm), .slice yo yn yc, .int .i64 (yq : Int)] 50)) (wdC 50 x) S2 [.string (mkS nm), .slice yo yn yc, .int .i64 (yq : Int)] := (HY.out.1.same (w' := W3) _ _ _ (fun g hg => HB3.out.block g (AtL.lt _ _ _ HY.out.1 g hg))).same _ _ _ (fun g hg => hWB.block g (by have := AtL.lt _ _ _ HY.out.1 g hg; have := HB3.out.size; omega))
      obtain ⟨S5, hat5, hnd5, hge5⟩ := At.push (W := W3) (w := (W3.alloc (.cells #[.string (mkS nm), .slice yo yn yc, .int .i64 (yq : Int)] 50))) (m := 1) (S := So) HOW.out.2.1 ⟨So', own_same HOW.out.1 (fun g hg => Below.heap_alloc _ _ _ (HOW.out.1.lt g (mem_ownL.1 hg)).2), HOW.out.2.2.1, AtL.same _ _ _ HOW.out.2.2.2 (fun g hg => Below.heap_alloc _ _ _ (AtL.lt _ _ _ HOW.out.2.2.2 g hg))⟩ hd3 (CopyWordRow_of_len x)
        (by
          rw [List.nodup_append]
          refine ⟨HO.out.2.1, HY.out.2.1, fun y hy z hz hyz => ?_⟩
          subst hyz
          have := HY.out.2.2 y hz
          have := At.lt _ _ _ HO.out.1 y hy
          omega) ho4 hg4 hnew4
      have HB4 : Hid (Below w.heap.size w W4) := by
        have h1 : Below w.heap.size w (W3.alloc (.cells #[.string (mkS nm), .slice yo yn yc, .int .i64 (yq : Int)] 50)) := (HB.out.trans (HBW2.out.mono HB.out.size)).trans ((HB3.out.trans (hWB.mono HB3.out.size)).mono (by have := HB.out.size; have := HBW2.out.size; omega))
        exact h1.grown hg4 h1.size (fun g hg => by
          have : g ∈ So := by rw [HOW.out.2.2.1]; exact List.mem_append_left _ (mem_ownL.2 hg)
          exact HO.out.2.2 g this)
      have H5 := Lib.hid (And.intro hat5 (And.intro hnd5 hge5))
      clear hat5 hnd5 hge5 hd3 hWB ho4 hg4 hnew4
      go_wp2_with fail
      go_roundg (xs.length - (i + 1))
      case rel =>
        refine ⟨i + 1, _, _, _, S5, by omega, rfl, by go_num, rfl, by rw [HTK.out]; exact H5.out.1, H5.out.2.1, ?_, HB4.out⟩
        intro s hs
        rcases H5.out.2.2 s hs with h9 | h9 | h9
        · exact HO.out.2.2 s h9
        · have := HY.out.2.2 s h9; have := HB.out.size; omega
        · have := HB.out.size; have := HBW2.out.size; have := HB3.out.size; simp at h9; omega
      case measure => rw [HG.out]; omega
    · have i1 : ¬ (i : Int) < (xs.length : Int) := by omega
      have hie : i = xs.length := by omega
      go_wp2_with fail
      go_ret
      refine ⟨ao, m, c, So, rfl, ?_, HO.out.2.1, HO.out.2.2, HB.out⟩
      have := HO.out.1
      rw [hie, List.take_length] at this
      exact this
set_option maxHeartbeats 4000000 in
theorem CopyAlts_of (xs : List Al) (a : Option Addr) (n ca : Nat) (S : List Nat) (w : World) (ha : At w (.row 47 6 (xs.flatMap altC)) S (.slice a n ca)) (hl : xs.length ≤ 100000)
    (helem : ∀ x ∈ xs, ∀ (S : List Nat) (vx : List Value) (ww : World), AtL ww (altC x) S vx → Calls Tryz.prog 113 #[.agg vx.toArray] ww (CopP (altC x) ww)) :
    Calls Tryz.prog 99 #[.slice a n ca] w (RowP 47 6 (xs.flatMap altC) w) := by
  have hfl : ∀ x : Al, (altC x).length = 6 := CopyAlts_of_len
  have hn : xs.length = n := by have := ha.count; rw [flat_length (altC) 6 hfl] at this; omega
  subst hn
  obtain ⟨i0, hi0, hz0, hz1, hz2⟩ := info_parts Tryz.infoAlt
  have HI := Lib.hid hi0
  have HZ := Lib.hid (And.intro hz0 (And.intro hz1 hz2))
  have HA := Lib.hid ha
  have HL := Lib.hid helem
  have hll : (xs.length : Int) ≤ 100000 := by omega
  have HLL := Lib.hid hl
  clear ha helem hi0 hz0 hz1 hz2 hl
  go_enter Tryz.func99, Tryz.ntmps99
  go_wp2_with fail
  go_loopg [3, 4] xs.length (fun g v u wr => ∃ (i : Nat) (ao : Option Addr) (m c : Nat) (So : List Nat), i ≤ xs.length ∧ g = xs.length - i ∧ u = .int .i64 i ∧ v = .slice ao m c ∧ At wr (.row 47 6 ((xs.take i).flatMap altC)) So (.slice ao m c) ∧ So.Nodup ∧ (∀ s ∈ So, w.heap.size ≤ s) ∧ Below w.heap.size w wr)
  case atStart => exact ⟨0, none, 0, 0, [], by omega, rfl, rfl, rfl, by simpa using At.empty w 47 6, List.nodup_nil, by simp, Below.refl _ _⟩
  case round =>
    obtain ⟨i, ao, m, c, So, hi, hgi, rfl, rfl, hat, hnd, hge, hbl⟩ := hrel
    have HB := Lib.hid hbl
    have HG := Lib.hid hgi
    have HO := Lib.hid (And.intro hat (And.intro hnd hge))
    clear hbl hgi hat hnd hge
    by_cases hlt : i < xs.length
    · obtain ⟨x, hx⟩ : ∃ x, xs[i]? = some x := ⟨_, List.getElem?_eq_getElem hlt⟩
      have hmem : x ∈ xs := List.mem_of_getElem? hx
      have e1 : ((xs.flatMap altC).drop (i * 6)).take 6 = altC x := flat_elem _ 6 hfl xs i x hx
      have HTK : Hid ((xs.take (i + 1)).flatMap altC = (xs.take i).flatMap altC ++ altC x) := by
        show _ = _
        rw [List.take_add_one, hx, List.flatMap_append]; simp
      obtain ⟨ga, va, Sa, rfl, hna, hga, hva, hca⟩ := HA.out.elem i hlt
      rw [e1] at hva
      obtain ⟨v0, v1, v2, v3, v4, v5, rfl⟩ := list6 va ((AtL.length _ _ _ hva).trans (hfl x))
      have ka0 : wr.cell? ⟨ga, i * 6, none⟩ = some v0 := (HB.out.cell (p := ⟨ga, i * 6, none⟩) hga).trans (by have := hca 0 _ rfl; simpa using this)
      have ka1 : wr.cell? ⟨ga, i * 6 + 1, none⟩ = some v1 := (HB.out.cell (p := ⟨ga, i * 6 + 1, none⟩) hga).trans (hca 1 _ rfl)
      have ka2 : wr.cell? ⟨ga, i * 6 + 2, none⟩ = some v2 := (HB.out.cell (p := ⟨ga, i * 6 + 2, none⟩) hga).trans (hca 2 _ rfl)
      have ka3 : wr.cell? ⟨ga, i * 6 + 3, none⟩ = some v3 := (HB.out.cell (p := ⟨ga, i * 6 + 3, none⟩) hga).trans (hca 3 _ rfl)
      have ka4 : wr.cell? ⟨ga, i * 6 + 4, none⟩ = some v4 := (HB.out.cell (p := ⟨ga, i * 6 + 4, none⟩) hga).trans (hca 4 _ rfl)
      have ka5 : wr.cell? ⟨ga, i * 6 + 5, none⟩ = some v5 := (HB.out.cell (p := ⟨ga, i * 6 + 5, none⟩) hga).trans (hca 5 _ rfl)
      have HE := Lib.hid (HL.out x hmem _ _ wr (hva.same _ _ _ (fun g hg => HB.out.block g (AtL.lt _ _ _ hva g hg))))
      have i1 : (i : Int) < (xs.length : Int) := by omega
      have i0' : (0 : Int) ≤ (i : Int) := by omega
      have HFL := Lib.hid (hfl x)
      clear hca hva e1 hx hmem
      go_wp2_with fail
      refine HE.out.mono ?_
      rintro e w2 ⟨vy, S2, rfl, hat2, hnd2, hge2, hb2⟩
      obtain ⟨yo, yn, yc, hvy⟩ := altAt hat2
      obtain ⟨wv, hwv⟩ : ∃ wv : Int, IntKind.i64.wrap (x.where_ : Int) = wv := ⟨_, rfl⟩
      rw [hwv] at hvy
      clear hwv
      subst hvy
      have HBW2 := Lib.hid hb2
      have HY := Lib.hid (And.intro hat2 (And.intro hnd2 hge2))
      have HONE := Lib.hid (alt_cells x hat2)
      clear hat2 hnd2 hge2 hb2
      obtain ⟨W3, hW3⟩ : ∃ W3, W3 = w2.alloc (.cells #[.slice yo yn yc, .string (mkS x.prec), .bool x.has, .string (mkS x.action), .int .i64 wv, .int .i64 (x.at_ : Int)] 47) := ⟨_, rfl⟩
      have hb3 : Below w2.heap.size w2 W3 := by rw [hW3]; exact (Below.refl _ _).alloc (Nat.le_refl _) _
      have hk3 : W3.heap[w2.heap.size]? = some (.cells #[.slice yo yn yc, .string (mkS x.prec), .bool x.has, .string (mkS x.action), .int .i64 wv, .int .i64 (x.at_ : Int)] 47 (0, 0)) := by rw [hW3]; exact heap_alloc_new w2 _
      obtain ⟨⟨f0, f1, f2, f3, f4, f5⟩, _⟩ := six_facts hk3
      have HW3 := Lib.hid hW3
      have HB3 := Lib.hid hb3
      clear hW3 hb3 hk3
      go_upto_region 6 with fail
      rw [← HW3.out]
      have HAPP : Hid (∃ nn xo So', At W3 (.row 47 6 ((xs.take i).flatMap altC)) So (.slice ao m c) ∧ ((xs.take i).flatMap altC).length = nn * 6 ∧ nn = m ∧ W3.ownsRow 0 47 6 (.slice ao m c) nn xo ∧ So = ownL (.slice ao m c) ++ So' ∧ AtL W3 ((xs.take i).flatMap altC) So' xo) := by
        have hat3 := (HO.out.1.same (w' := w2) _ _ _ (fun g hg => HBW2.out.block g (At.lt _ _ _ HO.out.1 g hg))).same (w' := W3) _ _ _ (fun g hg => HB3.out.block g (by have := At.lt _ _ _ HO.out.1 g hg; have := HBW2.out.size; omega))
        have h0 := hat3
        unfold At at h0
        obtain ⟨nn, xo, So', a1, a2, a3, a4⟩ := h0
        have hc := hat3.count
        exact ⟨nn, xo, So', hat3, a1, by omega, a2, a3, a4⟩
      obtain ⟨nn, xo, So', hat3, hc1, hnm, how, hSo, hAt'⟩ := HAPP.out
      subst hnm
      have HOW := Lib.hid (And.intro how (And.intro hc1 (And.intro hSo hAt')))
      clear hat3 hc1 how hSo hAt' HAPP
      have HNI := Lib.hid (show nn ≤ 100000 by have := HOW.out.2.1; rw [flat_length (altC) 6 CopyAlts_of_len, List.length_take] at this; have := HLL.out; omega)
      go_wp2_with (at_builtin; refine wpList_append_r rfl _ _ 42 rfl 47 i0 _ 6 80 Tryz.underlying42 HI.out HZ.out.1 HZ.out.2.1 HZ.out.2.2 rfl (by decide) _ nn xo rfl (own_same HOW.out.1 (fun g hg => Below.heap_alloc _ _ _ (HOW.out.1.lt g (mem_ownL.1 hg)).2)) ⟨W3.heap.size, 0, none⟩ 1 1 rfl [.slice yo yn yc, .string (mkS x.prec), .bool x.has, .string (mkS x.action), .int .i64 wv, .int .i64 (x.at_ : Int)] rfl (new_cells W3 [.slice yo yn yc, .string (mkS x.prec), .bool x.has, .string (mkS x.action), .int .i64 wv, .int .i64 (x.at_ : Int)] 47) HONE.out (by have := HNI.out; unfold maxLen; omega) (by have := HNI.out; omega) ?_; intro v4 W4 ho4 hg4 hnew4)
      obtain ⟨g4, c4, hv4⟩ := own_pos ho4 (by omega)
      subst hv4
      have hWB : Below W3.heap.size W3 (W3.alloc (.cells #[.slice yo yn yc, .string (mkS x.prec), .bool x.has, .string (mkS x.action), .int .i64 wv, .int .i64 (x.at_ : Int)] 47)) := (Below.refl _ _).alloc (Nat.le_refl _) _
      have hd3 : AtL (W3.alloc (.cells #[.slice yo yn yc, .string (mkS x.prec), .bool x.has, .string (mkS x.action), .int .i64 wv, .int .i64 (x.at_ : Int)] 47)) (altC x) S2 [.slice yo yn yc, .string (mkS x.prec), .bool x.has, .string (mkS x.action), .int .i64 wv, .int .i64 (x.at_ : Int)] := (HY.out.1.same (w' := W3) _ _ _ (fun g hg => HB3.out.block g (AtL.lt _ _ _ HY.out.1 g hg))).same _ _ _ (fun g hg => hWB.block g (by have := AtL.lt _ _ _ HY.out.1 g hg; have := HB3.out.size; omega))
      obtain ⟨S5, hat5, hnd5, hge5⟩ := At.push (W := W3) (w := (W3.alloc (.cells #[.slice yo yn yc, .string (mkS x.prec), .bool x.has, .string (mkS x.action), .int .i64 wv, .int .i64 (x.at_ : Int)] 47))) (m := 1) (S := So) HOW.out.2.1 ⟨So', own_same HOW.out.1 (fun g hg => Below.heap_alloc _ _ _ (HOW.out.1.lt g (mem_ownL.1 hg)).2), HOW.out.2.2.1, AtL.same _ _ _ HOW.out.2.2.2 (fun g hg => Below.heap_alloc _ _ _ (AtL.lt _ _ _ HOW.out.2.2.2 g hg))⟩ hd3 (CopyAlts_of_len x)
        (by
          rw [List.nodup_append]
          refine ⟨HO.out.2.1, HY.out.2.1, fun y hy z hz hyz => ?_⟩
          subst hyz
          have := HY.out.2.2 y hz
          have := At.lt _ _ _ HO.out.1 y hy
          omega) ho4 hg4 hnew4
      have HB4 : Hid (Below w.heap.size w W4) := by
        have h1 : Below w.heap.size w (W3.alloc (.cells #[.slice yo yn yc, .string (mkS x.prec), .bool x.has, .string (mkS x.action), .int .i64 wv, .int .i64 (x.at_ : Int)] 47)) := (HB.out.trans (HBW2.out.mono HB.out.size)).trans ((HB3.out.trans (hWB.mono HB3.out.size)).mono (by have := HB.out.size; have := HBW2.out.size; omega))
        exact h1.grown hg4 h1.size (fun g hg => by
          have : g ∈ So := by rw [HOW.out.2.2.1]; exact List.mem_append_left _ (mem_ownL.2 hg)
          exact HO.out.2.2 g this)
      have H5 := Lib.hid (And.intro hat5 (And.intro hnd5 hge5))
      clear hat5 hnd5 hge5 hd3 hWB ho4 hg4 hnew4
      go_wp2_with fail
      go_roundg (xs.length - (i + 1))
      case rel =>
        refine ⟨i + 1, _, _, _, S5, by omega, rfl, by go_num, rfl, by rw [HTK.out]; exact H5.out.1, H5.out.2.1, ?_, HB4.out⟩
        intro s hs
        rcases H5.out.2.2 s hs with h9 | h9 | h9
        · exact HO.out.2.2 s h9
        · have := HY.out.2.2 s h9; have := HB.out.size; omega
        · have := HB.out.size; have := HBW2.out.size; have := HB3.out.size; simp at h9; omega
      case measure => rw [HG.out]; omega
    · have i1 : ¬ (i : Int) < (xs.length : Int) := by omega
      have hie : i = xs.length := by omega
      go_wp2_with fail
      go_ret
      refine ⟨ao, m, c, So, rfl, ?_, HO.out.2.1, HO.out.2.2, HB.out⟩
      have := HO.out.1
      rw [hie, List.take_length] at this
      exact this
set_option maxHeartbeats 4000000 in
theorem CopyRules_of (xs : List Ru) (a : Option Addr) (n ca : Nat) (S : List Nat) (w : World) (ha : At w (.row 44 4 (xs.flatMap ruleC)) S (.slice a n ca)) (hl : xs.length ≤ 100000)
    (helem : ∀ x ∈ xs, ∀ (S : List Nat) (vx : List Value) (ww : World), AtL ww (ruleC x) S vx → Calls Tryz.prog 72 #[.agg vx.toArray] ww (CopP (ruleC x) ww)) :
    Calls Tryz.prog 41 #[.slice a n ca] w (RowP 44 4 (xs.flatMap ruleC) w) := by
  have hfl : ∀ x : Ru, (ruleC x).length = 4 := CopyRules_of_len
  have hn : xs.length = n := by have := ha.count; rw [flat_length (ruleC) 4 hfl] at this; omega
  subst hn
  obtain ⟨i0, hi0, hz0, hz1, hz2⟩ := info_parts Tryz.infoRule
  have HI := Lib.hid hi0
  have HZ := Lib.hid (And.intro hz0 (And.intro hz1 hz2))
  have HA := Lib.hid ha
  have HL := Lib.hid helem
  have hll : (xs.length : Int) ≤ 100000 := by omega
  have HLL := Lib.hid hl
  clear ha helem hi0 hz0 hz1 hz2 hl
  go_enter Tryz.func41, Tryz.ntmps41
  go_wp2_with fail
  go_loopg [3, 4] xs.length (fun g v u wr => ∃ (i : Nat) (ao : Option Addr) (m c : Nat) (So : List Nat), i ≤ xs.length ∧ g = xs.length - i ∧ u = .int .i64 i ∧ v = .slice ao m c ∧ At wr (.row 44 4 ((xs.take i).flatMap ruleC)) So (.slice ao m c) ∧ So.Nodup ∧ (∀ s ∈ So, w.heap.size ≤ s) ∧ Below w.heap.size w wr)
  case atStart => exact ⟨0, none, 0, 0, [], by omega, rfl, rfl, rfl, by simpa using At.empty w 44 4, List.nodup_nil, by simp, Below.refl _ _⟩
  case round =>
    obtain ⟨i, ao, m, c, So, hi, hgi, rfl, rfl, hat, hnd, hge, hbl⟩ := hrel
    have HB := Lib.hid hbl
    have HG := Lib.hid hgi
    have HO := Lib.hid (And.intro hat (And.intro hnd hge))
    clear hbl hgi hat hnd hge
    by_cases hlt : i < xs.length
    · obtain ⟨x, hx⟩ : ∃ x, xs[i]? = some x := ⟨_, List.getElem?_eq_getElem hlt⟩
      have hmem : x ∈ xs := List.mem_of_getElem? hx
      have e1 : ((xs.flatMap ruleC).drop (i * 4)).take 4 = ruleC x := flat_elem _ 4 hfl xs i x hx
      have HTK : Hid ((xs.take (i + 1)).flatMap ruleC = (xs.take i).flatMap ruleC ++ ruleC x) := by
        show _ = _
        rw [List.take_add_one, hx, List.flatMap_append]; simp
      obtain ⟨ga, va, Sa, rfl, hna, hga, hva, hca⟩ := HA.out.elem i hlt
      rw [e1] at hva
      obtain ⟨v0, v1, v2, v3, rfl⟩ := list4 va ((AtL.length _ _ _ hva).trans (hfl x))
      have ka0 : wr.cell? ⟨ga, i * 4, none⟩ = some v0 := (HB.out.cell (p := ⟨ga, i * 4, none⟩) hga).trans (by have := hca 0 _ rfl; simpa using this)
      have ka1 : wr.cell? ⟨ga, i * 4 + 1, none⟩ = some v1 := (HB.out.cell (p := ⟨ga, i * 4 + 1, none⟩) hga).trans (hca 1 _ rfl)
      have ka2 : wr.cell? ⟨ga, i * 4 + 2, none⟩ = some v2 := (HB.out.cell (p := ⟨ga, i * 4 + 2, none⟩) hga).trans (hca 2 _ rfl)
      have ka3 : wr.cell? ⟨ga, i * 4 + 3, none⟩ = some v3 := (HB.out.cell (p := ⟨ga, i * 4 + 3, none⟩) hga).trans (hca 3 _ rfl)
      have HE := Lib.hid (HL.out x hmem _ _ wr (hva.same _ _ _ (fun g hg => HB.out.block g (AtL.lt _ _ _ hva g hg))))
      have i1 : (i : Int) < (xs.length : Int) := by omega
      have i0' : (0 : Int) ≤ (i : Int) := by omega
      have HFL := Lib.hid (hfl x)
      clear hca hva e1 hx hmem
      go_wp2_with fail
      refine HE.out.mono ?_
      rintro e w2 ⟨vy, S2, rfl, hat2, hnd2, hge2, hb2⟩
      obtain ⟨yo, yn, yc, zo, zn, zc, hvy⟩ := ruleAt hat2
      subst hvy
      have HBW2 := Lib.hid hb2
      have HY := Lib.hid (And.intro hat2 (And.intro hnd2 hge2))
      have HONE := Lib.hid (rule_cells x hat2)
      clear hat2 hnd2 hge2 hb2
      obtain ⟨W3, hW3⟩ : ∃ W3, W3 = w2.alloc (.cells #[.string (mkS x.name), .slice yo yn yc, .slice zo zn zc, .int .i64 (x.at_ : Int)] 44) := ⟨_, rfl⟩
      have hb3 : Below w2.heap.size w2 W3 := by rw [hW3]; exact (Below.refl _ _).alloc (Nat.le_refl _) _
      have hk3 : W3.heap[w2.heap.size]? = some (.cells #[.string (mkS x.name), .slice yo yn yc, .slice zo zn zc, .int .i64 (x.at_ : Int)] 44 (0, 0)) := by rw [hW3]; exact heap_alloc_new w2 _
      obtain ⟨⟨f0, f1, f2, f3⟩, _⟩ := four_facts hk3
      have HW3 := Lib.hid hW3
      have HB3 := Lib.hid hb3
      clear hW3 hb3 hk3
      go_upto_region 6 with fail
      rw [← HW3.out]
      have HAPP : Hid (∃ nn xo So', At W3 (.row 44 4 ((xs.take i).flatMap ruleC)) So (.slice ao m c) ∧ ((xs.take i).flatMap ruleC).length = nn * 4 ∧ nn = m ∧ W3.ownsRow 0 44 4 (.slice ao m c) nn xo ∧ So = ownL (.slice ao m c) ++ So' ∧ AtL W3 ((xs.take i).flatMap ruleC) So' xo) := by
        have hat3 := (HO.out.1.same (w' := w2) _ _ _ (fun g hg => HBW2.out.block g (At.lt _ _ _ HO.out.1 g hg))).same (w' := W3) _ _ _ (fun g hg => HB3.out.block g (by have := At.lt _ _ _ HO.out.1 g hg; have := HBW2.out.size; omega))
        have h0 := hat3
        unfold At at h0
        obtain ⟨nn, xo, So', a1, a2, a3, a4⟩ := h0
        have hc := hat3.count
        exact ⟨nn, xo, So', hat3, a1, by omega, a2, a3, a4⟩
      obtain ⟨nn, xo, So', hat3, hc1, hnm, how, hSo, hAt'⟩ := HAPP.out
      subst hnm
      have HOW := Lib.hid (And.intro how (And.intro hc1 (And.intro hSo hAt')))
      clear hat3 hc1 how hSo hAt' HAPP
      have HNI := Lib.hid (show nn ≤ 100000 by have := HOW.out.2.1; rw [flat_length (ruleC) 4 CopyRules_of_len, List.length_take] at this; have := HLL.out; omega)
      go_wp2_with (at_builtin; refine wpList_append_r rfl _ _ 23 rfl 44 i0 _ 4 72 Tryz.underlying23 HI.out HZ.out.1 HZ.out.2.1 HZ.out.2.2 rfl (by decide) _ nn xo rfl (own_same HOW.out.1 (fun g hg => Below.heap_alloc _ _ _ (HOW.out.1.lt g (mem_ownL.1 hg)).2)) ⟨W3.heap.size, 0, none⟩ 1 1 rfl [.string (mkS x.name), .slice yo yn yc, .slice zo zn zc, .int .i64 (x.at_ : Int)] rfl (new_cells W3 [.string (mkS x.name), .slice yo yn yc, .slice zo zn zc, .int .i64 (x.at_ : Int)] 44) HONE.out (by have := HNI.out; unfold maxLen; omega) (by have := HNI.out; omega) ?_; intro v4 W4 ho4 hg4 hnew4)
      obtain ⟨g4, c4, hv4⟩ := own_pos ho4 (by omega)
      subst hv4
      have hWB : Below W3.heap.size W3 (W3.alloc (.cells #[.string (mkS x.name), .slice yo yn yc, .slice zo zn zc, .int .i64 (x.at_ : Int)] 44)) := (Below.refl _ _).alloc (Nat.le_refl _) _
      have hd3 : AtL (W3.alloc (.cells #[.string (mkS x.name), .slice yo yn yc, .slice zo zn zc, .int .i64 (x.at_ : Int)] 44)) (ruleC x) S2 [.string (mkS x.name), .slice yo yn yc, .slice zo zn zc, .int .i64 (x.at_ : Int)] := (HY.out.1.same (w' := W3) _ _ _ (fun g hg => HB3.out.block g (AtL.lt _ _ _ HY.out.1 g hg))).same _ _ _ (fun g hg => hWB.block g (by have := AtL.lt _ _ _ HY.out.1 g hg; have := HB3.out.size; omega))
      obtain ⟨S5, hat5, hnd5, hge5⟩ := At.push (W := W3) (w := (W3.alloc (.cells #[.string (mkS x.name), .slice yo yn yc, .slice zo zn zc, .int .i64 (x.at_ : Int)] 44))) (m := 1) (S := So) HOW.out.2.1 ⟨So', own_same HOW.out.1 (fun g hg => Below.heap_alloc _ _ _ (HOW.out.1.lt g (mem_ownL.1 hg)).2), HOW.out.2.2.1, AtL.same _ _ _ HOW.out.2.2.2 (fun g hg => Below.heap_alloc _ _ _ (AtL.lt _ _ _ HOW.out.2.2.2 g hg))⟩ hd3 (CopyRules_of_len x)
        (by
          rw [List.nodup_append]
          refine ⟨HO.out.2.1, HY.out.2.1, fun y hy z hz hyz => ?_⟩
          subst hyz
          have := HY.out.2.2 y hz
          have := At.lt _ _ _ HO.out.1 y hy
          omega) ho4 hg4 hnew4
      have HB4 : Hid (Below w.heap.size w W4) := by
        have h1 : Below w.heap.size w (W3.alloc (.cells #[.string (mkS x.name), .slice yo yn yc, .slice zo zn zc, .int .i64 (x.at_ : Int)] 44)) := (HB.out.trans (HBW2.out.mono HB.out.size)).trans ((HB3.out.trans (hWB.mono HB3.out.size)).mono (by have := HB.out.size; have := HBW2.out.size; omega))
        exact h1.grown hg4 h1.size (fun g hg => by
          have : g ∈ So := by rw [HOW.out.2.2.1]; exact List.mem_append_left _ (mem_ownL.2 hg)
          exact HO.out.2.2 g this)
      have H5 := Lib.hid (And.intro hat5 (And.intro hnd5 hge5))
      clear hat5 hnd5 hge5 hd3 hWB ho4 hg4 hnew4
      go_wp2_with fail
      go_roundg (xs.length - (i + 1))
      case rel =>
        refine ⟨i + 1, _, _, _, S5, by omega, rfl, by go_num, rfl, by rw [HTK.out]; exact H5.out.1, H5.out.2.1, ?_, HB4.out⟩
        intro s hs
        rcases H5.out.2.2 s hs with h9 | h9 | h9
        · exact HO.out.2.2 s h9
        · have := HY.out.2.2 s h9; have := HB.out.size; omega
        · have := HB.out.size; have := HBW2.out.size; have := HB3.out.size; simp at h9; omega
      case measure => rw [HG.out]; omega
    · have i1 : ¬ (i : Int) < (xs.length : Int) := by omega
      have hie : i = xs.length := by omega
      go_wp2_with fail
      go_ret
      refine ⟨ao, m, c, So, rfl, ?_, HO.out.2.1, HO.out.2.2, HB.out⟩
      have := HO.out.1
      rw [hie, List.take_length] at this
      exact this
set_option maxHeartbeats 4000000 in
theorem CopyDecls_of (xs : List De) (a : Option Addr) (n ca : Nat) (S : List Nat) (w : World) (ha : At w (.row 41 4 (xs.flatMap declC)) S (.slice a n ca)) (hl : xs.length ≤ 100000)
    (helem : ∀ x ∈ xs, ∀ (S : List Nat) (vx : List Value) (ww : World), AtL ww (declC x) S vx → Calls Tryz.prog 71 #[.agg vx.toArray] ww (CopP (declC x) ww)) :
    Calls Tryz.prog 40 #[.slice a n ca] w (RowP 41 4 (xs.flatMap declC) w) := by
  have hfl : ∀ x : De, (declC x).length = 4 := CopyDecls_of_len
  have hn : xs.length = n := by have := ha.count; rw [flat_length (declC) 4 hfl] at this; omega
  subst hn
  obtain ⟨i0, hi0, hz0, hz1, hz2⟩ := info_parts Tryz.infoDecl
  have HI := Lib.hid hi0
  have HZ := Lib.hid (And.intro hz0 (And.intro hz1 hz2))
  have HA := Lib.hid ha
  have HL := Lib.hid helem
  have hll : (xs.length : Int) ≤ 100000 := by omega
  have HLL := Lib.hid hl
  clear ha helem hi0 hz0 hz1 hz2 hl
  go_enter Tryz.func40, Tryz.ntmps40
  go_wp2_with fail
  go_loopg [3, 4] xs.length (fun g v u wr => ∃ (i : Nat) (ao : Option Addr) (m c : Nat) (So : List Nat), i ≤ xs.length ∧ g = xs.length - i ∧ u = .int .i64 i ∧ v = .slice ao m c ∧ At wr (.row 41 4 ((xs.take i).flatMap declC)) So (.slice ao m c) ∧ So.Nodup ∧ (∀ s ∈ So, w.heap.size ≤ s) ∧ Below w.heap.size w wr)
  case atStart => exact ⟨0, none, 0, 0, [], by omega, rfl, rfl, rfl, by simpa using At.empty w 41 4, List.nodup_nil, by simp, Below.refl _ _⟩
  case round =>
    obtain ⟨i, ao, m, c, So, hi, hgi, rfl, rfl, hat, hnd, hge, hbl⟩ := hrel
    have HB := Lib.hid hbl
    have HG := Lib.hid hgi
    have HO := Lib.hid (And.intro hat (And.intro hnd hge))
    clear hbl hgi hat hnd hge
    by_cases hlt : i < xs.length
    · obtain ⟨x, hx⟩ : ∃ x, xs[i]? = some x := ⟨_, List.getElem?_eq_getElem hlt⟩
      have hmem : x ∈ xs := List.mem_of_getElem? hx
      have e1 : ((xs.flatMap declC).drop (i * 4)).take 4 = declC x := flat_elem _ 4 hfl xs i x hx
      have HTK : Hid ((xs.take (i + 1)).flatMap declC = (xs.take i).flatMap declC ++ declC x) := by
        show _ = _
        rw [List.take_add_one, hx, List.flatMap_append]; simp
      obtain ⟨ga, va, Sa, rfl, hna, hga, hva, hca⟩ := HA.out.elem i hlt
      rw [e1] at hva
      obtain ⟨v0, v1, v2, v3, rfl⟩ := list4 va ((AtL.length _ _ _ hva).trans (hfl x))
      have ka0 : wr.cell? ⟨ga, i * 4, none⟩ = some v0 := (HB.out.cell (p := ⟨ga, i * 4, none⟩) hga).trans (by have := hca 0 _ rfl; simpa using this)
      have ka1 : wr.cell? ⟨ga, i * 4 + 1, none⟩ = some v1 := (HB.out.cell (p := ⟨ga, i * 4 + 1, none⟩) hga).trans (hca 1 _ rfl)
      have ka2 : wr.cell? ⟨ga, i * 4 + 2, none⟩ = some v2 := (HB.out.cell (p := ⟨ga, i * 4 + 2, none⟩) hga).trans (hca 2 _ rfl)
      have ka3 : wr.cell? ⟨ga, i * 4 + 3, none⟩ = some v3 := (HB.out.cell (p := ⟨ga, i * 4 + 3, none⟩) hga).trans (hca 3 _ rfl)
      have HE := Lib.hid (HL.out x hmem _ _ wr (hva.same _ _ _ (fun g hg => HB.out.block g (AtL.lt _ _ _ hva g hg))))
      have i1 : (i : Int) < (xs.length : Int) := by omega
      have i0' : (0 : Int) ≤ (i : Int) := by omega
      have HFL := Lib.hid (hfl x)
      clear hca hva e1 hx hmem
      go_wp2_with fail
      refine HE.out.mono ?_
      rintro e w2 ⟨vy, S2, rfl, hat2, hnd2, hge2, hb2⟩
      obtain ⟨yo, yn, yc, hvy⟩ := declAt hat2
      subst hvy
      have HBW2 := Lib.hid hb2
      have HY := Lib.hid (And.intro hat2 (And.intro hnd2 hge2))
      have HONE := Lib.hid (decl_cells x hat2)
      clear hat2 hnd2 hge2 hb2
      obtain ⟨W3, hW3⟩ : ∃ W3, W3 = w2.alloc (.cells #[.string (mkS x.kind), .string (mkS x.type), .slice yo yn yc, .int .i64 (x.at_ : Int)] 41) := ⟨_, rfl⟩
      have hb3 : Below w2.heap.size w2 W3 := by rw [hW3]; exact (Below.refl _ _).alloc (Nat.le_refl _) _
      have hk3 : W3.heap[w2.heap.size]? = some (.cells #[.string (mkS x.kind), .string (mkS x.type), .slice yo yn yc, .int .i64 (x.at_ : Int)] 41 (0, 0)) := by rw [hW3]; exact heap_alloc_new w2 _
      obtain ⟨⟨f0, f1, f2, f3⟩, _⟩ := four_facts hk3
      have HW3 := Lib.hid hW3
      have HB3 := Lib.hid hb3
      clear hW3 hb3 hk3
      go_upto_region 6 with fail
      rw [← HW3.out]
      have HAPP : Hid (∃ nn xo So', At W3 (.row 41 4 ((xs.take i).flatMap declC)) So (.slice ao m c) ∧ ((xs.take i).flatMap declC).length = nn * 4 ∧ nn = m ∧ W3.ownsRow 0 41 4 (.slice ao m c) nn xo ∧ So = ownL (.slice ao m c) ++ So' ∧ AtL W3 ((xs.take i).flatMap declC) So' xo) := by
        have hat3 := (HO.out.1.same (w' := w2) _ _ _ (fun g hg => HBW2.out.block g (At.lt _ _ _ HO.out.1 g hg))).same (w' := W3) _ _ _ (fun g hg => HB3.out.block g (by have := At.lt _ _ _ HO.out.1 g hg; have := HBW2.out.size; omega))
        have h0 := hat3
        unfold At at h0
        obtain ⟨nn, xo, So', a1, a2, a3, a4⟩ := h0
        have hc := hat3.count
        exact ⟨nn, xo, So', hat3, a1, by omega, a2, a3, a4⟩
      obtain ⟨nn, xo, So', hat3, hc1, hnm, how, hSo, hAt'⟩ := HAPP.out
      subst hnm
      have HOW := Lib.hid (And.intro how (And.intro hc1 (And.intro hSo hAt')))
      clear hat3 hc1 how hSo hAt' HAPP
      have HNI := Lib.hid (show nn ≤ 100000 by have := HOW.out.2.1; rw [flat_length (declC) 4 CopyDecls_of_len, List.length_take] at this; have := HLL.out; omega)
      go_wp2_with (at_builtin; refine wpList_append_r rfl _ _ 22 rfl 41 i0 _ 4 64 Tryz.underlying22 HI.out HZ.out.1 HZ.out.2.1 HZ.out.2.2 rfl (by decide) _ nn xo rfl (own_same HOW.out.1 (fun g hg => Below.heap_alloc _ _ _ (HOW.out.1.lt g (mem_ownL.1 hg)).2)) ⟨W3.heap.size, 0, none⟩ 1 1 rfl [.string (mkS x.kind), .string (mkS x.type), .slice yo yn yc, .int .i64 (x.at_ : Int)] rfl (new_cells W3 [.string (mkS x.kind), .string (mkS x.type), .slice yo yn yc, .int .i64 (x.at_ : Int)] 41) HONE.out (by have := HNI.out; unfold maxLen; omega) (by have := HNI.out; omega) ?_; intro v4 W4 ho4 hg4 hnew4)
      obtain ⟨g4, c4, hv4⟩ := own_pos ho4 (by omega)
      subst hv4
      have hWB : Below W3.heap.size W3 (W3.alloc (.cells #[.string (mkS x.kind), .string (mkS x.type), .slice yo yn yc, .int .i64 (x.at_ : Int)] 41)) := (Below.refl _ _).alloc (Nat.le_refl _) _
      have hd3 : AtL (W3.alloc (.cells #[.string (mkS x.kind), .string (mkS x.type), .slice yo yn yc, .int .i64 (x.at_ : Int)] 41)) (declC x) S2 [.string (mkS x.kind), .string (mkS x.type), .slice yo yn yc, .int .i64 (x.at_ : Int)] := (HY.out.1.same (w' := W3) _ _ _ (fun g hg => HB3.out.block g (AtL.lt _ _ _ HY.out.1 g hg))).same _ _ _ (fun g hg => hWB.block g (by have := AtL.lt _ _ _ HY.out.1 g hg; have := HB3.out.size; omega))
      obtain ⟨S5, hat5, hnd5, hge5⟩ := At.push (W := W3) (w := (W3.alloc (.cells #[.string (mkS x.kind), .string (mkS x.type), .slice yo yn yc, .int .i64 (x.at_ : Int)] 41))) (m := 1) (S := So) HOW.out.2.1 ⟨So', own_same HOW.out.1 (fun g hg => Below.heap_alloc _ _ _ (HOW.out.1.lt g (mem_ownL.1 hg)).2), HOW.out.2.2.1, AtL.same _ _ _ HOW.out.2.2.2 (fun g hg => Below.heap_alloc _ _ _ (AtL.lt _ _ _ HOW.out.2.2.2 g hg))⟩ hd3 (CopyDecls_of_len x)
        (by
          rw [List.nodup_append]
          refine ⟨HO.out.2.1, HY.out.2.1, fun y hy z hz hyz => ?_⟩
          subst hyz
          have := HY.out.2.2 y hz
          have := At.lt _ _ _ HO.out.1 y hy
          omega) ho4 hg4 hnew4
      have HB4 : Hid (Below w.heap.size w W4) := by
        have h1 : Below w.heap.size w (W3.alloc (.cells #[.string (mkS x.kind), .string (mkS x.type), .slice yo yn yc, .int .i64 (x.at_ : Int)] 41)) := (HB.out.trans (HBW2.out.mono HB.out.size)).trans ((HB3.out.trans (hWB.mono HB3.out.size)).mono (by have := HB.out.size; have := HBW2.out.size; omega))
        exact h1.grown hg4 h1.size (fun g hg => by
          have : g ∈ So := by rw [HOW.out.2.2.1]; exact List.mem_append_left _ (mem_ownL.2 hg)
          exact HO.out.2.2 g this)
      have H5 := Lib.hid (And.intro hat5 (And.intro hnd5 hge5))
      clear hat5 hnd5 hge5 hd3 hWB ho4 hg4 hnew4
      go_wp2_with fail
      go_roundg (xs.length - (i + 1))
      case rel =>
        refine ⟨i + 1, _, _, _, S5, by omega, rfl, by go_num, rfl, by rw [HTK.out]; exact H5.out.1, H5.out.2.1, ?_, HB4.out⟩
        intro s hs
        rcases H5.out.2.2 s hs with h9 | h9 | h9
        · exact HO.out.2.2 s h9
        · have := HY.out.2.2 s h9; have := HB.out.size; omega
        · have := HB.out.size; have := HBW2.out.size; have := HB3.out.size; simp at h9; omega
      case measure => rw [HG.out]; omega
    · have i1 : ¬ (i : Int) < (xs.length : Int) := by omega
      have hie : i = xs.length := by omega
      go_wp2_with fail
      go_ret
      refine ⟨ao, m, c, So, rfl, ?_, HO.out.2.1, HO.out.2.2, HB.out⟩
      have := HO.out.1
      rw [hie, List.take_length] at this
      exact this
end Go.Proofs.YtngimijiafnheaaGreat
