/- NodeParts: the walk. -/
import Derived.Test.YtldedhfbpongmaaDoorNodPe
import Derived.Test.YtldedhfbpongmaaDoorNodRi
import Derived.BigRegion
import Derived.Deep.CutRange
set_option maxRecDepth 100000
namespace NodT
open Go Go.RowKit
set_option linter.unusedVariables false

/-- The given tree in its box. -/
structure P0 (tn : TypeId) (t : Nd) (w w1 : World) : Prop where
  b : Below w.heap.size w w1
  lt : w.heap.size < w1.heap.size
  tb : w1.heap[w.heap.size]? = some (.cells t.cs.toArray tn)
theorem P0.later {tn : TypeId} {t : Nd} {w w1 w2 : World} (h : P0 tn t w w1) (hb : Below w1.heap.size w1 w2) : P0 tn t w w2 :=
  ⟨h.b.trans (hb.mono h.b.size), Nat.lt_of_lt_of_le h.lt hb.size, (hb.block _ h.lt).trans h.tb⟩
/-- And the other one in its own. -/
structure Pts (tn : TypeId) (t u : Nd) (w : World) (g : Nat) (w5 : World) : Prop where
  p0 : P0 tn t w w5
  g0 : w.heap.size < g
  g1 : g < w5.heap.size
  ub : w5.heap[g]? = some (.cells u.cs.toArray tn)
  iu : In w5 g u
theorem Pts.later {tn : TypeId} {t u : Nd} {w w5 w6 : World} {g : Nat} (h : Pts tn t u w g w5) (hb : Below w5.heap.size w5 w6) : Pts tn t u w g w6 :=
  ⟨h.p0.later hb, h.g0, Nat.lt_of_lt_of_le h.g1 hb.size, (hb.block _ h.g1).trans h.ub, h.iu.under (hb.mono (Nat.le_of_lt h.g1))⟩
theorem P0.low {tn : TypeId} {t : Nd} {w w1 w2 : World} {B : Nat} (h : P0 tn t w w1) (hB : w.heap.size < B) (hb : Below B w1 w2) : P0 tn t w w2 :=
  ⟨h.b.trans (hb.mono (Nat.le_of_lt hB)), Nat.lt_of_lt_of_le h.lt hb.size, (hb.block _ hB).trans h.tb⟩
theorem Pts.low {tn : TypeId} {t u : Nd} {w w5 w6 : World} {g B : Nat} (h : Pts tn t u w g w5) (hB : g < B) (hb : Below B w5 w6) : Pts tn t u w g w6 :=
  ⟨h.p0.low (Nat.lt_trans h.g0 hB) hb, h.g0, Nat.lt_of_lt_of_le h.g1 hb.size, (hb.block _ hB).trans h.ub, h.iu.under (hb.mono (Nat.le_of_lt hB))⟩
end NodT
namespace Go.Proofs.YtldedhfbpongmaaDoor
open Go.Instr Go.RowKit NodT
set_option linter.unusedVariables false
theorem nodeFactsE' : ∃ ts, NodeFacts Tryd.prog 25 ts := ⟨_, nodeFacts⟩
/-- And it leaves the world as it was. -/
theorem Pick_same (x n : Int) (w : World) (hx : -9223372036854775808 ≤ x ∧ x ≤ 9223372036854775807) (hn : 1 ≤ n ∧ n ≤ 9223372036854775807) : Calls Tryd.prog 8 #[.int .i64 x, .int .i64 n] w fun e w' => e = .returned (.int .i64 (x % n)) ∧ w' = w := by
  have n0 : ¬ n < 1 := by omega
  have e1 : x.tmod n = if x % n = 0 then 0 else if x < 0 then x % n - n else x % n := by
    have h1 := Int.tmod_eq_emod (a := x) (b := n)
    rw [h1]
    have h2 : n ∣ x ↔ x % n = 0 := Int.dvd_iff_emod_eq_zero
    have h3 : (n.natAbs : Int) = n := by omega
    simp only [h2]
    split
    · rename_i hh
      rcases hh with hh | hh
      · rw [if_neg (c := x < 0) (by omega)]
        split <;> omega
      · rw [if_pos hh]; omega
    · rename_i hh
      rw [if_neg (by omega), if_pos (by omega)]
      omega
  have b1 := Int.emod_nonneg x (show n ≠ 0 by omega)
  have b2 := Int.emod_lt_of_pos x (show 0 < n by omega)
  generalize hm : x % n = m at e1 b1 b2 ⊢
  have e2 : x.tmod n = m ∨ (x.tmod n = m - n ∧ m - n < 0) := by
    rw [e1]
    split
    · left; omega
    · split
      · right; omega
      · left; rfl
  clear e1 hm
  rcases e2 with e2 | ⟨e2, e3⟩
  · have h0 : ¬ m < 0 := by omega
    go_enter Tryd.func8, Tryd.ntmps8
    go_wp2_with fail
    go_ret
    exact ⟨rfl, rfl⟩
  · have h1 : m - n + n = m := by omega
    go_enter Tryd.func8, Tryd.ntmps8
    go_wp2_with fail
    go_ret
    exact ⟨by simp, rfl⟩
def pEnv : List (Nat × Sg) := [(4, .vr 0), (9, .vr 1)]
set_option maxHeartbeats 8000000 in
theorem Parts_all (t : Nd) (x y z : Int) (hx : -9223372036854775808 ≤ x ∧ x ≤ 9223372036854775807) (hy : -9223372036854775808 ≤ y ∧ y ≤ 9223372036854775807) (hz : -9223372036854775808 ≤ z ∧ z ≤ 9223372036854775807) (w : World) (h1 : In w w.heap.size t) (ho : OpsAt 0 w) (hw1 : weigh t ≤ 40000) (hk : t.kind = 1 ∨ t.kind = 9) :
    Calls Tryd.prog 3 #[t.val, .int .i64 x, .int .i64 y, .int .i64 z] w fun e w' => e = .returned (.bool true) ∧ Below w.heap.size w w' := by
  have hmt : many t ≤ 40000 := by have := many_le_weigh t; omega
  obtain ⟨m, hm⟩ : ∃ m : Int, (min (weigh t) (40000+1) : Int) = m := ⟨_, rfl⟩
  have g1 : decide ((40000 : Int) < m) = false := by simp; omega
  have HN1 := Lib.hid (fun ww (hb : Below w.heap.size w ww) => NodesOf_any t 40000 ww w.heap.size (by decide) (by decide) (h1.under hb) hb.size)
  rw [hm] at HN1
  have HP0 : Hid (P0 25 t w (w.alloc (.cells #[.int .u8 t.kind, .string t.text, .int .i64 t.num, .int .i64 t.place, .slice t.addr t.kids.length t.cap] 25))) := ⟨(Below.refl _ _).alloc (Nat.le_refl _) _, by simp, heap_alloc_new _ _⟩
  have HO := Lib.hid ho
  have HT := Lib.hid h1
  have HK := Lib.hid hk
  have HM := Lib.hid hmt
  have HX := Lib.hid (And.intro hx (And.intro hy hz))
  clear hm ho h1 hk hmt hw1 hx hy hz
  unfold Nd.val Nd.row at HN1
  unfold Nd.val Nd.row
  go_enter Tryd.func3, Tryd.ntmps3
  go_upto_region 3 with fail
  refine (awake_any _ (HO.out.under HP0.out.b)).mono ?_
  rintro e w1 ⟨rfl, hb1⟩
  have HP1 := Lib.hid (HP0.out.later hb1)
  clear hb1 HP0
  go_upto_region 3 with fail
  go_cut [28] from 16 to 28 (fun v wx => v = .bool false ∧ P0 25 t w wx)
  case first =>
    obtain ⟨c0, c1, c2, c3, c4⟩ := cell_at HP1.out.tb
    rcases HK.out with hk | hk
    · have n1 : ((t.kind : Int) != 1) = false := by simp [hk]
      clear hk
      go_wp2_with fail
      refine (HN1.out _ HP1.out.b).mono ?_
      rintro e w2 ⟨rfl, hb2⟩
      have HP2 := Lib.hid (HP1.out.later hb2)
      clear hb2 c0 c1 c2 c3 c4
      obtain ⟨c0, c1, c2, c3, c4⟩ := cell_at HP2.out.tb
      go_wp2_with fail
      go_meet
      exact ⟨rfl, HP2.out⟩
    · have n1 : ((t.kind : Int) != 1) = true := by simp [hk]
      have n2 : ((t.kind : Int) != 9) = false := by simp [hk]
      clear hk
      go_wp2_with fail
      refine (HN1.out _ HP1.out.b).mono ?_
      rintro e w2 ⟨rfl, hb2⟩
      have HP2 := Lib.hid (HP1.out.later hb2)
      clear hb2 c0 c1 c2 c3 c4
      obtain ⟨c0, c1, c2, c3, c4⟩ := cell_at HP2.out.tb
      go_wp2_with fail
      go_meet
      exact ⟨rfl, HP2.out⟩
  case rest =>
    obtain ⟨rfl, hp2⟩ := hcut -- MARKA
    have HP2 := Lib.hid hp2
    clear hp2 HP1 HN1
    obtain ⟨c0, c1, c2, c3, c4⟩ := cell_at HP2.out.tb
    go_upto_region 6 with fail
    refine (CopyNode_any t wc w.heap.size (HT.out.under HP2.out.b) (Nat.le_of_lt HP2.out.lt) (by have := HM.out; omega)).mono ?_
    rintro e w4 ⟨v, rfl, hlx, hox, hnx, hb4⟩
    have HP4 := Lib.hid (HP2.out.later hb4)
    have HL := Lib.hid hlx
    have HOX := Lib.hid hox
    have HNX := Lib.hid hnx
    have HB4 := Lib.hid hb4
    clear hlx hox hnx hb4 c0 c1 c2 c3 c4
    go_upto_region 6 with fail
    refine (Pick_any z 1000 w4 HX.out.2.2 (by decide)).mono ?_
    rintro e w5 ⟨rfl, hb5⟩
    obtain ⟨b, hb⟩ : ∃ b, z % 1000 = b := ⟨_, rfl⟩
    have hb0 : 0 ≤ b := by rw [← hb]; exact Int.emod_nonneg z (by decide)
    have hb1 : b < 1000 := by rw [← hb]; exact Int.emod_lt_of_pos z (by decide)
    rw [hb]
    clear hb
    obtain ⟨u, hu⟩ : ∃ u, u = Ez.mv b v := ⟨_, rfl⟩
    have HMV : Hid (Calls Tryd.prog 6 #[v.val, .int .i64 b] w5 fun e w' => e = .returned (.agg #[.int .u8 u.kind, .string u.text, .int .i64 u.num, .int .i64 u.place, .slice u.addr u.kids.length u.cap]) ∧ Own w' 25 wc.heap.size u ∧ Moves (blks v) w5 w') := by
      refine (moved_any v b w5 wc.heap.size (HOX.out.keep fun c hc => hb5.block c (HOX.out.lt c hc).2) HNX.out hb0 (by have := many_like t v HL.out; have := HM.out; omega)).mono ?_
      rintro e w' ⟨rfl, h1, h2⟩
      rw [hu]
      exact ⟨rfl, h1, h2⟩
    have hsu : same t u = true := by rw [hu]; exact Ez.same_trans (like_same t v HL.out) (Ez.same_mv v b)
    have hpu : Ez.posP u = true := by rw [hu]; exact Ez.pos_mv v b hb0
    have HSU := Lib.hid hsu
    have HPU := Lib.hid hpu
    clear hsu hpu hu
    go_upto_region 6 with fail
    refine HMV.out.mono ?_
    rintro e w6 ⟨rfl, ho6, ht6⟩
    have hb6 : Below wc.heap.size w5 w6 := ht6.below (by have := HB4.out.size; have := hb5.size; omega) (fun c hc => (HOX.out.lt c hc).1)
    have HP6 := Lib.hid (HP2.out.later ((HB4.out.trans (hb5.mono HB4.out.size)).trans hb6))
    have HQ : Hid (Pts 25 t u w w6.heap.size (w6.alloc (.cells #[.int .u8 u.kind, .string u.text, .int .i64 u.num, .int .i64 u.place, .slice u.addr u.kids.length u.cap] 25))) :=
      ⟨HP6.out.later ((Below.refl _ _).alloc (Nat.le_refl _) _), HP6.out.lt, by simp, heap_alloc_new _ _, ho6.isIn.alloc (Nat.le_refl _) _⟩
    clear hb6 ho6 ht6 hb5 hb0 hb1 HMV HP6 HP4 HP2
    go_upto_region 6 with fail
    -- MARKB
    generalize hg : w6.heap.size = g at *
    generalize hW : w6.alloc (.cells #[.int .u8 u.kind, .string u.text, .int .i64 u.num, .int .i64 u.place, .slice u.addr u.kids.length u.cap] 25) = W at *
    go_cut [58] from 34 to 58 (fun v wx => v = .bool false ∧ Pts 25 t u w g wx)
    case first =>
      rename_i J K hJ hK
      have q := HQ.out
      have hI : ∀ w' : World, (W.heap.size ≤ w'.heap.size ∧ OpsAt 0 w') → OpsAt 0 w' := fun _ h => h.2
      have hbs : ∀ w' : World, (W.heap.size ≤ w'.heap.size ∧ OpsAt 0 w') → W.heap.size ≤ w'.heap.size := fun _ h => h.1
      have hmn : ∀ w1 w2' : World, (W.heap.size ≤ w1.heap.size ∧ OpsAt 0 w1) → Below w1.heap.size w1 w2' → (W.heap.size ≤ w2'.heap.size ∧ OpsAt 0 w2') := fun w1 w2 h hb => ⟨Nat.le_trans h.1 hb.size, h.2.under hb⟩
      have hE := pExt_ok t u w.heap.size g W.heap.size (fun w' => W.heap.size ≤ w'.heap.size ∧ OpsAt 0 w') hI (by have := HM.out; omega) HSU.out HPU.out ⟨w, HT.out, Nat.le_refl _⟩
      refine gRegion_end (base := W.heap.size) (T := TP t u w.heap.size g) (Inv := fun w' => W.heap.size ≤ w'.heap.size ∧ OpsAt 0 w') (tb := 4) (env := pEnv) (n := 24) (n0 := 153) (d := 58) (m := 34) (mx := 58) (df := []) (v := .bool false) (by kernel_rfl) (TP.mono t u _ _) hbs nodeFactsE' Tryd.underlying4 hE hmn rfl ?chk ?bd ?en ⟨⟨Nat.le_refl _, HO.out.under q.p0.b⟩, rfl, rfl, ?_, Below.refl _ _⟩ ?_
      case chk => kernel_rfl
      case bd => kernel_rfl
      case en => kernel_rfl
      · intro p hp
        simp only [pEnv, List.mem_cons, List.not_mem_nil, or_false] at hp
        rcases hp with rfl | rfl
        · exact ⟨_, rfl, _, t, rfl, fun _ => q.p0.lt, q.p0.tb, rfl, HT.out.under q.p0.b, q.p0.b.size⟩
        · exact ⟨_, rfl, _, u, rfl, fun _ => q.g1, q.ub, rfl, q.iu, Nat.le_of_lt q.g1⟩
      rintro ⟨T, D⟩ w' hsz hfr hv rfl hinv hbl
      refine hK _ _ (Met.intro (hJ _ _ ?_))
      obtain ⟨us, hul, hus, hA⟩ := arr_cut (n := 153) (m := 34) (x := 58) (A := T) (L := _) hsz rfl (by decide) (by decide) (fun d h1 h2 => (hfr d h1 h2).trans (Array.getElem?_toList).symm)
      match us, hul, hus, hA with
      | [v34, v35, v36, v37, v38, v39, v40, v41, v42, v43, v44, v45, v46, v47, v48, v49, v50, v51, v52, v53, v54, v55, v56, v57, v58], _, hus, hA =>
        have h58 : v58 = .bool false := by
          have := hus 58 (by decide) (by decide)
          exact Option.some.inj (this.trans hv)
        exact ⟨v34, v35, v36, v37, v38, v39, v40, v41, v42, v43, v44, v45, v46, v47, v48, v49, v50, v51, v52, v53, v54, v55, v56, v57, v58, ⟨h58, q.later hbl⟩, congrArg (fun T => Act.mk T []) (Array.toList_inj.1 hA)⟩
    case rest =>
      obtain ⟨rfl, hq⟩ := hcut -- MARKC
      have HQ2 := Lib.hid hq
      clear hq HQ
      have HR : Hid (∀ ww, Pts 25 t u w g ww → Calls Tryd.prog 13 #[t.val] ww fun e w' => e = .returned (.bool (rightB t)) ∧ Below ww.heap.size ww w') := fun ww q => Right_any t ww w.heap.size (HT.out.under q.p0.b) q.p0.b.size (by have := HM.out; omega) (HO.out.under q.p0.b)
      unfold Nd.val Nd.row at HR
      obtain ⟨c0, c1, c2, c3, c4⟩ := cell_at HQ2.out.p0.tb
      cases hrv : rightB t with
      | false =>
        rw [hrv] at HR
        go_wp2_with fail
        refine (HR.out _ HQ2.out).mono ?_
        rintro e w8 ⟨rfl, hb8⟩
        have HQ3 := Lib.hid (HQ2.out.later hb8)
        clear hb8
        go_wp2_with fail
        go_ret
        exact ⟨rfl, HQ3.out.p0.b⟩
      | true =>
        rw [hrv] at HR
        have HRV := Lib.hid hrv
        clear hrv
        go_upto_region 10 with fail
        refine (HR.out _ HQ2.out).mono ?_
        rintro e w8 ⟨rfl, hb8⟩
        have HQ3 := Lib.hid (HQ2.out.later hb8)
        clear hb8 c0 c1 c2 c3 c4 HQ2
        go_upto_region 10 with fail
        go_cut [75] from 62 to 75 (fun v wx => v = .bool false ∧ Pts 25 t u w g wx)
        case first =>
          have HRU : Hid (∀ ww, Pts 25 t u w g ww → Calls Tryd.prog 13 #[u.val] ww fun e w' => e = .returned (.bool true) ∧ Below ww.heap.size ww w') := fun ww q => by
            have := Right_any u ww g q.iu (Nat.le_of_lt q.g1) (by rw [Ez.many_same HSU.out]; have := HM.out; omega) (HO.out.under q.p0.b)
            rw [Ez.right_same HRV.out HSU.out HPU.out] at this
            exact this
          have HBA : Hid (∀ ww, Pts 25 t u w g ww → Calls Tryd.prog 12 #[t.val] ww fun e w' => BarePost t ww e w') := fun ww q => Bare_any t ww w.heap.size (HT.out.under q.p0.b) q.p0.b.size (by have := HM.out; omega)
          have HDE : Hid (∀ ww, Pts 25 t u w g ww → Calls Tryd.prog 10 #[t.val] ww fun e w' => e = .returned (.int .i64 (deep t : Nat)) ∧ Below ww.heap.size ww w') := fun ww q => Deep_any t ww w.heap.size (HT.out.under q.p0.b) q.p0.b.size (by have := HM.out; omega)
          have gd : decide ((60 : Int) < ((deep t : Nat) : Int)) = false := by have := Ez.right_deep HRV.out; simp; omega
          unfold Nd.val Nd.row at HRU HBA HDE
          obtain ⟨c0, c1, c2, c3, c4⟩ := cell_at HQ3.out.ub
          go_wp2_with fail
          refine (HRU.out _ HQ3.out).mono ?_
          rintro e w9 ⟨rfl, hb9⟩
          have HQ4 := Lib.hid (HQ3.out.later hb9)
          clear hb9 c0 c1 c2 c3 c4
          obtain ⟨c0, c1, c2, c3, c4⟩ := cell_at HQ4.out.p0.tb
          go_wp2_with fail
          refine (HBA.out _ HQ4.out).mono ?_
          rintro e w10 ⟨y, rfl, hy, hsm, hzr, hb10⟩
          have HQ5 := Lib.hid (HQ4.out.later hb10)
          have HRY : Hid (Calls Tryd.prog 13 #[y.val] w10 fun e w' => e = .returned (.bool true) ∧ Below w10.heap.size w10 w') := by
            have := Right_any y w10 _ hy (Nat.le_refl _) (by rw [Ez.many_same hsm]; have := HM.out; omega) (HO.out.under HQ5.out.p0.b)
            rw [Ez.right_same HRV.out hsm (Ez.pos_zero y hzr)] at this
            exact this
          clear hy hsm hzr hb10 c0 c1 c2 c3 c4
          obtain ⟨c0, c1, c2, c3, c4⟩ := cell_at HQ5.out.p0.tb
          go_wp2_with fail
          refine HRY.out.mono ?_
          rintro e w11 ⟨rfl, hb11⟩
          have HQ6 := Lib.hid (HQ5.out.later hb11)
          clear hb11 c0 c1 c2 c3 c4
          obtain ⟨c0, c1, c2, c3, c4⟩ := cell_at HQ6.out.p0.tb
          go_wp2_with fail
          refine (HDE.out _ HQ6.out).mono ?_
          rintro e w12 ⟨rfl, hb12⟩
          have HQ7 := Lib.hid (HQ6.out.later hb12)
          clear hb12 c0 c1 c2 c3 c4
          go_wp2_with fail
          go_meet
          exact ⟨rfl, HQ7.out⟩
        case rest =>
          obtain ⟨rfl, hq⟩ := hcut -- MARKD
          have HQ4 := Lib.hid hq
          clear hq HQ3
          go_upto_region 13 with fail
          go_wp2_with fail
          go_loopg [10] t.kids.length (fun gg v wr => ∃ k : Nat, k ≤ t.kids.length ∧ gg = t.kids.length - k ∧ v = .int .i64 k ∧ Pts 25 t u w g wr)
          case atStart => exact ⟨0, by omega, rfl, rfl, HQ4.out⟩
          case round =>
            obtain ⟨k, hk, hgk, rfl, hX⟩ := hrel
            have HGK := Lib.hid hgk
            have HX2 := Lib.hid hX
            clear hgk hX
            obtain ⟨c0, c1, c2, c3, c4⟩ := cell_at HX2.out.p0.tb
            by_cases hlt : k < t.kids.length
            · obtain ⟨kid, hkid⟩ : ∃ kid, t.kids[k]? = some kid := ⟨_, List.getElem?_eq_getElem hlt⟩
              obtain ⟨ab, ao, ha, hab, _⟩ := HT.out.rows (by omega)
              have hcap := HT.out.fits.len
              have hcm := HT.out.fits.cap
              unfold maxLen at hcm
              have t1 : decide ((k : Int) < (t.kids.length : Int)) = true := by simp; omega
              have HONE : Hid (∀ ww, P0 25 t w ww → Calls Tryd.prog 13 #[.agg #[.int .u8 t.kind, .string t.text, .int .i64 t.num, .int .i64 t.place, .slice (some ⟨ab, ao + k * 5, none⟩) 1 (t.cap - k)]] ww fun e w' => e = .returned (.bool true) ∧ Below ww.heap.size ww w') := fun ww q => by
                have hm := List.mem_of_getElem? hkid
                have := Right_any (one t kid ab ao k) ww w.heap.size (one_in (HT.out.under q.b) hkid ha) q.b.size (by have := many_one (t := t) (b := ab) (o := ao) (k := k) hm; have := HM.out; omega) (HO.out.under q.b)
                rw [right_one HRV.out hm] at this
                exact this
              have HA := Lib.hid ha
              clear hkid
              rw [ha] at c4
              clear ha
              have hlw := HX2.out.p0.lt
              go_wp2_with fail
              refine (HONE.out _ (HX2.out.p0.later ((Below.refl _ _).alloc (Nat.le_refl _) _))).mono ?_
              rintro e w9 ⟨rfl, hb9⟩
              have HX3 := Lib.hid ((HX2.out.later ((Below.refl _ _).alloc (Nat.le_refl _) _)).later hb9)
              clear hb9 c0 c1 c2 c3 c4 HX2
              go_wp2_with fail
              go_roundg (t.kids.length - (k + 1))
              case rel => exact ⟨k + 1, by omega, rfl, by go_num, HX3.out⟩
              case measure => rw [HGK.out]; omega
            · have t1 : decide ((k : Int) < (t.kids.length : Int)) = false := by simp; omega
              by_cases hz0 : t.kids.length = 0
              · have e0 : ((t.kids.length : Int) == 0) = true := by simp [hz0]
                clear hz0
                go_wp2_with fail
                go_ret
                exact ⟨rfl, HX2.out.p0.b⟩
              · have e0 : ((t.kids.length : Int) == 0) = false := beq_eq_false_iff_ne.2 (by omega)
                go_upto_region 21 with fail -- MARKE
                have hln : (1 : Int) ≤ (t.kids.length : Int) ∧ (t.kids.length : Int) ≤ 9223372036854775807 := by
                  have h1 := HT.out.fits.len
                  have h2 := HT.out.fits.cap
                  unfold maxLen at h2
                  omega
                obtain ⟨I, hI, hIl⟩ : ∃ I : Nat, x % (t.kids.length : Int) = (I : Int) ∧ I < t.kids.length := by
                  have h1 := Int.emod_nonneg x (show (t.kids.length : Int) ≠ 0 by omega)
                  have h2 := Int.emod_lt_of_pos x (show 0 < (t.kids.length : Int) by omega)
                  exact ⟨(x % (t.kids.length : Int)).toNat, by omega, by omega⟩
                obtain ⟨J, hJ, hJl⟩ : ∃ J : Nat, y % (t.kids.length : Int) = (J : Int) ∧ J < t.kids.length := by
                  have h1 := Int.emod_nonneg y (show (t.kids.length : Int) ≠ 0 by omega)
                  have h2 := Int.emod_lt_of_pos y (show 0 < (t.kids.length : Int) by omega)
                  exact ⟨(y % (t.kids.length : Int)).toNat, by omega, by omega⟩
                have HPX : Hid (∀ ww, Calls Tryd.prog 8 #[.int .i64 x, .int .i64 t.kids.length] ww fun e w' => e = .returned (.int .i64 (I : Int)) ∧ w' = ww) := fun ww => by
                  have := Pick_same x t.kids.length ww HX.out.1 hln
                  rw [hI] at this
                  exact this
                have HPY : Hid (∀ ww, Calls Tryd.prog 8 #[.int .i64 y, .int .i64 t.kids.length] ww fun e w' => e = .returned (.int .i64 (J : Int)) ∧ w' = ww) := fun ww => by
                  have := Pick_same y t.kids.length ww HX.out.2.1 hln
                  rw [hJ] at this
                  exact this
                clear hI hJ hz0 hln
                go_cut [1, 2] from 98 to 107 (fun vi vk wx => vi = .int .i64 (I : Int) ∧ vk = .int .i64 (J : Int) ∧ Pts 25 t u w g wx)
                case first =>
                  refine wp_region_quiet_lit (by kernel_rfl) (by kernel_rfl) ?_
                  go_big_quiet_step ((go_at_call 8; exact Calls.quiet_of_same (HPX.out _)))
                  go_big_quiet_step ((go_at_call 8; exact Calls.quiet_of_same (HPX.out _)))
                  go_big_quiet_step ((go_at_call 8; exact Calls.quiet_of_same (HPX.out _)))
                  go_big_quiet_step ((go_at_call 8; exact Calls.quiet_of_same (HPX.out _)))
                  go_big_quiet_step ((go_at_call 8; exact Calls.quiet_of_same (HPX.out _)))
                  go_big_quiet_step ((go_at_call 8; exact Calls.quiet_of_same (HPX.out _)))
                  go_big_quiet_step ((go_at_call 8; exact Calls.quiet_of_same (HPY.out _)))
                  go_big_quiet_step ((go_at_call 8; exact Calls.quiet_of_same (HPY.out _)))
                  go_big_quiet_step ((go_at_call 8; exact Calls.quiet_of_same (HPY.out _)))
                  go_big_quiet_step ((go_at_call 8; exact Calls.quiet_of_same (HPY.out _)))
                  go_big_quiet_step ((go_at_call 8; exact Calls.quiet_of_same (HPY.out _)))
                  go_big_quiet_step ((go_at_call 8; exact Calls.quiet_of_same (HPY.out _)))
                  refine wpQuiet_nil ?_
                  intro _ hw'
                  obtain ⟨nq, hw''⟩ := hw'
                  subst hw''
                  go_wp2
                  go_meet
                  exact ⟨rfl, rfl, HX2.out.later ⟨rfl, rfl, rfl, Nat.le_refl _, fun _ _ => rfl⟩⟩
                case rest =>
                  obtain ⟨rfl, rfl, hq⟩ := hcut -- MARKF
                  have HQ5 := Lib.hid hq
                  have HGC : Hid (g < wc.heap.size) := hq.g1
                  clear hq HX2 HPX HPY HQ4 c0 c1 c2 c3 c4
                  obtain ⟨c0, c1, c2, c3, c4⟩ := cell_at HQ5.out.p0.tb
                  have HCP : Hid (∀ ww, Pts 25 t u w g ww → Calls Tryd.prog 7 #[t.val] ww fun e w' => ∃ p : Nd, e = .returned (.agg #[.int .u8 p.kind, .string p.text, .int .i64 p.num, .int .i64 p.place, .slice p.addr p.kids.length p.cap]) ∧ like t p = true ∧ Own w' 25 ww.heap.size p ∧ (blks p).Nodup ∧ Below ww.heap.size ww w') := fun ww q =>
                    (CopyNode_any t ww w.heap.size (HT.out.under q.p0.b) q.p0.b.size (by have := HM.out; omega)).mono fun e w' ⟨p, he, h⟩ => ⟨p, he, h⟩
                  unfold Nd.val Nd.row at HCP
                  go_upto_region 23 with fail
                  refine (HCP.out _ HQ5.out).mono ?_
                  rintro e w9 ⟨p, rfl, hlp, hop, hnp, hb9⟩
                  have HLP := Lib.hid hlp
                  have HOP := Lib.hid hop
                  have HNP := Lib.hid hnp
                  have HQ6 := Lib.hid ((HQ5.out.later hb9).later ((Below.refl _ _).alloc (Nat.le_refl _) (.cells #[.int .u8 p.kind, .string p.text, .int .i64 p.num, .int .i64 p.place, .slice p.addr p.kids.length p.cap] 25)))
                  have hlen : p.kids.length = t.kids.length := by obtain ⟨_, _, _, _, h5⟩ := like_parts hlp; exact ((likeL_iff _ _).1 h5).1.symm
                  have hIp : I < p.kids.length := by omega
                  have hJp : J < p.kids.length := by omega
                  obtain ⟨a, ha⟩ : ∃ a, p.kids[I]? = some a := ⟨_, List.getElem?_eq_getElem hIp⟩
                  obtain ⟨d, hd⟩ : ∃ d, p.kids[J]? = some d := ⟨_, List.getElem?_eq_getElem hJp⟩
                  obtain ⟨pb, po, hpa, hpl, hcs⟩ := hop.isIn.rows (by omega)
                  have hrow := hop.row
                  have hpo : po = 0 := by
                    rcases hrow.2 with ⟨h0, _⟩ | ⟨g', cap, cur, h0, _⟩
                    · rw [hpa] at h0; cases h0
                    · rw [hpa] at h0; injection h0 with h0 _ _; injection h0 with h0; injection h0
                  subst hpo
                  have HOW := Lib.hid hb9
                  have HPA := Lib.hid hpa
                  have HA := Lib.hid ha
                  have HD := Lib.hid hd
                  clear c0 c1 c2 c3 c4 hlp hop hnp hb9 HQ5
                  go_upto_region 23 with fail -- MARKG
                  have hbx : (w9.alloc (.cells #[.int .u8 p.kind, .string p.text, .int .i64 p.num, .int .i64 p.place, .slice p.addr p.kids.length p.cap] 25)).heap[w9.heap.size]? = some (.cells p.cs.toArray 25) := heap_alloc_new _ _
                  have HPW : Hid (Own (w9.alloc (.cells #[.int .u8 p.kind, .string p.text, .int .i64 p.num, .int .i64 p.place, .slice p.addr p.kids.length p.cap] 25)) 25 wc.heap.size p) := HOP.out.keep fun c hc => heap_alloc_old _ _ (HOP.out.lt c hc).2
                  have hcW : ∀ (i : Nat) (x : Nd), p.kids[i]? = some x → ∀ (j : Nat) (v : Value), x.cs[j]? = some v → (w9.alloc (.cells #[.int .u8 p.kind, .string p.text, .int .i64 p.num, .int .i64 p.place, .slice p.addr p.kids.length p.cap] 25)).cell? ⟨pb, i * 5 + j, none⟩ = some v := fun i x hx j v hv => by
                    have := hcs i x hx j v hv
                    rw [Nat.zero_add] at this
                    exact (World.cell?_alloc_lt w9 _ _ hpl).trans this
                  have hpw : wc.heap.size ≤ pb := (HOP.out.lt pb (by rw [blks_eq, hpa]; simp)).1
                  have hlW : w9.heap.size < (w9.alloc (.cells #[.int .u8 p.kind, .string p.text, .int .i64 p.num, .int .i64 p.place, .slice p.addr p.kids.length p.cap] 25)).heap.size := by simp
                  have hgc : g < wc.heap.size := HGC.out
                  rw [hlen, hpa] at hbx HPW hcW hlW HQ6
                  generalize hh : w9.heap.size = h at *
                  generalize hW : w9.alloc (.cells #[.int .u8 p.kind, .string p.text, .int .i64 p.num, .int .i64 p.place, .slice (some ⟨pb, 0, none⟩) t.kids.length p.cap] 25) = W at *
                  obtain ⟨q0, q1, q2, q3, q4⟩ := cell_at hbx
                  rw [hlen, hpa] at q4
                  have k0 := hcW I a ha 0 _ rfl
                  have k1 := hcW I a ha 1 _ rfl
                  have k2 := hcW I a ha 2 _ rfl
                  have k3 := hcW I a ha 3 _ rfl
                  have k4 := hcW I a ha 4 _ rfl
                  have l0 := hcW J d hd 0 _ rfl
                  have l1 := hcW J d hd 1 _ rfl
                  have l2 := hcW J d hd 2 _ rfl
                  have l3 := hcW J d hd 3 _ rfl
                  have l4 := hcW J d hd 4 _ rfl
                  unfold Nd.row at k4 l4
                  simp only [Nat.add_zero] at k0 l0
                  have hrW := HPW.out.row
                  rw [hpa] at hrW
                  have f0 := row_frozen hrW (I * 5)
                  have f1 := row_frozen hrW (I * 5 + 1)
                  have f2 := row_frozen hrW (I * 5 + 2)
                  have f3 := row_frozen hrW (I * 5 + 3)
                  have f4 := row_frozen hrW (I * 5 + 4)
                  have e5 := row_frozen hrW (J * 5)
                  have e1 := row_frozen hrW (J * 5 + 1)
                  have e2 := row_frozen hrW (J * 5 + 2)
                  have e3 := row_frozen hrW (J * 5 + 3)
                  have e4 := row_frozen hrW (J * 5 + 4)
                  have hn1 : ¬ h = pb := by omega
                  have hn2 : ¬ pb = h := by omega
                  have i0 : (0 : Int) ≤ (I : Int) := by omega
                  have i1 : (I : Int) < (t.kids.length : Int) := by omega
                  have j0 : (0 : Int) ≤ (J : Int) := by omega
                  have j1 : (J : Int) < (t.kids.length : Int) := by omega
                  have HLW := Lib.hid hlW
                  have HBX := Lib.hid hbx
                  clear hcW hcs hrow hrW hW hh hlen hpa ha hd hbx hlW
                  go_cut [] from 110 to 127 (fun wx => Pts 25 t u w g wx ∧ wx.heap[h]? = some (.cells p.cs.toArray 25) ∧ h < wx.heap.size ∧ In wx wx.heap.size (about p a d I J))
                  case first =>
                    have hfin : ∀ wx, wx = (putN (putN W pb (I * 5) d) pb (J * 5) a).drew → Pts 25 t u w g wx ∧ wx.heap[h]? = some (.cells p.cs.toArray 25) ∧ h < wx.heap.size ∧ In wx wx.heap.size (about p a d I J) := by
                      rintro wx rfl
                      have hmv0 : Moves [pb] W (putN (putN W pb (I * 5) d) pb (J * 5) a) := ((Moves.refl [pb] W).putN (by simp) _ _).putN (by simp) _ _
                      have hmv := moves_drew hmv0
                      have hs := hmv.size
                      refine ⟨HQ6.out.low hgc (hmv.below (by have := HLW.out; omega) (fun x hx => by obtain rfl := List.mem_singleton.1 hx; exact hpw)), ?_, by have := HLW.out; omega, ?_⟩
                      · rw [hmv.block h HLW.out (by simpa using hn1)]
                        exact HBX.out
                      · exact (own_drew (own_about HPW.out HNP.out HPA.out HA.out HD.out)).isIn
                    have HFIN := Lib.hid hfin
                    clear hfin
                    by_cases hIJ : I = J
                    · subst hIJ
                      obtain rfl : a = d := Option.some.inj (HA.out.symm.trans HD.out)
                      clear l0 l1 l2 l3 l4 e5 e1 e2 e3 e4
                      go_region
                      all_goals go_wp2
                      all_goals go_meet
                      refine HFIN.out _ ?_
                      unfold putN
                      rfl
                    · have hJI : ¬ J = I := fun e => hIJ e.symm
                      go_region
                      all_goals go_wp2
                      all_goals go_meet
                      refine HFIN.out _ ?_
                      unfold putN
                      rfl
                  case rest =>
                    obtain ⟨hq1, hq2, hq3, hq4⟩ := hcut -- MARKH
                    obtain ⟨M, hM⟩ : ∃ M, M = about p a d I J := ⟨_, rfl⟩
                    have hMc : M.cs = p.cs := by rw [hM]; show [_, _, _, _, Value.slice p.addr ((p.kids.set I d).set J a).length p.cap] = p.cs; rw [List.length_set, List.length_set]; rfl
                    have HQ7 := Lib.hid hq1
                    have HBM : Hid (Bx 25 h M wc) := ⟨by rw [hMc]; exact hq2, by rw [hM]; exact hq4⟩
                    have HRA : Hid (rightB M = true) := by
                      show rightB M = true
                      rw [hM]
                      exact right_about (t := t) (right_like HLP.out HRV.out) HA.out HD.out
                    have HMA : Hid (many M ≤ 1000000) := by
                      show _ ≤ _
                      rw [hM, many_about HA.out HD.out, many_like t p HLP.out]
                      have := HM.out
                      omega
                    clear hM hMc hq1 hq2 hq3 hq4 k0 k1 k2 k3 k4 l0 l1 l2 l3 l4 f0 f1 f2 f3 f4 e1 e2 e3 e4 e5 q0 q1 q2 q3 q4 HQ6 HPW HBX HLW HOP HNP HPA HA HD HOW HLP
                    clear hIp hJp hn1 hn2 j0 j1 hpl hpw hgc HGC HX
                    obtain ⟨c0, c1, c2, c3, c4⟩ := cell_at HQ7.out.p0.tb
                    go_upto_region 25 with fail
                    refine (HCP.out _ HQ7.out).mono ?_
                    rintro e w10 ⟨q, rfl, hlq, hoq, hnq, hb10⟩
                    have HLQ := Lib.hid hlq
                    have HOQ := Lib.hid hoq
                    have HNQ := Lib.hid hnq
                    have HGC : Hid (g < wc.heap.size) := HQ7.out.g1
                    have hlen2 : q.kids.length = t.kids.length := by obtain ⟨_, _, _, _, h5⟩ := like_parts hlq; exact ((likeL_iff _ _).1 h5).1.symm
                    have hIq : I < q.kids.length := by omega
                    obtain ⟨qb, qo, hqa, hql, _⟩ := hoq.isIn.rows (by omega)
                    have hrow := hoq.row
                    have hqo : qo = 0 := by
                      rcases hrow.2 with ⟨h0, _⟩ | ⟨g', cap, cur, h0, _⟩
                      · rw [hqa] at h0; cases h0
                      · rw [hqa] at h0; injection h0 with h0 _ _; injection h0 with h0; injection h0
                    subst hqo
                    have HQA := Lib.hid hqa
                    have HQ8 := Lib.hid (HQ7.out.later hb10)
                    have hqcap := hoq.fits.len
                    have hqcm := hoq.fits.cap
                    have hqw : wc.heap.size ≤ qb := (hoq.lt qb (by rw [blks_eq, hqa]; simp)).1
                    have HB10 := Lib.hid hb10
                    clear c0 c1 c2 c3 c4 hlq hoq hnq hb10 HQ7 hrow
                    go_upto_region 25 with fail -- MARKI
                    have hbx : (w10.alloc (.cells #[.int .u8 q.kind, .string q.text, .int .i64 q.num, .int .i64 q.place, .slice q.addr q.kids.length q.cap] 25)).heap[w10.heap.size]? = some (.cells q.cs.toArray 25) := heap_alloc_new _ _
                    have HOW : Hid (Own (w10.alloc (.cells #[.int .u8 q.kind, .string q.text, .int .i64 q.num, .int .i64 q.place, .slice q.addr q.kids.length q.cap] 25)) 25 wc.heap.size q) := HOQ.out.keep fun c hc => heap_alloc_old _ _ (HOQ.out.lt c hc).2
                    have HQ9 := Lib.hid (HQ8.out.later ((Below.refl _ _).alloc (Nat.le_refl _) (.cells #[.int .u8 q.kind, .string q.text, .int .i64 q.num, .int .i64 q.place, .slice q.addr q.kids.length q.cap] 25)))
                    have HBM9 := Lib.hid (HB10.out.trans ((Below.refl _ _).alloc HB10.out.size (.cells #[.int .u8 q.kind, .string q.text, .int .i64 q.num, .int .i64 q.place, .slice q.addr q.kids.length q.cap] 25)))
                    -- ((Below.refl _ _).alloc (Nat.le_refl _) (.cells #[.int .u8 q.kind, .string q.text, .int .i64 q.num, .int .i64 q.place, .slice q.addr q.kids.length q.cap] 25)))
                    have HLT : Hid (∀ b ∈ blks q, b < w10.heap.size) := fun b hb => (HOQ.out.lt b hb).2
                    rw [hlen2, hqa] at hbx HOW HQ9 HBM9
                    clear HQ8 HB10
                    generalize hh2 : w10.heap.size = h2 at *
                    generalize hW2 : w10.alloc (.cells #[.int .u8 q.kind, .string q.text, .int .i64 q.num, .int .i64 q.place, .slice (some ⟨qb, 0, none⟩) t.kids.length q.cap] 25) = W2 at *
                    obtain ⟨s1, s2⟩ := spare_of_own (own_drew HOW.out) hqa hIq
                    have HS1 := Lib.hid s1
                    have HS2 := Lib.hid s2
                    have HSL : Hid ((cells (q.kids.drop (I + 1))).length = (t.kids.length - (I + 1)) * 5) := by show _ = _; rw [cells_length, List.length_drop, hlen2]
                    have HSC : Hid (∀ u ∈ cells (q.kids.drop (I + 1)), u.oneCell' = true) := fun u hu => by
                      obtain ⟨y, _, hy⟩ := cells_mem hu
                      exact cs_oneCell y u hy
                    obtain ⟨i0', hi, hz0, hz1, hz2⟩ := info_parts Tryd.infoNode
                    obtain ⟨q0, q1, q2, q3, q4⟩ := cell_at hbx
                    rw [hlen2, hqa] at q4
                    have fz := Lib.frozen_of_heap hbx 4
                    have hn3 : ¬ h2 = qb := by omega
                    have hn4 : ¬ qb = h2 := by omega
                    have hwr : IntKind.i64.wrap ((I : Int) + 1) = (I : Int) + 1 := IntWalk.i64_in _ (by unfold maxLen at hqcm; omega)
                    have hp0 : (0 : Int) ≤ (I : Int) + 1 := by omega
                    have hp1 : (I : Int) + 1 ≤ (t.kids.length : Int) := by omega
                    have hp2 : ((I : Int) + 1).toNat = I + 1 := by omega
                    have hIc : I ≤ q.cap := by omega
                    have HBX := Lib.hid hbx
                    clear s1 s2 hbx hW2 hh2
                    go_cut [] from 130 to 140 (fun wx => Pts 25 t u w g wx ∧ Bx 25 h M wx ∧ Bx 25 h2 (less q I) wx)
                    case first =>
                      have hfin : ∀ wx, wx = ((W2.drew.setCells qb (I * 5) (cells (q.kids.drop (I + 1)))).setCell ⟨h2, 4, none⟩ (.slice (some ⟨qb, 0, none⟩) (I + (t.kids.length - (I + 1))) q.cap)) → Pts 25 t u w g wx ∧ Bx 25 h M wx ∧ Bx 25 h2 (less q I) wx := by
                        rintro wx rfl
                        have hmv : Moves [qb, h2] W2.drew ((W2.drew.setCells qb (I * 5) (cells (q.kids.drop (I + 1)))).setCell ⟨h2, 4, none⟩ (.slice (some ⟨qb, 0, none⟩) (I + (t.kids.length - (I + 1))) q.cap)) := (Moves.setCells (by simp) _ _ (Moves.refl _ _)).setCell (.inl (by simp)) _
                        have hwW : wc.heap.size ≤ W2.heap.size := HBM9.out.size
                        have hbl : Below wc.heap.size W2 W2.drew := (Below.refl _ _).drew
                        have hbl2 := hbl.trans (hmv.below (B := wc.heap.size) hwW (fun x hx => by
                          simp only [List.mem_cons, List.not_mem_nil, or_false] at hx
                          rcases hx with rfl | rfl
                          · exact hqw
                          · omega))
                        refine ⟨HQ9.out.low HGC.out hbl2, HBM.out.later (HBM9.out.trans hbl2), ?_⟩
                        have := less_box (own_drew HOW.out) HNQ.out HQA.out hIq HLT.out (h := h2) HBX.out
                        rw [hlen2, Nat.zero_add] at this
                        exact this
                      have HFIN := Lib.hid hfin
                      clear hfin
                      have x4 : (W2.drew.setCells qb (I * 5) (cells (q.kids.drop (I + 1)))).cell? ⟨h2, 4, none⟩ = some (.slice (some ⟨qb, 0, none⟩) t.kids.length q.cap) := (World.cell?_setCells_out qb _ _ _ ⟨h2, 4, none⟩ (fun hb _ => absurd hb hn3)).trans q4
                      have y4 : (W2.drew.setCells qb (I * 5) (cells (q.kids.drop (I + 1)))).frozen? ⟨h2, 4, none⟩ = false := (World.frozen?_setCells qb _ _ _ _).trans fz
                      generalize hnews : cells (q.kids.drop (I + 1)) = news at HSL HSC HS1 HS2 HFIN x4 y4
                      clear hnews
                      obtain ⟨A, hA, HS3⟩ : ∃ A : Addr, (if q.cap = I + 1 then some (⟨qb, 0, none⟩ : Addr) else some ⟨qb, (I + 1) * 5, none⟩) = some A ∧ Hid (∀ (j : Nat) (u : Value), news[j]? = some u → W2.drew.cell? (A.add j) = some u) := by
                        by_cases h : q.cap = I + 1
                        · refine ⟨⟨qb, 0, none⟩, by simp [h], fun j u hu => ?_⟩
                          have h0 : news.length = 0 := by have := HSL.out; omega
                          rw [List.length_eq_zero_iff.1 h0] at hu
                          simp at hu
                        · exact ⟨⟨qb, (I + 1) * 5, none⟩, by simp [h], HS1.out⟩
                      clear HS1
                      have i0 : (0 : Int) ≤ (I : Int) := by omega
                      have i1 : (I : Int) < (t.kids.length : Int) := by omega
                      go_region_law (refine step_append_room rfl (.tmp 133) (.tmp 138) 23 rfl 25 i0' 5 Tryd.underlying23 hi hz1 qb 0 I q.cap (by simp [Act.eval, Act.put]) A (t.kids.length - (I + 1)) (q.cap - (I + 1)) news (by simp [Act.eval, Act.put]) HSL.out HS3.out HSC.out (by omega) HS2.out ?_)
                      all_goals go_wp2
                      all_goals go_meet
                      all_goals exact HFIN.out _ rfl
                    case rest =>
                      obtain ⟨hq1, hq2, hq3⟩ := hcut -- MARKJ
                      have hrl : rightB (less q I) = true := right_less (right_like HLQ.out HRV.out)
                      have hml : many (less q I) ≤ 1000000 := by
                        have h1 := many_lessx q I
                        rw [many_like t q HLQ.out] at h1
                        have := HM.out
                        omega
                      have hsl : same t (less q I) = false := Ez.same_less (by rw [less_length q I hIq]; omega)
                      generalize less q I = L at hq3 hrl hml hsl
                      have HP := Lib.hid hq1
                      have HB1 := Lib.hid hq2
                      have HB2 := Lib.hid hq3
                      have HF1 : Hid (∀ ww, Pts 25 t u w g ww → Bx 25 h M ww → Calls Tryd.prog 13 #[M.val] ww fun e w' => e = .returned (.bool true) ∧ Below ww.heap.size ww w') := fun ww p b => by
                        have := Right_any M ww _ b.in_ (Nat.le_refl _) HMA.out (HO.out.under p.p0.b)
                        rw [HRA.out] at this
                        exact this
                      have HF2 : Hid (∀ ww, Pts 25 t u w g ww → Bx 25 h2 L ww → Calls Tryd.prog 13 #[L.val] ww fun e w' => e = .returned (.bool true) ∧ Below ww.heap.size ww w') := fun ww p b => by
                        have := Right_any L ww _ b.in_ (Nat.le_refl _) hml (HO.out.under p.p0.b)
                        rw [hrl] at this
                        exact this
                      have HF3 : Hid (∀ ww, Pts 25 t u w g ww → Bx 25 h2 L ww → Calls Tryd.prog 9 #[t.val, L.val] ww fun e w' => e = .returned (.bool false) ∧ Below ww.heap.size ww w') := fun ww p b => by
                        have := Same_any t L ww _ ((HT.out.under p.p0.b).more p.p0.b.size) b.in_ (Nat.le_refl _) (by have := HM.out; omega)
                        rw [hsl] at this
                        exact this
                      unfold Nd.val Nd.row at HF1 HF2 HF3
                      clear hq1 hq2 hq3 hrl hml hsl HBM HBM9 HQ9 HOW HS1 HS2 HSL HSC HBX q0 q1 q2 q3 q4 fz hn3 hn4 hwr hp0 hp1 hp2 hIc HLT HLQ HOQ HNQ HQA hqa hlen2 hIq hql hqcap hqcm hqw
                      obtain ⟨c0, c1, c2, c3, c4⟩ := cell_at HB1.out.blk
                      go_wp2_with fail
                      refine (HF1.out _ HP.out HB1.out).mono ?_
                      rintro e w11 ⟨rfl, hb11⟩
                      have HP1 := Lib.hid (HP.out.later hb11)
                      have HB3 := Lib.hid (HB2.out.later hb11)
                      clear hb11 c0 c1 c2 c3 c4 HP HB1 HB2 HF1
                      obtain ⟨c0, c1, c2, c3, c4⟩ := cell_at HB3.out.blk
                      go_wp2_with fail
                      refine (HF2.out _ HP1.out HB3.out).mono ?_
                      rintro e w12 ⟨rfl, hb12⟩
                      have HP2 := Lib.hid (HP1.out.later hb12)
                      have HB4 := Lib.hid (HB3.out.later hb12)
                      clear hb12 c0 c1 c2 c3 c4 HP1 HB3 HF2
                      obtain ⟨c0, c1, c2, c3, c4⟩ := cell_at HB4.out.blk
                      obtain ⟨d0, d1, d2, d3, d4⟩ := cell_at HP2.out.p0.tb
                      go_wp2_with fail
                      refine (HF3.out _ HP2.out HB4.out).mono ?_
                      rintro e w13 ⟨rfl, hb13⟩
                      have HP3 := Lib.hid (HP2.out.later hb13)
                      clear hb13 c0 c1 c2 c3 c4 d0 d1 d2 d3 d4
                      go_wp2_with fail
                      go_ret
                      exact ⟨rfl, HP3.out.p0.b⟩
set_option maxHeartbeats 4000000 in
theorem Parts_heavy (t : Nd) (x y z : Int) (w : World) (h1 : In w w.heap.size t) (ho : OpsAt 0 w) (hw1 : 40000 < weigh t) :
    Calls Tryd.prog 3 #[t.val, .int .i64 x, .int .i64 y, .int .i64 z] w fun e w' => e = .returned (.bool true) ∧ Below w.heap.size w w' := by
  obtain ⟨m, hm⟩ : ∃ m : Int, (min (weigh t) (40000+1) : Int) = m := ⟨_, rfl⟩
  have g1 : decide ((40000 : Int) < m) = true := by simp; omega
  have HN1 := Lib.hid (fun ww (hb : Below w.heap.size w ww) => NodesOf_any t 40000 ww w.heap.size (by decide) (by decide) (h1.under hb) hb.size)
  rw [hm] at HN1
  have HP0 : Hid (P0 25 t w (w.alloc (.cells #[.int .u8 t.kind, .string t.text, .int .i64 t.num, .int .i64 t.place, .slice t.addr t.kids.length t.cap] 25))) := ⟨(Below.refl _ _).alloc (Nat.le_refl _) _, by simp, heap_alloc_new _ _⟩
  have HO := Lib.hid ho
  clear hm ho h1 hw1
  unfold Nd.val Nd.row at HN1
  unfold Nd.val Nd.row
  go_enter Tryd.func3, Tryd.ntmps3
  go_upto_region 3 with fail
  refine (awake_any _ (HO.out.under HP0.out.b)).mono ?_
  rintro e w1 ⟨rfl, hb1⟩
  have HP1 := Lib.hid (HP0.out.later hb1)
  clear hb1 HP0
  obtain ⟨c0, c1, c2, c3, c4⟩ := cell_at HP1.out.tb
  go_wp2_with fail
  refine (HN1.out _ HP1.out.b).mono ?_
  rintro e w2 ⟨rfl, hb2⟩
  have HP2 := Lib.hid (HP1.out.later hb2)
  clear hb2 c0 c1 c2 c3 c4
  go_wp2_with fail
  go_ret
  exact ⟨rfl, HP2.out.b⟩
set_option maxHeartbeats 4000000 in
theorem Parts_other (t : Nd) (x y z : Int) (w : World) (h1 : In w w.heap.size t) (ho : OpsAt 0 w) (hw1 : weigh t ≤ 40000) (hk : ¬ (t.kind = 1 ∨ t.kind = 9)) :
    Calls Tryd.prog 3 #[t.val, .int .i64 x, .int .i64 y, .int .i64 z] w fun e w' => e = .returned (.bool true) ∧ Below w.heap.size w w' := by
  obtain ⟨m, hm⟩ : ∃ m : Int, (min (weigh t) (40000+1) : Int) = m := ⟨_, rfl⟩
  have g1 : decide ((40000 : Int) < m) = false := by simp; omega
  have n1 : ((t.kind : Int) != 1) = true := by simp; omega
  have n2 : ((t.kind : Int) != 9) = true := by simp; omega
  have HN1 := Lib.hid (fun ww (hb : Below w.heap.size w ww) => NodesOf_any t 40000 ww w.heap.size (by decide) (by decide) (h1.under hb) hb.size)
  rw [hm] at HN1
  have HP0 : Hid (P0 25 t w (w.alloc (.cells #[.int .u8 t.kind, .string t.text, .int .i64 t.num, .int .i64 t.place, .slice t.addr t.kids.length t.cap] 25))) := ⟨(Below.refl _ _).alloc (Nat.le_refl _) _, by simp, heap_alloc_new _ _⟩
  have HO := Lib.hid ho
  clear hm ho h1 hw1 hk
  unfold Nd.val Nd.row at HN1
  unfold Nd.val Nd.row
  go_enter Tryd.func3, Tryd.ntmps3
  go_upto_region 3 with fail
  refine (awake_any _ (HO.out.under HP0.out.b)).mono ?_
  rintro e w1 ⟨rfl, hb1⟩
  have HP1 := Lib.hid (HP0.out.later hb1)
  clear hb1 HP0
  obtain ⟨c0, c1, c2, c3, c4⟩ := cell_at HP1.out.tb
  go_wp2_with fail
  refine (HN1.out _ HP1.out.b).mono ?_
  rintro e w2 ⟨rfl, hb2⟩
  have HP2 := Lib.hid (HP1.out.later hb2)
  clear hb2 c0 c1 c2 c3 c4
  obtain ⟨c0, c1, c2, c3, c4⟩ := cell_at HP2.out.tb
  go_wp2_with fail
  go_ret
  exact ⟨rfl, HP2.out.b⟩
theorem NodeParts_any (t : Nd) (x y z : Int) (hx : -9223372036854775808 ≤ x ∧ x ≤ 9223372036854775807) (hy : -9223372036854775808 ≤ y ∧ y ≤ 9223372036854775807) (hz : -9223372036854775808 ≤ z ∧ z ≤ 9223372036854775807) (w : World) (h1 : In w w.heap.size t) (ho : OpsAt 0 w) :
    Calls Tryd.prog 3 #[t.val, .int .i64 x, .int .i64 y, .int .i64 z] w fun e w' => e = .returned (.bool true) ∧ Below w.heap.size w w' := by
  by_cases hw1 : weigh t ≤ 40000
  · by_cases hk : t.kind = 1 ∨ t.kind = 9
    · exact Parts_all t x y z hx hy hz w h1 ho hw1 hk
    · exact Parts_other t x y z w h1 ho hw1 hk
  · exact Parts_heavy t x y z w h1 ho (by omega)
end Go.Proofs.YtldedhfbpongmaaDoor
