/- The document's own scanner: rows of texts. -/
import Derived.Test.YthhfgjcdopkmgaaGreatDoorRfA
import Derived.Deep.QuietTactic
import Derived.BigQuiet
import Derived.Deep.CutRange
import Derived.IntWalk
set_option maxRecDepth 100000
namespace ScnT
theorem mkS_eq (a b : Bs) : ((mkS a).toList == (mkS b).toList) = (a == b) := by rw [mkS_toList, mkS_toList]
/-- The first of these texts that stands here. -/
def standsB (ts : List Bs) (l : Bs) : Bs := (ts.find? fun t => t.isPrefixOf l).getD []
theorem take_prefix (t l : Bs) (h : t.length ≤ l.length) : (l.take t.length == t) = t.isPrefixOf l := by
  rw [Bool.eq_iff_iff, beq_iff_eq, List.isPrefixOf_iff_prefix]
  constructor
  · intro e
    exact ⟨l.drop t.length, by have h2 := List.take_append_drop t.length l; rw [e] at h2; exact h2⟩
  · rintro ⟨r, rfl⟩
    simp
end ScnT
namespace Go.Proofs.YthhfgjcdopkmgaaGreatDoor
open Go.Instr Go.RowKit ScnT
set_option linter.unusedVariables false
set_option linter.unusedSimpArgs false
/-- A row of texts in memory. -/
def TextsAt (w : World) (g : Nat) (ts : List Bs) : Prop := ∀ (i : Nat) (t : Bs), ts[i]? = some t → w.cell? ⟨g, i, none⟩ = some (.string (mkS t))
theorem TextsAt.new (w : World) (ts : List Bs) : TextsAt (w.alloc (.cells (ts.map fun t => Value.string (mkS t)).toArray 9)) w.heap.size ts := by
  intro i t h
  rw [World.cell?_alloc_new]
  simp [h]
set_option maxHeartbeats 2000000 in
theorem rfAmong_any (x : Bs) (ts : List Bs) (g c : Nat) (w : World) (hl : ts.length < 1000000) (hc : TextsAt w g ts) : Calls Tryz.prog 53 #[.string (mkS x), .slice (some ⟨g, 0, none⟩) ts.length c] w fun e w' => e = .returned (.bool (ts.contains x)) ∧ w = w' := by
  have HC := Lib.hid hc
  clear hc
  obtain ⟨res, hr⟩ : ∃ res, ts.contains x = res := ⟨_, rfl⟩
  rw [hr]
  have HRR := Lib.hid hr
  clear hr
  go_enter Tryz.func53, Tryz.ntmps53
  go_wp2_with fail
  go_loop [5] (fun v => ∃ i : Nat, i ≤ ts.length ∧ v = .int .i64 i ∧ (∀ j, j < i → ts[j]? ≠ some x)) (fun v => ts.length - (intOf v).toNat)
  case atStart => exact ⟨0, by omega, rfl, fun j hj => by omega⟩
  case round =>
    obtain ⟨i, hi, rfl, hno⟩ := hrel
    have HNO := Lib.hid hno
    clear hno
    have i0 : (0 : Int) ≤ (i : Int) := by omega
    by_cases hlt : i < ts.length
    · have t1 : (i : Int) < (ts.length : Int) := by omega
      obtain ⟨t, ht⟩ : ∃ t, ts[i]? = some t := ⟨_, List.getElem?_eq_getElem hlt⟩
      have c0 := HC.out i t ht
      have HT := Lib.hid ht
      clear ht
      by_cases e : t = x
      · have e1 : ((mkS t).toList == (mkS x).toList) = true := by rw [mkS_eq, e]; simp
        have HE : Hid (true = res) := by
          show _ = _
          rw [← HRR.out, eq_comm, List.contains_iff_mem]
          exact List.mem_of_getElem? (by rw [HT.out, e])
        clear e
        go_wp2_with fail
        go_ret
        exact ⟨ret_bool HE.out, rfl⟩
      · have e1 : ((mkS t).toList == (mkS x).toList) = false := by rw [mkS_eq]; simpa using e
        have HE := Lib.hid e
        clear e
        go_wp2_with fail
        go_round
        case rel =>
          refine ⟨i + 1, by omega, by go_num, fun j hj => ?_⟩
          by_cases hji : j = i
          · subst hji
            rw [HT.out]
            intro h
            exact HE.out (by simpa using h)
          · exact HNO.out j (by omega)
        case measure => simp [intOf]; omega
    · have t1 : ¬ ((i : Int) < (ts.length : Int)) := by omega
      have HE : Hid (false = res) := by
        show _ = _
        rw [← HRR.out, eq_comm, Bool.eq_false_iff]
        intro h
        rw [List.contains_iff_mem] at h
        obtain ⟨j, hj, hx⟩ := List.mem_iff_getElem.1 h
        exact HNO.out j (by omega) (by rw [List.getElem?_eq_getElem hj, hx])
      go_wp2_with fail
      go_ret
      exact ⟨ret_bool HE.out, rfl⟩
theorem rfWords_any (w : World) : Calls Tryz.prog 58 #[] w fun e w' => e = .returned (.slice (some ⟨w.heap.size, 0, none⟩) 16 16) ∧ w.alloc (.cells (words.map fun t => Value.string (mkS t)).toArray 9) = w' := by
  go_enter Tryz.func58, Tryz.ntmps58
  go_wp2_with fail
  go_ret
  exact ⟨rfl, rfl⟩
theorem rfForeign_any (w : World) : Calls Tryz.prog 57 #[] w fun e w' => e = .returned (.slice (some ⟨w.heap.size, 0, none⟩) 11 11) ∧ w.alloc (.cells (foreignWords.map fun t => Value.string (mkS t)).toArray 9) = w' := by
  go_enter Tryz.func57, Tryz.ntmps57
  go_wp2_with fail
  go_ret
  exact ⟨rfl, rfl⟩
def rfSigns : List Bs := [[58, 61], [61, 61], [33, 61], [60, 61], [62, 61], [38, 38], [124, 124], [123], [125], [40], [41], [91], [93], [44], [59], [58], [46], [61], [60], [62], [43], [45], [42], [47], [37], [33]]
def rfOdd : List Bs := [[46, 46, 46], [43, 43], [45, 45], [43, 61], [45, 61], [42, 61], [47, 61], [37, 61], [60, 60], [62, 62], [60, 45], [47, 42]]
theorem rfSigns_any (w : World) : Calls Tryz.prog 65 #[] w fun e w' => e = .returned (.slice (some ⟨w.heap.size, 0, none⟩) 26 26) ∧ w.alloc (.cells (rfSigns.map fun t => Value.string (mkS t)).toArray 9) = w' := by
  go_enter Tryz.func65, Tryz.ntmps65
  go_wp2_with fail
  go_ret
  exact ⟨rfl, rfl⟩
theorem rfOdd_any (w : World) : Calls Tryz.prog 64 #[] w fun e w' => e = .returned (.slice (some ⟨w.heap.size, 0, none⟩) 12 12) ∧ w.alloc (.cells (rfOdd.map fun t => Value.string (mkS t)).toArray 9) = w' := by
  go_enter Tryz.func64, Tryz.ntmps64
  go_wp2_with fail
  go_ret
  exact ⟨rfl, rfl⟩
set_option maxHeartbeats 2000000 in
theorem rfStands_any (S : ByteArray) (a : Nat) (ts : List Bs) (g c : Nat) (w : World) (hS : S.size ≤ 100000) (ha : a ≤ S.size) (hl : ts.length < 1000000) (hc : TextsAt w g ts) (hts : ∀ t ∈ ts, t.length ≤ 100) :
    Calls Tryz.prog 63 #[.string S, .int .i64 a, .slice (some ⟨g, 0, none⟩) ts.length c] w fun e w' => e = .returned (.string (mkS (standsB ts (restB S a)))) ∧ Below w.heap.size w w' := by
  have HC := Lib.hid hc
  have HTS := Lib.hid hts
  clear hc hts
  obtain ⟨res, hr⟩ : ∃ res, mkS (standsB ts (restB S a)) = res := ⟨_, rfl⟩
  rw [hr]
  have HRR := Lib.hid hr
  clear hr
  go_enter Tryz.func63, Tryz.ntmps63
  go_wp2_with fail
  go_loopw [7] (fun v wr => ∃ i : Nat, i ≤ ts.length ∧ v = .int .i64 i ∧ (∀ j t, j < i → ts[j]? = some t → t.isPrefixOf (restB S a) = false) ∧ Below w.heap.size w wr) (fun v _ => ts.length - (intOf v).toNat)
  case atStart => exact ⟨0, by omega, rfl, fun j t hj => by omega, Below.refl _ _⟩
  case round =>
    obtain ⟨i, hi, rfl, hno, hb⟩ := hrel
    have HNO := Lib.hid hno
    have HB := Lib.hid hb
    clear hno hb
    have i0 : (0 : Int) ≤ (i : Int) := by omega
    by_cases hlt : i < ts.length
    · have t1 : (i : Int) < (ts.length : Int) := by omega
      obtain ⟨t, ht⟩ : ∃ t, ts[i]? = some t := ⟨_, List.getElem?_eq_getElem hlt⟩
      have c0' := HC.out i t ht
      have c0 := (HB.out.cell (World.block_lt_of_cell? _ _ c0')).trans c0'
      have htl := HTS.out t (List.mem_of_getElem? ht)
      have HT := Lib.hid ht
      clear ht c0'
      have s0 : (mkS t).size = t.length := mkS_size t
      have a0 : (0 : Int) ≤ (a : Int) := by omega
      have hrl := rest_len S a
      have w0 : IntKind.i64.wrap ((a : Int) + (t.length : Int)) = (a : Int) + (t.length : Int) := IntWalk.i64_in _ (by omega)
      have u0 : (0 : Int) ≤ (a : Int) + (t.length : Int) := by omega
      by_cases hfit : a + t.length ≤ S.size
      · have t2 : decide ((a : Int) + (t.length : Int) ≤ (S.size : Int)) = true := decide_eq_true (by omega)
        have u1 : (a : Int) ≤ (a : Int) + (t.length : Int) := by omega
        have u2 : (a : Int) + (t.length : Int) ≤ (S.size : Int) := by omega
        have u3 : ((a : Int) + (t.length : Int)).toNat = a + t.length := by omega
        have hx : (S.extract a (a + t.length)) = mkS ((restB S a).take t.length) := by
          rw [Lib.extract_eq]
          have : a + t.length - a = t.length := by omega
          rw [this]
          rfl
        have hpre := take_prefix t (restB S a) (by omega)
        cases hb : t.isPrefixOf (restB S a)
        · have e1 : ((S.extract a (a + t.length)).toList == (mkS t).toList) = false := by rw [hx, mkS_eq, hpre, hb]
          have HE := Lib.hid hb
          clear hx hpre hb hrl
          go_upto_region 4 with fail
          go_quiet (fail)
          go_wp2_with fail
          go_roundw
          case rel =>
            refine ⟨i + 1, by omega, by go_num, fun j t' hj ht' => ?_, HB.out.trans ⟨rfl, rfl, rfl, Nat.le_refl _, fun _ _ => rfl⟩⟩
            by_cases hji : j = i
            · subst hji
              rw [HT.out] at ht'
              obtain rfl : t = t' := by simpa using ht'
              exact HE.out
            · exact HNO.out j t' (by omega) ht'
          case measure => simp [intOf]; omega
        · have e1 : ((S.extract a (a + t.length)).toList == (mkS t).toList) = true := by rw [hx, mkS_eq, hpre, hb]
          have HE : Hid (mkS t = res) := by
            show _ = _
            rw [← HRR.out]
            congr 1
            unfold standsB
            have hf : ts.find? (fun t => t.isPrefixOf (restB S a)) = some t := by
              rw [List.find?_eq_some_iff_getElem]
              exact ⟨hb, i, hlt, by have := HT.out; rw [List.getElem?_eq_getElem hlt] at this; simpa using this, fun j hj => by rw [HNO.out j ts[j] hj (List.getElem?_eq_getElem (by omega))]; rfl⟩
            rw [hf]
            rfl
          clear hx hpre hb hrl
          go_upto_region 4 with fail
          go_quiet (fail)
          go_wp2_with fail
          go_ret
          exact ⟨by rw [HE.out]; rfl, HB.out.trans ⟨rfl, rfl, rfl, Nat.le_refl _, fun _ _ => rfl⟩⟩
      · have t2 : decide ((a : Int) + (t.length : Int) ≤ (S.size : Int)) = false := decide_eq_false (by omega)
        have HE : Hid (t.isPrefixOf (restB S a) = false) := by
          show _ = _
          rw [Bool.eq_false_iff]
          intro h
          have := (List.isPrefixOf_iff_prefix.1 h).length_le
          omega
        clear hrl
        go_upto_region 4 with fail
        go_quiet (fail)
        go_wp2_with fail
        go_roundw
        case rel =>
          refine ⟨i + 1, by omega, by go_num, fun j t' hj ht' => ?_, HB.out.trans ⟨rfl, rfl, rfl, Nat.le_refl _, fun _ _ => rfl⟩⟩
          by_cases hji : j = i
          · subst hji
            rw [HT.out] at ht'
            obtain rfl : t = t' := by simpa using ht'
            exact HE.out
          · exact HNO.out j t' (by omega) ht'
        case measure => simp [intOf]; omega
    · have t1 : ¬ ((i : Int) < (ts.length : Int)) := by omega
      have HE : Hid (mkS [] = res) := by
        show _ = _
        rw [← HRR.out]
        congr 1
        unfold standsB
        have hf : ts.find? (fun t => t.isPrefixOf (restB S a)) = none := by
          rw [List.find?_eq_none]
          intro t ht
          obtain ⟨j, hj, rfl⟩ := List.mem_iff_getElem.1 ht
          rw [HNO.out j ts[j] (by omega) (List.getElem?_eq_getElem hj)]
          simp
        rw [hf]
        rfl
      go_wp2_with fail
      go_ret
      exact ⟨by rw [← HE.out]; rfl, HB.out⟩
end Go.Proofs.YthhfgjcdopkmgaaGreatDoor
