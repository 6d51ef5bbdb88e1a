/- OverTypes, OverType: a copy written over. -/
import Derived.Test.YtfpjleabmemieaaGreatScoLc
import Derived.Deep.RegionLaw
import Derived.BigRegion
import Derived.Deep.CutRange
set_option maxRecDepth 100000
namespace ScoT
open Go Go.RowKit
set_option linter.unusedVariables false
/-- A block that has so many cells at least. -/
def Room (w : World) (g m : Nat) : Prop := ∃ c T, w.heap[g]? = some (.cells c T (0, 0)) ∧ m ≤ c.size
theorem Room.set {w : World} {g m : Nat} (h : Room w g m) (b i : Nat) (u : Value) : Room (w.setCell ⟨b, i, none⟩ u) g m := by
  obtain ⟨c, T, h, hs⟩ := h
  by_cases e : g = b
  · subst e
    exact ⟨_, T, set_obj h u, by simpa using hs⟩
  · exact ⟨c, T, (set_heap _ _ _ _ _ e).trans h, hs⟩
theorem Room.keep {w w' : World} {g m : Nat} (h : Room w g m) (e : w'.heap[g]? = w.heap[g]?) : Room w' g m := by
  obtain ⟨c, T, h, hs⟩ := h
  exact ⟨c, T, e.trans h, hs⟩
theorem Room.cell {w : World} {g m i : Nat} (h : Room w g m) (hi : i < m) : ∃ v, w.cell? ⟨g, i, none⟩ = some v := by
  obtain ⟨c, T, h, hs⟩ := h
  exact ⟨_, (cell_of_row w g i _ T (0, 0) h).trans (Array.getElem?_eq_getElem (by omega))⟩
theorem Room.frozen {w : World} {g m : Nat} (h : Room w g m) (i : Nat) : w.frozen? ⟨g, i, none⟩ = false := by
  obtain ⟨c, T, h, hs⟩ := h
  exact frozen_of_row w g i _ _ h
theorem Room.lt {w : World} {g m : Nat} (h : Room w g m) : g < w.heap.size := by
  obtain ⟨c, T, h, hs⟩ := h
  exact (Array.getElem?_eq_some_iff.1 h).1
theorem room_of {w : World} {g m : Nat} (h : Plain w g) (hm : 0 < m) {v : Value} (hc : w.cell? ⟨g, m - 1, none⟩ = some v) : Room w g m := by
  obtain ⟨c, T, h⟩ := h
  refine ⟨c, T, h, ?_⟩
  rw [cell_of_row w g (m - 1) _ T (0, 0) h] at hc
  have := (Array.getElem?_eq_some_iff.1 hc).1
  omega
end ScoT
namespace Go.Proofs.YtfpjleabmemieaaGreat
open Go.Instr Go.RowKit ScoT
set_option linter.unusedVariables false
theorem rows_split {xs : List Ty} {k : Nat} {x : Ty} (h : xs[k]? = some x) : rowBs (subsL xs) = rowBs (subsL (xs.take k)) ++ (rowBs (subs x) ++ rowBs (subsL (xs.drop (k + 1)))) := by
  have hk := (List.getElem?_eq_some_iff.1 h).1
  have e : xs = xs.take k ++ (x :: xs.drop (k + 1)) := by
    conv => lhs; rw [← List.take_append_drop k xs, List.drop_eq_getElem_cons hk]
    rw [List.getElem?_eq_getElem hk] at h
    injection h with h
    rw [h]
  conv => lhs; rw [e]
  rw [subsL_append, rowBs_append]
  simp only [subsL, rowBs_append]
theorem rows_take {xs : List Ty} {k : Nat} {x : Ty} (h : xs[k]? = some x) : rowBs (subsL (xs.take (k + 1))) = rowBs (subsL (xs.take k)) ++ rowBs (subs x) := by
  rw [List.take_add_one, h, subsL_append, rowBs_append]
  simp [subsL]
def OverOf (x : Ty) : Prop := ∀ (w : World) (lo hi : Nat), LentT w lo hi x → (rowBs (subs x)).Nodup → hi ≤ w.heap.size → weight x ≤ 100000 → Calls Tryz.prog 27 #[x.val] w fun e w' => e = .returned (.tuple #[]) ∧ FlT.Moves (fun b => b ∈ rowBs (subs x)) w w'
set_option maxHeartbeats 2000000 in
theorem OverTypes_of (xs : List Ty) (ih : ∀ x ∈ xs, OverOf x) (g : Nat) (w : World) (lo hi : Nat) (hhi : hi ≤ w.heap.size) (hroom : Room w g ((xs.length + 12) * 3)) (hr : ∀ (i : Nat) (t : Ty), xs[i]? = some t → CsAt w (g, i * 3) t.cs) (hx : ∀ x ∈ xs, LentT w lo hi x) (hnd : (g :: rowBs (subsL xs)).Nodup) (hl : xs.length ≤ 100000) (hm : ∀ x ∈ xs, weight x ≤ 100000) :
    Calls Tryz.prog 45 #[.slice (some ⟨g, 0, none⟩) xs.length (xs.length + 12)] w fun e w' => e = .returned (.tuple #[]) ∧ FlT.Moves (fun b => b = g ∨ b ∈ rowBs (subsL xs)) w w' := by
  have HH := Lib.hid (And.intro ih (And.intro hhi (And.intro hroom (And.intro hr (And.intro hx (And.intro hnd hm))))))
  clear ih hhi hroom hr hx hnd hm
  go_enter Tryz.func45, Tryz.ntmps45
  go_wp2_with fail
  go_loopg [2] xs.length (fun gg i wr => ∃ k : Nat, k ≤ xs.length ∧ gg = xs.length - k ∧ i = .int .i64 k ∧ FlT.Moves (fun b => b ∈ rowBs (subsL (xs.take k))) w wr)
  case atStart => exact ⟨0, by omega, rfl, rfl, FlT.Moves.refl _ _⟩
  case round =>
    obtain ⟨k, hk, hgk, rfl, hb⟩ := hrel
    have HGK := Lib.hid hgk
    have HB := Lib.hid hb
    clear hgk hb
    by_cases hlt : k < xs.length
    · obtain ⟨ih, hhi, hroom, hr, hx, hnd, hm⟩ := HH.out
      have t1 : decide ((k : Int) < (xs.length : Int)) = true := decide_eq_true (by omega)
      have k0 : (0 : Int) ≤ (k : Int) := by omega
      have k1 : (k : Int) < (xs.length : Int) := by omega
      obtain ⟨x, hxk⟩ : ∃ x, xs[k]? = some x := ⟨_, List.getElem?_eq_getElem hlt⟩
      have hxm := List.mem_of_getElem? hxk
      have hsp := rows_split hxk
      have hn2 := (List.nodup_cons.1 hnd).2
      have hgn := (List.nodup_cons.1 hnd).1
      rw [hsp] at hn2 hgn
      have hgk : g ∉ rowBs (subsL (xs.take k)) := fun h => hgn (List.mem_append_left _ h)
      have hgw : wr.heap[g]? = w.heap[g]? := HB.out.block g hroom.lt hgk
      have e0 : wr.cell? ⟨g, k * 3, none⟩ = some (.int .u8 x.kind) := (World.cell?_of_block (a := ⟨g, k * 3, none⟩) hgw).trans (hr k x hxk 0 _ rfl)
      have e1 : wr.cell? ⟨g, k * 3 + 1, none⟩ = some (.string x.name) := (World.cell?_of_block (a := ⟨g, k * 3 + 1, none⟩) hgw).trans (hr k x hxk 1 _ rfl)
      have e2 : wr.cell? ⟨g, k * 3 + 2, none⟩ = some (.slice x.addr x.els.length x.cap) := (World.cell?_of_block (a := ⟨g, k * 3 + 2, none⟩) hgw).trans (hr k x hxk 2 _ rfl)
      have hlx : LentT wr lo hi x := (hx x hxm).keepB fun b hb => HB.out.block b (by have := ((hx x hxm).span b hb).2; omega) (fun h => (List.nodup_append.1 hn2).2.2 b h b (List.mem_append_left _ hb) rfl)
      have HO := Lib.hid (ih x hxm wr lo hi hlx (List.nodup_append.1 ((List.nodup_append.1 hn2).2.1)).1 (Nat.le_trans hhi HB.out.size) (hm x hxm))
      have HX := Lib.hid hxk
      clear ih hhi hroom hr hx hnd hm hsp hn2 hgn hgk hgw hlx hxm hxk
      unfold Ty.val Ty.row at HO
      go_wp2_with fail
      refine HO.out.mono ?_
      rintro e w2 ⟨rfl, hm2⟩
      have HM2 := Lib.hid hm2
      clear hm2
      go_wp2_with fail
      go_roundg (xs.length - (k + 1))
      case rel =>
        refine ⟨k + 1, by omega, rfl, by go_num, ?_⟩
        rw [rows_take HX.out]
        exact (HB.out.mono fun b h => List.mem_append_left _ h).trans (HM2.out.mono fun b h => List.mem_append_right _ h)
      case measure => rw [HGK.out]; omega
    · have hke : k = xs.length := by omega
      have t1 : decide ((k : Int) < (xs.length : Int)) = false := decide_eq_false (by omega)
      have HM : Hid (FlT.Moves (fun b => b = g ∨ b ∈ rowBs (subsL xs)) w wr) := Lib.hid (by
        have := HB.out
        rw [hke, List.take_length] at this
        exact this.mono fun b h => .inr h)
      have HR : Hid (Room wr g ((xs.length + 12) * 3)) := Lib.hid (by
        obtain ⟨ih, hhi, hroom, hr, hx, hnd, hm⟩ := HH.out
        refine hroom.keep (HB.out.block g hroom.lt ?_)
        rw [hke, List.take_length]
        exact (List.nodup_cons.1 hnd).1)
      clear hke HB HH
      go_wp2_with fail
      go_loopg [4] (xs.length + 12) (fun gg i wr => ∃ k : Nat, k ≤ xs.length + 12 ∧ gg = xs.length + 12 - k ∧ i = .int .i64 k ∧ FlT.Moves (fun b => b = g ∨ b ∈ rowBs (subsL xs)) w wr ∧ Room wr g ((xs.length + 12) * 3))
      case atStart => exact ⟨0, by omega, rfl, rfl, HM.out, HR.out⟩
      case round =>
        obtain ⟨i, hi, hgi, rfl, hb, hroom⟩ := hrel
        have HGI := Lib.hid hgi
        have HB := Lib.hid hb
        have HRM := Lib.hid hroom
        clear hgi hb hroom HM HR
        by_cases hli : i < xs.length + 12
        · have t2 : decide ((i : Int) < (xs.length : Int) + 12) = true := decide_eq_true (by omega)
          have i0 : (0 : Int) ≤ (i : Int) := by omega
          have i1 : (i : Int) < (xs.length : Int) + 12 := by omega
          have HC : Hid (Calls Tryz.prog 51 #[.int .i64 2, .int .i64 i] wr fun e w' => e = .returned (.agg #[.int .u8 0, .string (mkT 2 i), .slice none 0 0]) ∧ Below wr.heap.size wr w') := Lib.hid (by
            exact markType_any 2 i wr (by omega) (by omega))
          obtain ⟨q, hq⟩ : ∃ q, q = mkT 2 i := ⟨_, rfl⟩
          rw [← hq] at HC
          clear hq
          obtain ⟨v0, hv0⟩ := HRM.out.cell (i := i * 3) (by omega)
          obtain ⟨v1, hv1⟩ := HRM.out.cell (i := i * 3 + 1) (by omega)
          obtain ⟨v2, hv2⟩ := HRM.out.cell (i := i * 3 + 2) (by omega)
          have KF : Hid (∀ w2, Below wr.heap.size wr w2 → w2.cell? ⟨g, i * 3, none⟩ = some v0 ∧ w2.frozen? ⟨g, i * 3, none⟩ = false ∧ w2.cell? ⟨g, i * 3 + 1, none⟩ = some v1 ∧ w2.frozen? ⟨g, i * 3 + 1, none⟩ = false ∧ w2.cell? ⟨g, i * 3 + 2, none⟩ = some v2 ∧ w2.frozen? ⟨g, i * 3 + 2, none⟩ = false) := Lib.hid fun w2 hb => by
            have hl := HRM.out.lt
            have h1 : Room w2 g ((xs.length + 12) * 3) := HRM.out.keep (hb.block g hl)
            exact ⟨(hb.cell (p := ⟨g, i * 3, none⟩) hl).trans hv0, h1.frozen _, (hb.cell (p := ⟨g, i * 3 + 1, none⟩) hl).trans hv1, h1.frozen _, (hb.cell (p := ⟨g, i * 3 + 2, none⟩) hl).trans hv2, h1.frozen _⟩
          have HFIN : Hid (∀ w2, Below wr.heap.size wr w2 → FlT.Moves (fun b => b = g ∨ b ∈ rowBs (subsL xs)) w (((w2.setCell ⟨g, i * 3, none⟩ (.int .u8 0)).setCell ⟨g, i * 3 + 1, none⟩ (.string q)).setCell ⟨g, i * 3 + 2, none⟩ (.slice none 0 0)) ∧ Room (((w2.setCell ⟨g, i * 3, none⟩ (.int .u8 0)).setCell ⟨g, i * 3 + 1, none⟩ (.string q)).setCell ⟨g, i * 3 + 2, none⟩ (.slice none 0 0)) g ((xs.length + 12) * 3)) := Lib.hid fun w2 hb => by
            have hbb := HB.out.trans (FlT.Moves.of_below hb)
            exact ⟨((hbb.setCell (.inl (.inl rfl)) _).setCell (.inl (.inl rfl)) _).setCell (.inl (.inl rfl)) _, (((HRM.out.keep (hb.block g HRM.out.lt)).set _ _ _).set _ _ _).set _ _ _⟩
          obtain ⟨q0, f0, q1, f1, q2, f2⟩ := KF.out wr (Below.refl _ _)
          clear hv0 hv1 hv2
          go_wp2_with (go_at_call 51; refine HC.out.mono ?_; rintro e w2 ⟨rfl, hb2'⟩
                       obtain ⟨p0, g0, p1, g1, p2, g2⟩ := KF.out w2 hb2'
                       have HB3 := Lib.hid hb2'
                       clear hb2')
          all_goals
            have hq := HFIN.out _ HB3.out
            go_roundg (xs.length + 12 - (i + 1))
            case rel => exact ⟨i + 1, by omega, rfl, by go_num, hq.1, hq.2⟩
            case measure => rw [HGI.out]; omega
        · have t2 : decide ((i : Int) < (xs.length : Int) + 12) = false := decide_eq_false (by omega)
          go_wp2_with fail
          go_end0
          exact ⟨rfl, HB.out⟩
theorem OverType_any : ∀ x, OverOf x := by
  refine Ty.rose fun x ih => ?_
  intro w lo hi h1 hnd hhi hm
  have hme := weight_eq x
  have hll := len_wsum x.els
  have h1' := h1
  cases h1' with
  | mk _ hf g hA hcap hg hp hr hk =>
  have hrow : rowBs (subs x) = g :: rowBs (subsL x.els) := by
    rw [subs_eq]
    show (x :: subsL x.els).filterMap _ = _
    have : x.row.ownBlock = some g := by unfold Ty.row; rw [hA]; rfl
    simp [rowBs, this]
  have hgw : g < w.heap.size := by have := hg.2; omega
  have hlast : Room w g ((x.els.length + 12) * 3) := by
    have hm11 : (x.els ++ marksTy 1 12)[x.els.length + 11]? = some (markTy 1 11) := by
      rw [List.getElem?_append_right (by omega), show x.els.length + 11 - x.els.length = 11 by omega]
      exact marksTy_at 1 12 11 (by omega)
    refine room_of hp (by omega) (v := .slice none 0 0) ?_
    have := hr _ _ hm11 2 _ rfl
    simp only at this
    rw [show (x.els.length + 12) * 3 - 1 = (x.els.length + 11) * 3 + 2 by omega]
    exact this
  have HO := Lib.hid (fun (W : World) (hb : Below w.heap.size w W) => OverTypes_of x.els ih g W lo hi (by have := hb.size; omega) (hlast.keep (hb.block g hgw)) (fun i t hi => (hr i t (by rw [List.getElem?_append_left (List.getElem?_eq_some_iff.1 hi).1]; exact hi)).keep fun j _ => hb.cell (p := ⟨g, i * 3 + j, none⟩) hgw) (fun u hu => by obtain ⟨i, hi⟩ := List.getElem?_of_mem hu; exact (hk i u hi).under hb hhi) (by rw [← hrow]; exact hnd) (by omega) (fun u hu => by have := wsum_mem hu; omega))
  have HR := Lib.hid hrow
  clear h1 hr hk hf hp hg hgw hlast ih hme hll hm hnd hrow
  unfold Ty.val Ty.row
  rw [hA, hcap]
  clear hA hcap
  go_enter Tryz.func27, Tryz.ntmps27
  go_wp2_with fail
  refine (HO.out _ ((Below.refl _ _).alloc (Nat.le_refl _) _)).mono ?_
  rintro e w1 ⟨rfl, hm1⟩
  have HM1 := Lib.hid hm1
  clear hm1
  go_wp2_with fail
  go_end0
  refine ⟨rfl, ?_⟩
  rw [HR.out]
  exact (FlT.Moves.of_below ((Below.refl _ _).alloc (Nat.le_refl _) _)).trans (HM1.out.mono fun b h => by simpa using h)
end Go.Proofs.YtfpjleabmemieaaGreat
