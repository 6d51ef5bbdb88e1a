/- putTypes, ApartTypes: types whose rows lie apart are told to. -/
/- ApartTypes: types whose rows lie apart are told to. -/
import Derived.Test.YtfpjleabmemieaaGreatFlET
import Derived.Test.YtfpjleabmemieaaGreatFlH
import Derived.Test.YtfpjleabmemieaaGreatScoLc
import Derived.Test.YtfpjleabmemieaaGreatFlG
set_option maxRecDepth 100000
namespace ScoT
open Go Go.RowKit
set_option linter.unusedVariables false
theorem subsL_len_take (ts : List Ty) (k : Nat) : (subsL (ts.take k)).length ≤ (subsL ts).length := by
  induction ts generalizing k with
  | nil => simp [subsL]
  | cons t ts ih =>
    cases k with
    | zero => simp [subsL]
    | succ k => simp only [List.take_succ_cons, subsL, List.length_append]; have := ih k; omega
theorem subsL_take {ts : List Ty} {k : Nat} {u : Ty} (h : ts[k]? = some u) : subsL (ts.take (k + 1)) = subsL (ts.take k) ++ subs u := by
  induction ts generalizing k with
  | nil => simp at h
  | cons t ts ih =>
    cases k with
    | zero => simp at h; subst h; simp [subsL]
    | succ k => simp only [List.take_succ_cons, subsL]; rw [ih (by simpa using h), List.append_assoc]
theorem subsL_len (ts : List Ty) : ts.length ≤ (subsL ts).length := by
  induction ts with
  | nil => simp [subsL]
  | cons a l ih => simp only [subsL, List.length_append, List.length_cons]; have : 1 ≤ (subs a).length := (by rw [subs_eq]; simp); omega
/-- The rows one by one. -/
def tyAt (R : List Ty) (k : Nat) : Ty := (R[k]?).getD zeroTy
theorem tyAt_mem {R : List Ty} {k : Nat} (h : k < R.length) : tyAt R k ∈ R := by
  unfold tyAt; rw [List.getElem?_eq_getElem h]; exact List.getElem_mem h
theorem map_tyAt (R : List Ty) : R.map Ty.row = (List.range R.length).map fun k => (tyAt R k).row := by
  apply List.ext_getElem?
  intro i
  simp only [List.getElem?_map]
  by_cases hi : i < R.length
  · rw [List.getElem?_range hi, List.getElem?_eq_getElem hi]; simp [tyAt, List.getElem?_eq_getElem hi]
  · rw [List.getElem?_eq_none (by omega), List.getElem?_eq_none (by simp; omega)]; rfl
theorem rows_inj {R : List Ty} (h : (rowBs R).Nodup) : ∀ k j, k < R.length → j < R.length → k ≠ j → ∀ b, (tyAt R k).row.ownBlock = some b → (tyAt R j).row.ownBlock ≠ some b := by
  induction R with
  | nil => intro k j hk; simp at hk
  | cons t R ih =>
    have hr : ∀ k, tyAt (t :: R) (k + 1) = tyAt R k := fun k => rfl
    have h0 : tyAt (t :: R) 0 = t := rfl
    have hx : ∀ (k : Nat) (b : Nat), k < R.length → (tyAt R k).row.ownBlock = some b → t.row.ownBlock ≠ some b := fun k b hk hb ht => by
      unfold rowBs at h
      rw [List.filterMap_cons, ht] at h
      exact (List.nodup_cons.1 h).1 (mem_rowBs.2 ⟨_, tyAt_mem hk, hb⟩)
    have hn : (rowBs R).Nodup := by
      unfold rowBs at h ⊢
      rw [List.filterMap_cons] at h
      cases ht : t.row.ownBlock with
      | none => rw [ht] at h; exact h
      | some b => rw [ht] at h; exact (List.nodup_cons.1 h).2
    intro k j hk hj hkj b hb
    cases k with
    | zero =>
      cases j with
      | zero => exact absurd rfl hkj
      | succ j => rw [hr]; intro hc; exact hx j b (by simpa using hj) hc hb
    | succ k =>
      cases j with
      | zero => exact hx k b (by simpa using hk) hb
      | succ j => exact ih hn k j (by simpa using hk) (by simpa using hj) (by omega) b hb
end ScoT
namespace Go.Proofs.YtfpjleabmemieaaGreat
open Go.Instr Go.RowKit ScoT
set_option linter.unusedVariables false
set_option linter.unusedSimpArgs false
theorem bag_setT {w : World} {b : Nat} {v u : Value} {T : TypeId} (h : w.heap[b]? = some (.cells (bagCells v) T)) : (w.setCell ⟨b, 9, none⟩ u).heap[b]? = some (.cells (bagCells u) T) := by
  rw [heap_setCell_same w b 9 _ T u h]
  rfl
/-- The bag holds the rows of types. -/
structure Bagged (lo b : Nat) (v : Value) (old : List Ty) (w : World) : Prop where
  box : w.heap[b]? = some (.cells (bagCells v) 110)
  low : lo ≤ b
  own : w.ownsRow lo 24 1 v old.length (old.map Ty.row)
  ne : v.ownBlock ≠ some b
def PutT (lo b : Nat) (all : List Ty) (w : World) (e : Ending) (w' : World) : Prop := e = .returned (.tuple #[]) ∧ ∃ v', Bagged lo b v' all w' ∧ Below lo w w'
def OneOf (t : Ty) : Prop := ∀ (lo b : Nat) (v : Value) (old : List Ty) (w : World) (S : Nat → Prop), Bagged lo b v old w → In w S t → (∀ c, S c → c < lo) → old.length + (subs t).length < 1000000 →
  Calls Tryz.prog 53 #[.pointer (some ⟨b, 0, none⟩), t.val] w (PutT lo b (old ++ subs t) w)
theorem cells_new1 (w : World) (v : Value) (T : TypeId) : ∀ j u, [v][j]? = some u → (w.alloc (.cells #[v] T)).cell? ((⟨w.heap.size, 0, none⟩ : Addr).add j) = some u := cells_new w [v] T _ rfl
set_option maxHeartbeats 2000000 in
theorem putTypes_of (t : Ty) (ih : ∀ u ∈ t.els, OneOf u) (lo b : Nat) (v : Value) (old : List Ty) (w : World) (S : Nat → Prop) (hb : Bagged lo b v old w) (hin : In w S t) (hS : ∀ c, S c → c < lo) (hn : old.length + (subs t).length < 1000000) :
    Calls Tryz.prog 46 #[.pointer (some ⟨b, 0, none⟩), t.row] w (PutT lo b (old ++ subs t) w) := by
  obtain ⟨i0, hi, hz0, hz1, hz2⟩ := info_parts Tryz.infoSliceTypes
  have HI := Lib.hid (And.intro hi (And.intro hz0 (And.intro hz1 hz2)))
  have c0 : w.cell? ⟨b, 9, none⟩ = some v := bag_cell hb.box 9
  have f0 : w.frozen? ⟨b, 9, none⟩ = false := frozen_of_row w b 9 _ _ hb.box
  have hlt : b < w.heap.size := (Array.getElem?_eq_some_iff.1 hb.box).1
  have hlo := hb.low
  have hlo2 : lo ≤ w.heap.size := by omega
  have hsub := subs_eq t
  have hnn : old.length + 1 + (subsL t.els).length < 1000000 := by rw [hsub] at hn; simp at hn; omega
  have HSUB := Lib.hid hsub
  have HO := Lib.hid hb
  have HIN := Lib.hid (And.intro ih (And.intro hin hS))
  clear hi hz0 hz1 hz2 hb ih hin hS hn hsub
  obtain ⟨a1, c1, hv, _, _, _, _⟩ := FlT.own_shape HO.out.own
  subst hv
  unfold Ty.row
  go_enter Tryz.func46, Tryz.ntmps46
  go_wp2_with (at_builtin; refine Go.wpList_append_two rfl _ _ 61 rfl lo 24 i0 _ 1 24 Tryz.underlying61 HI.out.1 HI.out.2.1 HI.out.2.2.1 HI.out.2.2.2 rfl (by decide) _ old.length _ rfl (HO.out.own.alloc (.cells #[.slice t.addr t.els.length t.cap] 24)) ⟨w.heap.size, 0, none⟩ 1 1 (by decide) rfl [.slice t.addr t.els.length t.cap] rfl (cells_new1 w _ _) ?_ ?_ ?_ ?_ ?_)
  · intro u hu
    obtain rfl : u = .slice t.addr t.els.length t.cap := by simpa using hu
    rfl
  · unfold maxLen; omega
  · omega
  · simp; omega
  · intro v' w3 hG
    obtain ⟨r, c3, hv, _, _, _, _⟩ := FlT.own_head hG.1 (by omega)
    unfold FlT.row at hv
    subst hv
    have HB : Hid (w3.heap[b]? = some (.cells (bagCells (.slice a1 old.length c1)) 110) ∧ Below lo w w3 ∧ r ≠ b) := by
      have hw : (w.alloc (.cells #[.slice t.addr t.els.length t.cap] 24)).heap[b]? = w.heap[b]? := Below.heap_alloc _ _ _ hlt
      have hbl : Below lo w (w.alloc (.cells #[.slice t.addr t.els.length t.cap] 24)) := (Below.refl _ _).alloc hlo2 _
      rcases hG.2 with ⟨b', c4, e1, e2, h1⟩ | ⟨h1, h2⟩
      · have e3 : b' = r := by simp only [FlT.row, Value.slice.injEq, Option.some.injEq, Addr.mk.injEq, and_true] at e2; exact e2.1.symm
        subst e3
        have hnb : b' ≠ b := fun e => HO.out.ne (by rw [e1, e]; rfl)
        exact ⟨((h1.block b (by simp; omega) (by simpa using fun e => hnb e.symm)).trans hw).trans HO.out.box, hbl.grown h1 (by simp; omega) (fun k hk => by obtain rfl : b' = k := (by simpa using hk); exact (HO.out.own.lt b' (by rw [e1]; rfl)).1), hnb⟩
      · have h3 := h2 r rfl
        simp at h3
        exact ⟨((h1.block b (by simp; omega) (by simp)).trans hw).trans HO.out.box, hbl.grown h1 (by simp; omega) (by simp), by omega⟩
    have HO3 := Lib.hid hG.1
    clear hG
    have c0 : w3.cell? ⟨b, 9, none⟩ = some (.slice a1 old.length c1) := bag_cell HB.out.1 9
    have f1 : w3.frozen? ⟨b, 9, none⟩ = false := frozen_of_row w3 b 9 _ _ HB.out.1
    have HFIN : Hid (Bagged lo b (.slice (some ⟨r, 0, none⟩) (old.length + 1) c3) (old ++ [t]) (w3.setCell ⟨b, 9, none⟩ (.slice (some ⟨r, 0, none⟩) (old.length + 1) c3)) ∧ Below lo w (w3.setCell ⟨b, 9, none⟩ (.slice (some ⟨r, 0, none⟩) (old.length + 1) c3))) :=
      ⟨⟨bag_setT HB.out.1, hlo, by
        rw [List.length_append, List.length_singleton, List.map_append, List.map_singleton]
        exact FlT.row_keep HO3.out fun k hk => Below.heap_setCell _ _ _ _ (by show k ≠ b; rintro rfl; have : r = k := (by simpa [Value.ownBlock] using hk); exact HB.out.2.2 this), by simpa [Value.ownBlock] using HB.out.2.2⟩, HB.out.2.1.setCell hlo _⟩
    go_wp2_with fail
    have HL : Hid (t.els.length ≤ 1000000) := Lib.hid (by have := subsL_len t.els; omega)
    clear HO HB HO3 c0 f0 f1
    go_loopg [4] t.els.length (fun gg i wr => ∃ k : Nat, k ≤ t.els.length ∧ gg = t.els.length - k ∧ i = .int .i64 k ∧ (∃ v', Bagged lo b v' (old ++ (t :: subsL (t.els.take k))) wr) ∧ Below lo w wr)
    case atStart => exact ⟨0, by omega, rfl, rfl, ⟨_, by simpa [subsL] using HFIN.out.1⟩, HFIN.out.2⟩
    case round =>
      obtain ⟨k, hk, hgk, rfl, ⟨v', hbg⟩, hbl⟩ := hrel
      have HGK := Lib.hid hgk
      have HB := Lib.hid (And.intro hbg hbl)
      clear hgk hbg hbl HFIN
      by_cases hlt2 : k < t.els.length
      · have t1 : decide ((k : Int) < (t.els.length : Int)) = true := decide_eq_true (by omega)
        have hl6 : t.els.length ≤ 1000000 := HL.out
        have k0 : (0 : Int) ≤ (k : Int) := by omega
        have k1 : (k : Int) < (t.els.length : Int) := by omega
        obtain ⟨u, hu⟩ : ∃ u, t.els[k]? = some u := ⟨_, List.getElem?_eq_getElem hlt2⟩
        obtain ⟨ih, hin, hS⟩ := HIN.out
        have hinr : In wr S t := hin.keep (fun _ h => h) fun p hp => HB.out.2.cell (hS _ hp)
        obtain ⟨g, o, hA, hg, hc⟩ := hinr.rows (by omega)
        have e0 := hc k u hu 0 _ rfl
        have e1 := hc k u hu 1 _ rfl
        have e2 := hc k u hu 2 _ rfl
        simp only [Nat.add_zero] at e0
        have hlen : (old ++ t :: subsL (t.els.take k)).length + (subs u).length < 1000000 := by
          have h1 := subsL_len_take t.els (k + 1)
          rw [subsL_take hu, List.length_append] at h1
          simp only [List.length_append, List.length_cons]
          omega
        have HC := Lib.hid (ih u (List.mem_of_getElem? hu) lo b v' _ wr S HB.out.1 (hinr.kid hu) hS hlen)
        have HU := Lib.hid hu
        have HA := Lib.hid hA
        clear ih hin hS hinr hA hg hc hlen hu
        unfold Ty.val Ty.row at HC
        rw [HA.out]
        go_wp2_with fail
        refine HC.out.mono ?_
        rintro e w2 ⟨rfl, v2, hb2, hbl2⟩
        have HB2 := Lib.hid (And.intro hb2 hbl2)
        clear hb2 hbl2
        go_wp2_with fail
        rw [← HA.out]
        go_roundg (t.els.length - (k + 1))
        case rel =>
          refine ⟨k + 1, by omega, rfl, by go_num, ⟨v2, ?_⟩, HB.out.2.trans HB2.out.2⟩
          have := HB2.out.1
          rw [subsL_take HU.out]
          simpa using this
        case measure => rw [HGK.out]; omega
      · have hke : k = t.els.length := by omega
        have t1 : decide ((k : Int) < (t.els.length : Int)) = false := decide_eq_false (by omega)
        go_wp2_with fail
        go_end0
        have := HB.out.1
        rw [hke, List.take_length] at this
        rw [HSUB.out]
        exact ⟨rfl, v', this, HB.out.2⟩
theorem oneType_any : ∀ t, OneOf t := by
  refine Ty.rose fun t ih => ?_
  intro lo b v old w S hb hin hS hn
  have hlo : lo ≤ w.heap.size := by have := (Array.getElem?_eq_some_iff.1 hb.box).1; have := hb.low; omega
  have hbw : Below w.heap.size w (w.alloc (.cells #[.int .u8 t.kind, .string t.name, .slice t.addr t.els.length t.cap] 26)) := (Below.refl _ _).alloc (Nat.le_refl _) _
  have HC := Lib.hid (putTypes_of t ih lo b v old (w.alloc (.cells #[.int .u8 t.kind, .string t.name, .slice t.addr t.els.length t.cap] 26)) S ⟨(hbw.block b (Array.getElem?_eq_some_iff.1 hb.box).1).trans hb.box, hb.low, hb.own.alloc _, hb.ne⟩ (hin.keep (fun _ h => h) fun p hp => hbw.cell (by have := hS _ hp; omega)) hS hn)
  have HB := Lib.hid (And.intro hlo hbw)
  clear ih hb hin hS hn hlo hbw
  unfold Ty.val Ty.row
  unfold Ty.row at HC
  go_enter Tryz.func53, Tryz.ntmps53
  go_wp2_with fail
  refine HC.out.mono ?_
  rintro e w2 ⟨rfl, v2, hb2, hbl2⟩
  have HB2 := Lib.hid (And.intro hb2 hbl2)
  clear hb2 hbl2
  go_wp2_with fail
  go_end0
  exact ⟨rfl, v2, HB2.out.1, (HB.out.2.mono HB.out.1).trans HB2.out.2⟩
theorem putTypes_any (t : Ty) (lo b : Nat) (v : Value) (old : List Ty) (w : World) (S : Nat → Prop) (hb : Bagged lo b v old w) (hin : In w S t) (hS : ∀ c, S c → c < lo) (hn : old.length + (subs t).length < 1000000) :
    Calls Tryz.prog 46 #[.pointer (some ⟨b, 0, none⟩), t.row] w (PutT lo b (old ++ subs t) w) := putTypes_of t (fun u _ => oneType_any u) lo b v old w S hb hin hS hn
end Go.Proofs.YtfpjleabmemieaaGreat
namespace ScoT
open Go Go.RowKit
set_option linter.unusedVariables false
theorem subsL_mem_len {ts : List Ty} {t : Ty} (h : t ∈ ts) : (subs t).length ≤ (subsL ts).length := by
  induction ts with
  | nil => simp at h
  | cons a ts ih =>
    simp only [subsL, List.length_append]
    rcases List.mem_cons.1 h with rfl | h
    · omega
    · have := ih h; omega
theorem subs_els : ∀ (t u : Ty), u ∈ subs t → u.els.length ≤ (subs t).length := by
  refine Ty.rose fun t ih => ?_
  intro u hu
  rw [subs_eq] at hu ⊢
  have := subsL_len t.els
  rcases List.mem_cons.1 hu with rfl | hu
  · simp only [List.length_cons]; omega
  · obtain ⟨i, e, hi, hue⟩ := mem_subsL.1 hu
    have h1 := ih e (List.mem_of_getElem? hi) u hue
    have h2 := subsL_mem_len (List.mem_of_getElem? hi)
    simp only [List.length_cons]
    omega
theorem subsL_els {ts : List Ty} {u : Ty} (h : u ∈ subsL ts) : u.els.length ≤ (subsL ts).length := by
  obtain ⟨i, e, hi, hue⟩ := mem_subsL.1 h
  have h1 := subs_els e u hue
  have h2 := subsL_mem_len (List.mem_of_getElem? hi)
  omega
end ScoT
namespace Go.Proofs.YtfpjleabmemieaaGreat
open Go.Instr Go.RowKit ScoT
set_option linter.unusedVariables false
set_option linter.unusedSimpArgs false
set_option maxHeartbeats 2000000 in
theorem ApartTypes_any (base a c : Nat) (T : List Ty) (S : Nat → Prop) (w : World) (h0 : 0 < T.length) (hsz : (subsL T).length < 1000000) (hcell : ∀ (k : Nat) (t : Ty), T[k]? = some t → w.cell? ⟨a, k, none⟩ = some t.row) (hin : ∀ t ∈ T, In w S t) (hS : ∀ b, S b → b < w.heap.size)
    (hown : ∀ u ∈ subsL T, w.ownsRow base 26 3 u.row u.els.length (tcells u.els)) (hnd : (rowBs (subsL T)).Nodup) (hB : base ≤ w.heap.size) :
    Calls Tryz.prog 29 #[.slice (some ⟨a, 0, none⟩) T.length c] w fun e w' => e = .returned (.bool true) ∧ FlT.Moves (fun b => b ∈ rowBs (subsL T)) w w' := by
  have hTl := subsL_len T
  have HIN := Lib.hid (And.intro hcell (And.intro hin (And.intro hS (And.intro hown (And.intro hnd hB)))))
  clear hcell hin hS hown hnd hB
  go_enter Tryz.func29, Tryz.ntmps29
  go_wp2_with fail
  go_loopg [4] T.length (fun gg v wr => ∃ k : Nat, k ≤ T.length ∧ gg = T.length - k ∧ v = .int .i64 k ∧ Below w.heap.size w wr ∧ ∃ u, Bagged w.heap.size w.heap.size u (subsL (T.take k)) wr)
  case atStart => exact ⟨0, by omega, rfl, rfl, (Below.refl _ _).alloc (Nat.le_refl _) _, .slice none 0 0, World.alloc_heap_new w _, Nat.le_refl _, World.ownsRow_nil _ _ _ _, by simp [Value.ownBlock]⟩
  case round =>
    obtain ⟨k, hk, hgk, rfl, hb, u, hbg⟩ := hrel
    have HGK := Lib.hid hgk
    have HB := Lib.hid hb
    have HU := Lib.hid hbg
    clear hgk hb hbg
    by_cases hlt : k < T.length
    · have t1 : decide ((k : Int) < (T.length : Int)) = true := decide_eq_true (by omega)
      have k0 : (0 : Int) ≤ (k : Int) := by omega
      have k1 : (k : Int) < (T.length : Int) := by omega
      obtain ⟨t, ht⟩ : ∃ t, T[k]? = some t := ⟨_, List.getElem?_eq_getElem hlt⟩
      have c0 : wr.cell? ⟨a, k, none⟩ = some t.row := (HB.out.cell (p := ⟨a, k, none⟩) (World.block_lt_of_cell? _ _ (HIN.out.1 k t ht))).trans (HIN.out.1 k t ht)
      have hlen : (subsL (T.take k)).length + (subs t).length < 1000000 := by
        have h1 := subsL_len_take T (k + 1)
        rw [subsL_take ht, List.length_append] at h1
        omega
      have HC := Lib.hid (putTypes_any t w.heap.size w.heap.size u _ wr S HU.out ((HIN.out.2.1 t (List.mem_of_getElem? ht)).keep (fun _ h => h) fun p hp => HB.out.cell (HIN.out.2.2.1 _ hp)) HIN.out.2.2.1 hlen)
      have HT := Lib.hid ht
      clear hlen ht
      unfold Ty.row at c0 HC
      go_wp2_with fail
      refine HC.out.mono ?_
      rintro e w2 ⟨rfl, v2, hb2, hbl2⟩
      have HB2 := Lib.hid (And.intro hb2 hbl2)
      clear hb2 hbl2
      go_wp2_with fail
      go_roundg (T.length - (k + 1))
      case rel =>
        refine ⟨k + 1, by omega, rfl, by go_num, HB.out.trans HB2.out.2, v2, ?_⟩
        rw [subsL_take HT.out]
        exact HB2.out.1
      case measure => rw [HGK.out]; omega
    · have t1 : decide ((k : Int) < (T.length : Int)) = false := decide_eq_false (by omega)
      have hke : k = T.length := by omega
      have HU2 : Hid (Bagged w.heap.size w.heap.size u (subsL T) wr) := Lib.hid (by have := HU.out; rw [hke, List.take_length] at this; exact this)
      have HAP : Hid (Calls Tryz.prog 47 #[.pointer (some ⟨w.heap.size, 0, none⟩)] wr fun e w' => e = .returned (.bool true) ∧ FlT.Moves (fun b => b ∈ rowBs (subsL T)) w w') := Lib.hid (by
        obtain ⟨hcell, hin, hS, hown, hnd, hB⟩ := HIN.out
        have hlow : ∀ u ∈ subsL T, ∀ b, u.row.ownBlock = some b → b < w.heap.size := fun u hu b hb => ((hown u hu).lt b hb).2
        have hbx := HU2.out.box
        refine (bagApart_any w.heap.size u 110 (fun b => b ∈ rowBs (subsL T)) wr hbx (Array.getElem?_eq_some_iff.1 hbx).1 (fun hm => ?_) ?_).mono ?_
        · obtain ⟨x, hx, hb⟩ := mem_rowBs.1 hm
          have := hlow x hx _ hb
          omega
        · intro ww hm
          have hu := row_keep HU2.out.own fun b hb => hm.block b (HU2.out.own.lt b hb).2
          rw [map_tyAt] at hu
          have h0' : 0 < (subsL T).length := by omega
          obtain ⟨g, cg, hv, hg0, _, _, _⟩ := FlT.own_head hu h0'
          unfold FlT.row at hv
          subst hv
          have hbl : Below w.heap.size w ww := HB.out.trans (hm.mono HB.out.size)
          refine (flatTypes_any base g cg (subsL T).length (fun k => (tyAt (subsL T) k).row) (fun k => (tyAt (subsL T) k).els.length) (fun k => tcells (tyAt (subsL T) k).els) ww hsz (fun k hk => ?_) ⟨FlT.own_mono hu hB, fun k hk => row_keep (hown _ (tyAt_mem hk)) fun b hb => hbl.block b (hlow _ (tyAt_mem hk) b hb), fun k hk b hb => ?_, rows_inj hnd⟩ ?_).mono ?_
          · have := subsL_els (tyAt_mem hk)
            omega
          · have := hlow _ (tyAt_mem hk) b hb
            omega
          · have := hbl.size
            omega
          · rintro e w' ⟨h1, h2⟩
            refine ⟨h1, h2.mono fun b hb => ?_⟩
            obtain ⟨k, hk, hb⟩ := hb
            exact mem_rowBs.2 ⟨_, tyAt_mem hk, hb⟩
        · rintro e w' ⟨h1, h2⟩
          exact ⟨h1, (FlT.Moves.of_below HB.out).trans h2⟩)
      clear HU HU2 HIN hke
      go_wp2_with fail
      refine HAP.out.mono ?_
      rintro e w2 ⟨rfl, hm⟩
      have HM := Lib.hid hm
      clear hm
      go_wp2_with fail
      go_ret
      exact ⟨rfl, HM.out⟩
end Go.Proofs.YtfpjleabmemieaaGreat
