/- The map of what pairs say, turned about; in whatever order it is gone through. -/
import Derived.Test.YthkbdklbnmlpkabGreatScnZ
import Derived.Maps.RangeWalk
import Derived.Maps.Own
import Derived.Maps.OwnOps
import Derived.Maps.OwnSet
import Derived.Maps.Ext
set_option maxRecDepth 100000
set_option linter.unusedSimpArgs false
namespace ScnT
open Go Go.Maps
set_option linter.unusedVariables false
def u8L (n : Int) : Lit := .int .u8 n
/-- What the map of pairs reads as. -/
def D1 : DataW Unit := .map [(u8L 34, .lit (u8L 34)), (u8L 92, .lit (u8L 92)), (u8L 110, .lit (u8L 10)), (u8L 114, .lit (u8L 13)), (u8L 116, .lit (u8L 9))]
def prs : List (Int × Int) := [(110, 10), (116, 9), (114, 13), (92, 92), (34, 34)]
/-- Turned about: of the pairs that are no longer to come. -/
structure Turned (D : DataW Unit) (left : Lit → Bool) : Prop where
  isMap : IsMap D
  there : ∀ x c, (x, c) ∈ prs → left (u8L x) = false → has D (u8L c) = true ∧ ∀ z, D.atKey (u8L c) z = .lit (u8L x)
  only : ∀ k, has D k = true → ∃ x c, (x, c) ∈ prs ∧ k = u8L c
theorem turned_start : Turned (.map []) (has D1) := by
  refine ⟨isMap_empty, fun x c hx hl => ?_, fun k h => by cases h⟩
  simp only [prs, List.mem_cons, Prod.mk.injEq, List.not_mem_nil, or_false] at hx
  rcases hx with ⟨rfl, rfl⟩ | ⟨rfl, rfl⟩ | ⟨rfl, rfl⟩ | ⟨rfl, rfl⟩ | ⟨rfl, rfl⟩ <;> exact absurd hl (by decide)
theorem d1_pair {x c : Int} (h : ∀ zd, D1.atKey (.int .u8 x) zd = .lit (.int .u8 c)) : (x, c) ∈ prs := by
  have hh := has_true_of_atKey h
  have hm : x = 34 ∨ x = 92 ∨ x = 110 ∨ x = 114 ∨ x = 116 := by
    simp only [D1, has_eq, List.any_cons, List.any_nil, Bool.or_false, Bool.or_eq_true, u8L] at hh
    rcases hh with h1 | h1 | h1 | h1 | h1
    · have := WideAt.sameKey_eq h1; injection this with _ h2; exact .inl h2.symm
    · have := WideAt.sameKey_eq h1; injection this with _ h2; exact .inr (.inl h2.symm)
    · have := WideAt.sameKey_eq h1; injection this with _ h2; exact .inr (.inr (.inl h2.symm))
    · have := WideAt.sameKey_eq h1; injection this with _ h2; exact .inr (.inr (.inr (.inl h2.symm)))
    · have := WideAt.sameKey_eq h1; injection this with _ h2; exact .inr (.inr (.inr (.inr h2.symm)))
  have h0 := h .nil
  rcases hm with rfl | rfl | rfl | rfl | rfl
  · have e : D1.atKey (.int .u8 34) .nil = .lit (.int .u8 34) := rfl
    rw [e] at h0; injection h0 with h0; injection h0 with _ h0; subst h0; simp [prs]
  · have e : D1.atKey (.int .u8 92) .nil = .lit (.int .u8 92) := rfl
    rw [e] at h0; injection h0 with h0; injection h0 with _ h0; subst h0; simp [prs]
  · have e : D1.atKey (.int .u8 110) .nil = .lit (.int .u8 10) := rfl
    rw [e] at h0; injection h0 with h0; injection h0 with _ h0; subst h0; simp [prs]
  · have e : D1.atKey (.int .u8 114) .nil = .lit (.int .u8 13) := rfl
    rw [e] at h0; injection h0 with h0; injection h0 with _ h0; subst h0; simp [prs]
  · have e : D1.atKey (.int .u8 116) .nil = .lit (.int .u8 9) := rfl
    rw [e] at h0; injection h0 with h0; injection h0 with _ h0; subst h0; simp [prs]
theorem prs_one {x c x' c' : Int} (h : (x, c) ∈ prs) (h' : (x', c') ∈ prs) : x = x' ↔ c = c' := by
  simp only [prs, List.mem_cons, Prod.mk.injEq, List.not_mem_nil, or_false] at h h'
  omega
theorem Turned.step {D : DataW Unit} {left : Lit → Bool} {x c : Int} (h : Turned D left) (hp : (x, c) ∈ prs) : Turned (D.put (u8L c) (.lit (u8L x))) (fun z => left z && !z.sameKey (.int .u8 x)) := by
  have hk : WideAt.IsKeyLit (u8L c) := trivial
  refine ⟨h.isMap.put _ _, fun x' c' hp' hl => ?_, fun k hh => ?_⟩
  · by_cases e : c' = c
    · subst e
      obtain rfl : x' = x := (prs_one hp' hp).2 rfl
      exact ⟨has_put_same h.isMap hk _, fun z => atKey_put_same h.isMap hk _ z⟩
    · have hx : x' ≠ x := fun hx => e ((prs_one hp' hp).1 hx)
      have hne : u8L c' ≠ u8L c := fun hh => e (by unfold u8L at hh; injection hh)
      have hne2 : u8L x' ≠ .int .u8 x := fun hh => hx (by unfold u8L at hh; injection hh)
      simp only [sameKey_ne hne2, Bool.not_false, Bool.and_true] at hl
      rw [has_put_other hne]
      exact ⟨(h.there x' c' hp' hl).1, fun z => by rw [atKey_put_other hne]; exact (h.there x' c' hp' hl).2 z⟩
  · by_cases e : k = u8L c
    · exact ⟨x, c, hp, e⟩
    · rw [has_put_other e] at hh
      exact h.only k hh
/-- What a byte of a text finds. -/
theorem Turned.look {D : DataW Unit} {left : Lit → Bool} (h : Turned D left) (hl : ∀ k, left k = false) (c : UInt8) : (∃ x : UInt8, quoteOne c = [92, x] ∧ has D (.int .u8 (c.toNat : Int)) = true ∧ ∀ z, D.atKey (.int .u8 (c.toNat : Int)) z = .lit (.int .u8 (x.toNat : Int))) ∨
    (has D (.int .u8 (c.toNat : Int)) = false ∧ isPl c = true ∧ quoteOne c = [c]) ∨ (has D (.int .u8 (c.toNat : Int)) = false ∧ isPl c = false ∧ quoteOne c = [92, 120, digB (c >>> 4), digB (c &&& 15)]) := by
  by_cases h1 : c = 10
  · subst h1; exact .inl ⟨110, rfl, h.there 110 10 (by simp [prs]) (hl _)⟩
  by_cases h2 : c = 9
  · subst h2; exact .inl ⟨116, rfl, h.there 116 9 (by simp [prs]) (hl _)⟩
  by_cases h3 : c = 13
  · subst h3; exact .inl ⟨114, rfl, h.there 114 13 (by simp [prs]) (hl _)⟩
  by_cases h4 : c = 92
  · subst h4; exact .inl ⟨92, rfl, h.there 92 92 (by simp [prs]) (hl _)⟩
  by_cases h5 : c = 34
  · subst h5; exact .inl ⟨34, rfl, h.there 34 34 (by simp [prs]) (hl _)⟩
  have hno : has D (.int .u8 (c.toNat : Int)) = false := by
    rw [← Bool.not_eq_true]
    intro hh
    obtain ⟨x, k, hp, e⟩ := h.only _ hh
    unfold u8L at e
    injection e with _ e
    have g : ∀ n : UInt8, ¬ c = n → (c.toNat : Int) ≠ (n.toNat : Int) := fun n hn hh => hn (UInt8.toNat_inj.1 (by omega))
    have g1 := g 10 h1
    have g2 := g 9 h2
    have g3 := g 13 h3
    have g4 := g 92 h4
    have g5 := g 34 h5
    have e1 : ((10 : UInt8).toNat : Int) = 10 := rfl
    have e2 : ((9 : UInt8).toNat : Int) = 9 := rfl
    have e3 : ((13 : UInt8).toNat : Int) = 13 := rfl
    have e4 : ((92 : UInt8).toNat : Int) = 92 := rfl
    have e5 : ((34 : UInt8).toNat : Int) = 34 := rfl
    simp only [prs, List.mem_cons, Prod.mk.injEq, List.not_mem_nil, or_false] at hp
    omega
  have hq : quoteOne c = if isPl c then [c] else [92, 120, digB (c >>> 4), digB (c &&& 15)] := by
    unfold quoteOne
    simp only [beq_iff_eq, h1, h2, h3, h4, h5, if_false]
  cases hp : isPl c
  · exact .inr (.inr ⟨hno, rfl, by rw [hq, hp]; rfl⟩)
  · exact .inr (.inl ⟨hno, rfl, by rw [hq, hp]; rfl⟩)
theorem take_flat (s : ByteArray) (k : Nat) (h : k < s.size) : (s.data.toList.take (k + 1)).flatMap quoteOne = (s.data.toList.take k).flatMap quoteOne ++ quoteOne s[k] := by
  have : s.data.toList.take (k + 1) = s.data.toList.take k ++ [s[k]] := by
    rw [List.take_succ_eq_append_getElem (by simpa using h)]; rfl
  rw [this, List.flatMap_append]
  simp
theorem flat_le (l : Bs) : (l.flatMap quoteOne).length ≤ 4 * l.length := by
  induction l with
  | nil => simp
  | cons c l ih => have := quoteOne_len c; simp only [List.flatMap_cons, List.length_append, List.length_cons]; omega
theorem flat_len (s : ByteArray) (k : Nat) (h : k ≤ s.size) : ((s.data.toList.take k).flatMap quoteOne).length ≤ 4 * k := by
  have hl : (s.data.toList.take k).length = k := by rw [List.length_take]; simp; omega
  have := flat_le (s.data.toList.take k)
  omega
end ScnT
namespace Go.Proofs.YthkbdklbnmlpkabGreat
open Go.Instr Go.RowKit Go.Maps ScnT
open Go.WideElems (Fit rd rg)
set_option linter.unusedVariables false
theorem Tryz.lawU8 : Keyed Tryz.prog 5 := int_keyed Tryz.underlying5
theorem pair_rd (k v : Int) (n : Nat) (hk : (Lit.int .u8 k).wf = true) (hv : (Lit.int .u8 v).wf = true) : rd Tryz.prog 5 (plainElem (H := Unit) Tryz.prog 5) { key := .int .u8 k, val := .int .u8 v, born := n } = some (u8L k, .lit (u8L v)) := by
  unfold rd
  rw [keyOf_int_mk Tryz.underlying5 hk, plainElem_int Tryz.underlying5 hv]
  rfl
theorem pairs_own {w : World} {m : Nat} (h : PairsAt w m) : w.ownsMap (H := Unit) Tryz.prog 5 (plainElem Tryz.prog 5) m 5 D1 := by
  have r1 := pair_rd 110 10 0 (by decide) (by decide)
  have r2 := pair_rd 116 9 1 (by decide) (by decide)
  have r3 := pair_rd 114 13 2 (by decide) (by decide)
  have r4 := pair_rd 92 92 3 (by decide) (by decide)
  have r5 := pair_rd 34 34 4 (by decide) (by decide)
  refine ⟨pairEs, 5, h, ⟨by decide, ?_, fun x hx => ?_⟩, by decide, ?_⟩
  · exact ⟨by simp [pairEs], by simp [pairEs], by simp [pairEs]⟩
  · simp only [pairEs, List.mem_cons, List.not_mem_nil, or_false] at hx
    rcases hx with rfl | rfl | rfl | rfl | rfl
    · exact ⟨_, r1⟩
    · exact ⟨_, r2⟩
    · exact ⟨_, r3⟩
    · exact ⟨_, r4⟩
    · exact ⟨_, r5⟩
  · simp only [pairEs, List.map_cons, List.map_nil, rg, r1, r2, r3, r4, r5, Option.getD_some]
    rfl
set_option maxRecDepth 100000 in
theorem wf_u8 (c : UInt8) : (Lit.int .u8 (c.toNat : Int)).wf = true := all256 (P := fun c => (Lit.int .u8 (c.toNat : Int)).wf = true) (by decide) c
theorem isBuilder_below {T e : TypeId} {B b : Nat} {bs : List Value} {w w' : World} (h : Lib.IsBuilder T e B b bs w) (hb : Below w.heap.size w w') : Lib.IsBuilder T e B b bs w' := by
  have key : ∀ p, Lib.BuilderAt T e B b p bs w → Lib.BuilderAt T e B b p bs w' := by
    intro p h
    have hlt := h.lt
    obtain ⟨hB, v, hbk, hown, hne⟩ := h
    exact ⟨hB, v, (hb.block b hlt).trans hbk, hown.kept (grown_below hb (some b)) (Or.inr hne), hne⟩
  rcases h with h | h
  · exact .inl (key _ h)
  · exact .inr (key _ h)
theorem strCells_mk (l : Bs) : Lib.strCells (mkS l) = Lib.byteCells l := by
  simp [Lib.strCells, Lib.byteCells, mkS]
/-- The builder, the map turned about. -/
structure Qs (D : DataW Unit) (w wr : World) (TB TE : TypeId) (P : Program) (m : Nat) (acc : Bs) : Prop where
  bld : Lib.IsBuilder TB TE w.heap.size w.heap.size (Lib.byteCells acc) wr
  bel : Below w.heap.size w wr
  map : wr.ownsMap P TE (plainElem P TE) m 5 D
theorem Qs.next {D : DataW Unit} {w wr w1 : World} {TB TE : TypeId} {P : Program} {m : Nat} {acc acc' : Bs} (h : Qs D w wr TB TE P m acc) (hm : m < w.heap.size) (hb : Lib.IsBuilder TB TE w.heap.size w.heap.size (Lib.byteCells acc') w1) (hw : Below w.heap.size wr w1) : Qs D w w1 TB TE P m acc' := by
  refine ⟨hb, h.bel.trans hw, ?_⟩
  obtain ⟨es, cl, he, hrest⟩ := h.map
  exact ⟨es, cl, (hw.block m hm).trans he, hrest⟩
set_option maxHeartbeats 2000000 in
theorem Quote_any (s : ByteArray) (w : World) (hm : s.size ≤ 1000000) : Calls Tryz.prog 5 #[.string s] w fun e w' => e = .returned (.string (mkS (quoteB s.data.toList))) ∧ Below w.heap.size w w' := by
  have hmm := @run_makeMap Tryz.prog
  have e1 : (w.alloc (.map #[] 0)).heap.size = w.heap.size + 1 := by simp
  have e2 : ((w.alloc (.map #[] 0)).alloc (.map pairEs 5)).heap.size = w.heap.size + 2 := by simp
  have hown : ((w.alloc (.map #[] 0)).alloc (.map pairEs 5)).ownsMap (H := Unit) Tryz.prog 5 (plainElem Tryz.prog 5) (w.heap.size + 1) 5 D1 := pairs_own (by rw [← e1]; exact heap_alloc_new _ _)
  have hout : ((w.alloc (.map #[] 0)).alloc (.map pairEs 5)).ownsMap (H := Unit) Tryz.prog 5 (plainElem Tryz.prog 5) w.heap.size 0 (.map []) := (World.ownsMap_made _ _ _ _).alloc _
  have hb : Below w.heap.size w ((w.alloc (.map #[] 0)).alloc (.map pairEs 5)) := ((Below.refl _ _).alloc (Nat.le_refl _) _).alloc (by simp) _
  have HOWN := Lib.hid hown
  have HOUT := Lib.hid hout
  have HB := Lib.hid hb
  clear hown hout hb
  go_enter Tryz.func5, Tryz.ntmps5
  go_wp2_with (first
    | (at_range; refine wpList_range_own _ rfl _ 32 rfl 5 5 Tryz.lawU8 Tryz.underlying32 _ (w.heap.size + 1) 5 _ rfl HOWN.out ?_; intro w0 hrg0 hg0 hs0)
    | (go_at_call 13; refine (pairs_any _).mono ?_; rintro e w' ⟨rfl, rfl⟩))
  go_frame
  rw [e2] at hrg0 hs0 ⊢
  have HB0 : Hid (Below w.heap.size w w0) := HB.out.grown hg0 (by rw [e2]; omega) (fun j hj => by cases hj)
  have HO0 : Hid (w0.ownsMap (H := Unit) Tryz.prog 5 (plainElem Tryz.prog 5) w.heap.size 0 (.map [])) := HOUT.out.kept hg0 (by simp)
  clear hg0 e1
  go_loopw [13] (fun _ wr => ∃ (left : Lit → Bool) (cnt : Nat) (D : DataW Unit), wr.ranges Tryz.prog 5 (plainElem Tryz.prog 5) (w.heap.size + 1) (w.heap.size + 2) 5 D1 left cnt ∧ cnt ≤ 5 ∧
      wr.ownsMap Tryz.prog 5 (plainElem Tryz.prog 5) w.heap.size (5 - cnt) D ∧ Turned D left ∧ Below w.heap.size w wr)
    (fun _ wr => wr.rangeLeft (w.heap.size + 1) (w.heap.size + 2))
  case atStart => exact ⟨_, _, .map [], hrg0, Nat.le_refl _, HO0.out.mono (Nat.zero_le _), turned_start, HB0.out⟩
  case round =>
    obtain ⟨left, cnt, D, hrg, hcs, hout, hT, hnx⟩ := hrel
    clear hrg0 hs0
    go_wp2_with (first
      | (at_next; refine wpList_next_ranges_ii _ rfl _ rfl 5 5 .u8 .u8 Tryz.lawU8 Tryz.underlying5 Tryz.underlying5 (w.heap.size + 1) (w.heap.size + 2) 5 _ _ _ rfl hrg ?_ ?_))
    · intro hc0 hl0
      clear hrg
      obtain ⟨wo, rfl⟩ : ∃ wo : World, wo = wr := ⟨_, rfl⟩
      subst hc0
      have HLK := Lib.hid (fun c => hT.look hl0 c)
      have HM := Lib.hid hout
      have HNX := Lib.hid hnx
      have hwz := hnx.size
      have hml := hout.lt
      have hzE : ∀ w : World, (zeroValue 5).run Tryz.prog w = .ok (.int .u8 0) w := fun w => by kernel_rfl
      clear hT hl0 hout hnx
      have HBU := Lib.hid (Lib.fresh_isBuilder 37 5 wo)
      have HBA : Hid (Below wo.heap.size wo (wo.alloc (.cells #[.pointer none, .slice none 0 0] 37))) := (Below.refl _ _).alloc (Nat.le_refl _) _
      go_wp2_with fail
      refine (WriteByte_any wo.heap.size wo.heap.size [] 34 _ HBU.out (by simp) (by simp)).mono ?_
      rintro e w3 ⟨rfl, hi3, hb3⟩
      have HS0 : Hid (Qs D wo w3 37 5 Tryz.prog w.heap.size [34]) := ⟨hi3, HBA.out.trans hb3, (HM.out.kept (grown_below (HBA.out.trans hb3) none) (by simp))⟩
      clear hi3 hb3
      go_wp2_with fail
      go_loopg [24] s.size (fun g v24 wr => ∃ k : Nat, k ≤ s.size ∧ g = s.size - k ∧ v24 = .int .i64 (k : Int) ∧ Qs D wo wr 37 5 Tryz.prog w.heap.size (34 :: (s.data.toList.take k).flatMap quoteOne))
      case atStart => exact ⟨0, by omega, rfl, rfl, HS0.out⟩
      case round =>
        obtain ⟨k, hk, hgk, rfl, hQ⟩ := hrel
        have HGK := Lib.hid hgk
        have HQ := Lib.hid hQ
        have HFL := Lib.hid (flat_len s k hk)
        have hwl := hQ.bel.size
        clear hgk hQ HS0
        by_cases hlt : k < s.size
        · have HTF := Lib.hid (take_flat s k hlt)
          have hlti : (k : Int) < (s.size : Int) := by omega
          have hkey := keyOf_int_mk (P := Tryz.prog) Tryz.underlying5 (a := (s[k].toNat : Int)) (wf_u8 s[k])
          rcases HLK.out s[k] with ⟨x, hq, hhas, hat⟩ | ⟨hhas, hpl, hq⟩ | ⟨hhas, hpl, hq⟩
          · have HA := Lib.hid hat
            have HQQ := Lib.hid hq
            have HHS := Lib.hid hhas
            clear hat hq hhas
            go_wp2_with (first
              | (at_lookup; refine wpList_lookup_own_ok_int _ rfl _ _ 32 rfl 5 5 .u8 Tryz.lawU8 Tryz.underlying32 Tryz.underlying5 (hzE _) w.heap.size _ D rfl HQ.out.map _ _ rfl hkey ?_; intro cc hat2 hwc; rw [HHS.out]; rw [HA.out] at hat2))
            injection hat2 with hat2
            injection hat2 with _ hat2
            subst hat2
            refine (WriteByte_any wo.heap.size wo.heap.size _ 92 _ HQ.out.bld (by have := HFL.out; simp only [Lib.byteCells_length, List.length_append, List.length_cons, List.length_nil, mkS_size]; omega) hwl).mono ?_
            rintro e w4 ⟨rfl, hi4, hb4⟩
            have HB4 := Lib.hid (And.intro hi4 hb4)
            have hw4 : wo.heap.size ≤ w4.heap.size := Nat.le_trans hwl hb4.size
            clear hi4 hb4
            go_wp2_with fail
            refine (WriteByte_any wo.heap.size wo.heap.size _ (x.toNat : Int) _ HB4.out.1 (by have := HFL.out; simp only [Lib.byteCells_length, List.length_append, List.length_cons, List.length_nil, mkS_size]; omega) hw4).mono ?_
            rintro e w5 ⟨rfl, hi5, hb5⟩
            have HN : Hid (Qs D wo w5 37 5 Tryz.prog w.heap.size (34 :: (s.data.toList.take (k + 1)).flatMap quoteOne)) := by
              refine HQ.out.next hml ?_ (HB4.out.2.trans hb5)
              rw [HTF.out, HQQ.out]
              simpa [Lib.byteCells] using hi5
            clear hi5 hb5
            go_wp2_with fail
            go_roundg (s.size - (k + 1))
            case rel => exact ⟨k + 1, by omega, rfl, by go_num, HN.out⟩
            case measure => rw [HGK.out]; omega
          · have HQQ := Lib.hid hq
            have HHS := Lib.hid hhas
            have HPL : Hid (∀ ww, Calls Tryz.prog 15 #[.int .u8 (s[k].toNat : Int)] ww fun e w' => e = .returned (.bool true) ∧ ww = w') := fun ww => by have := isPlain_any s[k] ww; rwa [hpl] at this
            clear hpl hq hhas
            go_wp2_with (first
              | (at_lookup; refine wpList_lookup_own_ok_int _ rfl _ _ 32 rfl 5 5 .u8 Tryz.lawU8 Tryz.underlying32 Tryz.underlying5 (hzE _) w.heap.size _ D rfl HQ.out.map _ _ rfl hkey ?_; intro cc hat2 hwc; rw [HHS.out]; clear hat2 hwc)
              | (go_at_call 15; refine (HPL.out _).mono ?_; rintro e w' ⟨rfl, rfl⟩))
            refine (WriteByte_any wo.heap.size wo.heap.size _ (s[k].toNat : Int) _ HQ.out.bld (by have := HFL.out; simp only [Lib.byteCells_length, List.length_append, List.length_cons, List.length_nil, mkS_size]; omega) hwl).mono ?_
            rintro e w5 ⟨rfl, hi5, hb5⟩
            have HN : Hid (Qs D wo w5 37 5 Tryz.prog w.heap.size (34 :: (s.data.toList.take (k + 1)).flatMap quoteOne)) := by
              refine HQ.out.next hml ?_ hb5
              rw [HTF.out, HQQ.out]
              simpa [Lib.byteCells] using hi5
            clear hi5 hb5
            go_wp2_with fail
            go_roundg (s.size - (k + 1))
            case rel => exact ⟨k + 1, by omega, rfl, by go_num, HN.out⟩
            case measure => rw [HGK.out]; omega
          · have HQQ := Lib.hid hq
            have HHS := Lib.hid hhas
            have HPL : Hid (∀ ww, Calls Tryz.prog 15 #[.int .u8 (s[k].toNat : Int)] ww fun e w' => e = .returned (.bool false) ∧ ww = w') := fun ww => by have := isPlain_any s[k] ww; rwa [hpl] at this
            clear hpl hq hhas
            go_wp2_with (first
              | (at_lookup; refine wpList_lookup_own_ok_int _ rfl _ _ 32 rfl 5 5 .u8 Tryz.lawU8 Tryz.underlying32 Tryz.underlying5 (hzE _) w.heap.size _ D rfl HQ.out.map _ _ rfl hkey ?_; intro cc hat2 hwc; rw [HHS.out]; clear hat2 hwc)
              | (go_at_call 15; refine (HPL.out _).mono ?_; rintro e w' ⟨rfl, rfl⟩))
            refine (inDigits16_any s[k] wr).mono ?_
            rintro e w4 ⟨rfl, hb4⟩
            have HB4 := Lib.hid hb4
            have hw4 : wo.heap.size ≤ w4.heap.size := Nat.le_trans hwl hb4.size
            clear hb4
            go_wp2_with fail
            refine (WriteString_any wo.heap.size wo.heap.size _ _ w4 (isBuilder_below HQ.out.bld HB4.out) (by have := HFL.out; simp only [Lib.byteCells_length, List.length_append, List.length_cons, List.length_nil, mkS_size]; omega) hw4).mono ?_
            rintro e w5 ⟨rfl, hi5, hb5⟩
            have HN : Hid (Qs D wo w5 37 5 Tryz.prog w.heap.size (34 :: (s.data.toList.take (k + 1)).flatMap quoteOne)) := by
              refine HQ.out.next hml ?_ ((HB4.out.mono hwl).trans hb5)
              rw [HTF.out, HQQ.out]
              rw [strCells_mk] at hi5
              simpa [Lib.byteCells] using hi5
            clear hi5 hb5
            go_wp2_with fail
            go_roundg (s.size - (k + 1))
            case rel => exact ⟨k + 1, by omega, rfl, by go_num, HN.out⟩
            case measure => rw [HGK.out]; omega
        · have hkS : k = s.size := by omega
          have HE : Hid (34 :: (s.data.toList.take k).flatMap quoteOne ++ [34] = quoteB s.data.toList) := by
            show _ = _
            rw [List.take_of_length_le (by simp; omega)]
            rfl
          clear hkS
          go_wp2_with fail
          refine (WriteByte_any wo.heap.size wo.heap.size _ 34 _ HQ.out.bld (by have := HFL.out; simp only [Lib.byteCells_length, List.length_append, List.length_cons, List.length_nil, mkS_size]; omega) hwl).mono ?_
          rintro e w5 ⟨rfl, hi5, hb5⟩
          have HN : Hid (Lib.IsBuilder 37 5 wo.heap.size wo.heap.size (Lib.byteCells (quoteB s.data.toList)) w5) := by
            show Lib.IsBuilder _ _ _ _ _ _
            rw [← HE.out]
            simpa [Lib.byteCells] using hi5
          have HB5 := Lib.hid hb5
          have hw5 : wo.heap.size ≤ w5.heap.size := Nat.le_trans hwl hb5.size
          clear hi5 hb5
          go_wp2_with fail
          refine (String_any wo.heap.size wo.heap.size (quoteB s.data.toList) w5 HN.out hw5).mono ?_
          rintro e w6 ⟨rfl, hb6⟩
          have HB6 := Lib.hid hb6
          clear hb6
          go_wp2_with fail
          go_ret
          exact ⟨rfl, HNX.out.trans (((HQ.out.bel.trans HB5.out).trans HB6.out).mono hwz)⟩
    · intro x c w1 cnt1 hwx hwc hlx hat hrg1 hlt hg1 hs1 hen
      have hp := d1_pair hat
      have hout1 := hout.kept hg1 (by simp)
      go_wp2_with (first
        | (at_mapUpdate; refine wpList_mapUpdate_own _ rfl _ _ _ 32 rfl 5 5 Tryz.lawU8 Tryz.underlying32 _ w.heap.size _ _ rfl hout1 (by unfold maxLen; omega) _ _ _ rfl rfl (keyOf_int_mk Tryz.underlying5 hwc) _ [] (plainElem_int Tryz.underlying5 hwx) ?_; intro w2 hout2 hg2; go_frame))
      have hrg2 := hrg1.kept hg2 (fun e => by have := Option.some.inj e; omega) (fun e => by have := Option.some.inj e; omega)
      go_roundw
      case rel =>
        exact ⟨_, cnt1, _, hrg2, by omega, hout2.mono (by omega), hT.step hp,
          (hnx.grown hg1 hnx.size (fun j hj => by cases hj; omega)).grown hg2 (by have := hnx.size; omega) (fun j hj => by cases hj; exact Nat.le_refl _)⟩
      case measure => rw [hrg2.left_eq, hrg.left_eq]; exact hlt
end Go.Proofs.YthkbdklbnmlpkabGreat
