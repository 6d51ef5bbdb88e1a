/- SameType of two types, SameTexts of two rows of the same texts. -/
import Derived.Test.YtfpjleabmemieaaGreatScoF
import Derived.StillTailTactics
import Derived.Test.YtfpjleabmemieaaGreatNodQ
set_option maxRecDepth 100000
namespace ScoT
open Go Go.RowKit
set_option linter.unusedVariables false
/-- Induction on types. -/
theorem Ty.rose {p : Ty → Prop} (h : ∀ t : Ty, (∀ u ∈ t.els, p u) → p t) (t : Ty) : p t := by
  refine Ty.rec (motive_1 := p) (motive_2 := fun l => ∀ u ∈ l, p u) ?_ ?_ ?_ t
  · intro k s A cap es ih; exact h _ ih
  · intro u hu; cases hu
  · intro a l ha hl u hu
    rcases List.mem_cons.1 hu with rfl | hu
    · exact ha
    · exact hl u hu
theorem sameL_iff (ts us : List Ty) : sameL ts us = true ↔ ts.length = us.length ∧ ∀ (i : Nat) (t u : Ty), ts[i]? = some t → us[i]? = some u → same t u = true := by
  induction ts generalizing us with
  | nil => cases us <;> simp [sameL]
  | cons t ts ih =>
    cases us with
    | nil => simp [sameL]
    | cons u us =>
      simp only [sameL, Bool.and_eq_true, ih, List.length_cons]
      constructor
      · rintro ⟨h1, h2, h3⟩
        refine ⟨by omega, fun i a b ha hb => ?_⟩
        cases i with
        | zero => simp at ha hb; subst ha hb; exact h1
        | succ i => exact h3 i a b (by simpa using ha) (by simpa using hb)
      · rintro ⟨h1, h2⟩
        exact ⟨h2 0 t u rfl rfl, by omega, fun i a b ha hb => h2 (i + 1) a b (by simpa using ha) (by simpa using hb)⟩
/-- A list of types. -/
structure InL (w : World) (S : Nat → Prop) (A : Option Addr) (cap : Nat) (ts : List Ty) : Prop where
  len : ts.length ≤ cap
  cap : cap ≤ maxLen
  rows : Lies w S A ts
  kid : ∀ (i : Nat) (u : Ty), ts[i]? = some u → In w S u
section
variable {w w' : World} {S : Nat → Prop} {A : Option Addr} {cap : Nat} {ts : List Ty} {t u : Ty}
theorem In.list (h : In w S t) : InL w S t.addr t.cap t.els := ⟨h.fits.len, h.fits.cap, h.rows, fun i u hi => h.kid hi⟩
theorem InL.under {B : Nat} (h : InL w S A cap ts) (hb : Below B w w') (hS : ∀ b, S b → b < B) : InL w' S A cap ts :=
  ⟨h.len, h.cap, h.rows.keep (fun _ hb => hb) (fun p hp => hb.cell (hS _ hp)), fun i u hi => (h.kid i u hi).keep (fun _ hb => hb) (fun p hp => hb.cell (hS _ hp))⟩
theorem In.under {B : Nat} (h : In w S t) (hb : Below B w w') (hS : ∀ b, S b → b < B) : In w' S t := h.keep (fun _ hb => hb) (fun p hp => hb.cell (hS _ hp))
theorem InL.at_ (h : InL w S A cap ts) {i : Nat} (hi : ts[i]? = some u) : ∃ b o, A = some ⟨b, o, none⟩ ∧ S b ∧
    w.cell? ⟨b, o + i * 3, none⟩ = some (.int .u8 u.kind) ∧ w.cell? ⟨b, o + i * 3 + 1, none⟩ = some (.string u.name) ∧ w.cell? ⟨b, o + i * 3 + 2, none⟩ = some (.slice u.addr u.els.length u.cap) := by
  have hl : i < ts.length := (List.getElem?_eq_some_iff.1 hi).1
  obtain ⟨b, o, hA, hb, hc⟩ := h.rows (by omega)
  have hc' := hc i u hi
  exact ⟨b, o, hA, hb, hc' 0 _ rfl, hc' 1 _ rfl, hc' 2 _ rfl⟩
end
theorem below_step {w x y : World} (h : Below w.heap.size w x) (k : Below x.heap.size x y) (hs : w.heap.size ≤ x.heap.size) : Below w.heap.size w y := h.trans (k.mono hs)
end ScoT
namespace Go.Proofs.YtfpjleabmemieaaGreat
open Go.Instr Go.RowKit ScoT
set_option linter.unusedVariables false
def SameTypeOf (t : Ty) : Prop := ∀ (u : Ty) (w : World) (S S' : Nat → Prop), In w S t → In w S' u → (∀ b, S b → b < w.heap.size) → (∀ b, S' b → b < w.heap.size) →
    Calls Tryz.prog 15 #[t.val, u.val] w fun e w' => e = .returned (.bool (same t u)) ∧ Below w.heap.size w w'
set_option maxHeartbeats 2000000 in
theorem SameTypes_of (ts us : List Ty) (ih : ∀ t ∈ ts, SameTypeOf t) (A C : Option Addr) (ca cc : Nat) (w : World) (S S' : Nat → Prop) (h1 : InL w S A ca ts) (h2 : InL w S' C cc us) (hS : ∀ b, S b → b < w.heap.size) (hS' : ∀ b, S' b → b < w.heap.size) :
    Calls Tryz.prog 34 #[.slice A ts.length ca, .slice C us.length cc] w fun e w' => e = .returned (.bool (sameL ts us)) ∧ Below w.heap.size w w' := by
  have l1 := h1.len
  have l2 := h1.cap
  have l3 := h2.len
  have l4 := h2.cap
  unfold maxLen at l2 l4
  by_cases hl : ts.length = us.length
  · have hne : ((ts.length : Int) != us.length) = false := by simp [hl]
    have HL := Lib.hid hl
    clear hl
    go_enter Tryz.func34, Tryz.ntmps34
    go_wp2_with fail
    go_loopg [5] ts.length (fun g i wr => ∃ k : Nat, k ≤ ts.length ∧ g = ts.length - k ∧ i = .int .i64 k ∧ (∀ (i : Nat) (t u : Ty), i < k → ts[i]? = some t → us[i]? = some u → same t u = true) ∧ Below w.heap.size w wr)
    case atStart => exact ⟨0, by omega, rfl, rfl, fun i t u h => by omega, Below.refl _ _⟩
    case round =>
      obtain ⟨k, hk, hgk, rfl, hX, hb⟩ := hrel
      have HGK := Lib.hid hgk
      have HX := Lib.hid hX
      clear hgk hX
      by_cases hlt : k < ts.length
      · obtain ⟨t, ht⟩ : ∃ t, ts[k]? = some t := ⟨_, List.getElem?_eq_getElem hlt⟩
        obtain ⟨u, hu⟩ : ∃ u, us[k]? = some u := ⟨_, List.getElem?_eq_getElem (by have := HL.out; omega)⟩
        have hul : k < us.length := by have := HL.out; omega
        have i1 := h1.under hb hS
        have i2 := h2.under hb hS'
        obtain ⟨ab, ao, ha, hab, c0, c1, c2⟩ := i1.at_ ht
        obtain ⟨cb, co, hc, hcb, d0, d1, d2⟩ := i2.at_ hu
        subst ha
        subst hc
        have j1 := Lib.hid (i1.kid k t ht)
        have j2 := Lib.hid (i2.kid k u hu)
        have hsz := hb.size
        have HSS := Lib.hid (And.intro hS hS')
        have HT := Lib.hid ht
        have HU := Lib.hid hu
        have HI := Lib.hid (ih t (List.mem_of_getElem? ht))
        clear ht hu ih i1 i2 h1 h2 hS hS'
        go_wp2_with fail
        go_still_tail 8, (by kernel_rfl)
        go_wp2_with fail
        refine (HI.out u _ S S' ?_ ?_ ?_ ?_).mono ?_
        · exact j1.out.keep (fun _ hb => hb) (fun _ _ => rfl)
        · exact j2.out.keep (fun _ hb => hb) (fun _ _ => rfl)
        · intro b hb; have := HSS.out.1 b hb; show b < wr.heap.size; omega
        · intro b hb; have := HSS.out.2 b hb; show b < wr.heap.size; omega
        rintro e w1 ⟨rfl, hb1⟩
        have hb1' : Below wr.heap.size wr w1 := (Below.refl _ _).drew.trans hb1
        clear hb1
        have hb2 := below_step hb hb1' hb.size
        cases hlk : same t u
        all_goals
          have HK := Lib.hid hlk
          clear hlk
        · go_wp2_with fail
          go_ret
          have : sameL ts us = false := by
            rw [← Bool.not_eq_true, sameL_iff]
            intro h
            have := h.2 k t u HT.out HU.out
            rw [HK.out] at this
            cases this
          rw [this]
          exact ⟨rfl, hb2⟩
        · go_wp2_with fail
          go_roundg (ts.length - (k + 1))
          case rel =>
            refine ⟨k + 1, by omega, rfl, by go_num, fun i t' u' hi ht' hu' => ?_, hb2⟩
            rcases Nat.lt_or_ge i k with h | h
            · exact HX.out i t' u' h ht' hu'
            · obtain rfl : i = k := by omega
              obtain rfl := Option.some.inj (HT.out.symm.trans ht')
              obtain rfl := Option.some.inj (HU.out.symm.trans hu')
              exact HK.out
          case measure => rw [HGK.out]; omega
      · go_wp2_with fail
        go_ret
        have : sameL ts us = true := by
          rw [sameL_iff]
          exact ⟨HL.out, fun i t u ht hu => HX.out i t u (by have := (List.getElem?_eq_some_iff.1 ht).1; omega) ht hu⟩
        rw [this]
        exact ⟨rfl, hb⟩
  · have hne : ((ts.length : Int) != us.length) = true := by simp; omega
    have HL := Lib.hid hl
    clear hl
    go_enter Tryz.func34, Tryz.ntmps34
    go_wp2_with fail
    go_ret
    have : sameL ts us = false := by
      rw [← Bool.not_eq_true, sameL_iff]
      exact fun h => HL.out h.1
    rw [this]
    exact ⟨rfl, Below.refl _ _⟩
theorem toList_inj {a b : ByteArray} (h : a.toList = b.toList) : a = b := by
  apply ByteArray.ext
  have := congrArg List.toArray h
  rw [Lib.toList_data, Lib.toList_data] at h
  exact Array.toList_inj.1 h
set_option maxHeartbeats 2000000 in
theorem SameType_any : ∀ t, SameTypeOf t := by
  refine Ty.rose fun t ih => ?_
  intro u w S S' h1 h2 hS hS'
  have hlk := same_eq t u
  have HLK := Lib.hid hlk
  have HS := Lib.hid (SameTypes_of t.els u.els ih)
  have B2 : Hid (∀ a b : Obj, Below w.heap.size w ((w.alloc a).alloc b)) := Lib.hid fun a b => ((Below.refl _ _).alloc (Nat.le_refl _) _).alloc (by simp) _
  have H1 := Lib.hid h1.list
  have H2 := Lib.hid h2.list
  have HSS := Lib.hid (And.intro hS hS')
  clear hlk ih h1 h2 hS hS'
  unfold Ty.val Ty.row
  go_enter Tryz.func15, Tryz.ntmps15
  go_wp2_with fail
  · refine (HS.out _ _ _ _ _ S S' (H1.out.under (B2.out _ _) HSS.out.1) (H2.out.under (B2.out _ _) HSS.out.2) (fun b hb => by have := HSS.out.1 b hb; simp; omega) (fun b hb => by have := HSS.out.2 b hb; simp; omega)).mono ?_
    rintro e w1 ⟨rfl, hb⟩
    go_wp2_with fail
    go_ret
    have a1 : t.kind = u.kind := by omega
    have a2 : t.name.toList = u.name.toList := by assumption
    have a3 : t.name = u.name := toList_inj a2
    have : same t u = sameL t.els u.els := by rw [HLK.out]; simp [a1, a3]
    rw [this]
    exact ⟨rfl, (B2.out _ _).trans (hb.mono (by simp; omega))⟩
  · go_ret
    have a2 : ¬ t.name.toList = u.name.toList := by assumption
    have : same t u = false := by rw [HLK.out]; simp; intro _ h; exact absurd (by rw [h]) a2
    rw [this]
    exact ⟨rfl, B2.out _ _⟩
  · go_ret
    have a4 : ¬ t.kind = u.kind := by omega
    have : same t u = false := by rw [HLK.out]; simp [a4]
    rw [this]
    exact ⟨rfl, B2.out _ _⟩
set_option maxHeartbeats 2000000 in
theorem SameTexts_any (ts : List ByteArray) (A B : Option Addr) (ca cb : Nat) (w : World) (hl : ts.length < 1000000) (ha : ∀ (i : Nat) (t : ByteArray), ts[i]? = some t → ∃ a, A = some ⟨a, 0, none⟩ ∧ w.cell? ⟨a, i, none⟩ = some (.string t)) (hb : ∀ (i : Nat) (t : ByteArray), ts[i]? = some t → ∃ b, B = some ⟨b, 0, none⟩ ∧ w.cell? ⟨b, i, none⟩ = some (.string t)) :
    Calls Tryz.prog 18 #[.slice A ts.length ca, .slice B ts.length cb] w fun e w' => e = .returned (.bool true) ∧ Below w.heap.size w w' := by
  have HA := Lib.hid ha
  have HB := Lib.hid hb
  clear ha hb
  go_enter Tryz.func18, Tryz.ntmps18
  go_wp2_with fail
  go_loopg [5] ts.length (fun gg v wr => ∃ k : Nat, k ≤ ts.length ∧ gg = ts.length - k ∧ v = .int .i64 k ∧ Below w.heap.size w wr)
  case atStart => exact ⟨0, by omega, rfl, rfl, Below.refl _ _⟩
  case round =>
    obtain ⟨k, hk, hgk, rfl, hbl⟩ := hrel
    have HGK := Lib.hid hgk
    have HBL := Lib.hid hbl
    clear hgk hbl
    by_cases hlt : k < ts.length
    · have t1 : decide ((k : Int) < (ts.length : Int)) = true := decide_eq_true (by omega)
      obtain ⟨t, ht⟩ : ∃ t, ts[k]? = some t := ⟨_, List.getElem?_eq_getElem hlt⟩
      obtain ⟨a, rfl, ca'⟩ := HA.out k t ht
      obtain ⟨b, rfl, cb'⟩ := HB.out k t ht
      have c0 := (HBL.out.cell (World.block_lt_of_cell? _ _ ca')).trans ca'
      have d0 := (HBL.out.cell (World.block_lt_of_cell? _ _ cb')).trans cb'
      have k0 : (0 : Int) ≤ (k : Int) := by omega
      have k1 : (k : Int) < (ts.length : Int) := by omega
      have e1 : (t.toList == t.toList) = true := by simp
      clear ht ca' cb'
      go_upto_region 6 with fail
      go_quiet (fail)
      go_wp2_with fail
      go_roundg (ts.length - (k + 1))
      case rel => exact ⟨k + 1, by omega, rfl, by go_num, HBL.out.trans ⟨rfl, rfl, rfl, Nat.le_refl _, fun _ _ => rfl⟩⟩
      case measure => rw [HGK.out]; omega
    · have t1 : decide ((k : Int) < (ts.length : Int)) = false := decide_eq_false (by omega)
      go_wp2_with fail
      go_ret
      exact ⟨rfl, HBL.out⟩
end Go.Proofs.YtfpjleabmemieaaGreat
