/- step: any step; the law's beginning. -/
/- The law ScopeLives: its walk. -/
/- What can be read as a type, as the law's steps, lies in the world. -/
import Derived.Test.YtfpjleabmemieaaGreatScoMh
import Derived.Deep.CutBlock
import Derived.Deep.DeepCutAuto
import Derived.Test.YtfpjleabmemieaaGreatProg
import Derived.ProofKit
import Derived.OpenShut
import Derived.ChangeArms
import Derived.ChangeSlices
import Derived.LaidOnce
set_option maxRecDepth 100000
namespace Go.Proofs.YtfpjleabmemieaaGreat
open Go.Instr Go.RowKit ScoT
set_option linter.unusedVariables false
set_option linter.unusedSimpArgs false
/-- Any step. -/
theorem step_any {w W : World} {n d c : Nat} (h : JR w n d c W) (hc : c ≤ 900) (op : Int) (hop : -9223372036854775808 ≤ op ∧ op ≤ 9223372036854775807) (name : ByteArray) (hns : name.size ≤ 281474976710656) (t : Ty) (hin : In w (fun b => b < w.heap.size) t) (hw : weight t ≤ 50) :
    Calls Tryz.prog 10 #[.pointer (some ⟨n, 0, none⟩), .pointer (some ⟨d, 0, none⟩), dVal op name t] W (StepPost w n d (c + 1)) := by
  obtain ⟨tag, A, cap, bs, Y, v, l, deep, hj, hr⟩ := h
  have hpr := pick8_range op
  have hcase : (pick8 op = 0 ∨ pick8 op = 1) ∨ pick8 op = 2 ∨ (pick8 op = 3 ∨ pick8 op = 4) ∨ pick8 op = 5 ∨ (pick8 op = 6 ∨ pick8 op = 7) := by omega
  rcases hcase with hp | hp | hp | hp | hp
  · exact step_open hj hr hc op hop name t hp
  · rcases List.eq_nil_or_concat bs with rfl | ⟨xs, k, hb⟩
    · have he : deep = 0 := hr.eq
      subst he
      exact step_close_none hj hr hc op hop name t hp
    · rw [List.concat_eq_append] at hb
      subst hb
      exact step_close hj hr hc op hop name t hp
  · rcases List.eq_nil_or_concat bs with rfl | ⟨xs, k, hb⟩
    · have he : deep = 0 := hr.eq
      subst he
      exact step_decl_none hj hr hc op hop name t hin hw hp
    · rw [List.concat_eq_append] at hb
      subst hb
      have hde : deep = xs.length + 1 := by have := hr.eq; simpa using this
      rcases hr.rel.twice (hj.nds k (by simp)) name with ⟨j, p, r, h1, h2, h3, h4⟩ | ⟨h1, h2⟩
      · exact step_decl_twice hj hr h1 h2 h3 (by rw [h4, hde]) hc op hop t hin hw hp
      · exact step_decl_once hj hr h1 (fun p r hp hr' => by have := h2 p r hp hr'; omega) hns hc op hop t hin hw hp
  · exact step_use hj hr hc op hop name t hp
  · exact step_look hj hr hc op hop name t hp
/-- A step of the law's list. -/
structure Dn2 where
  op : Int
  name : ByteArray
  ty : Ty
structure Do2 (B : Nat) (w : World) (b o : Nat) (d : Dn2) : Prop where
  c0 : w.cell? ⟨b, o, none⟩ = some (.int .i64 d.op)
  c1 : w.cell? ⟨b, o + 1, none⟩ = some (.string d.name)
  c2 : w.cell? ⟨b, o + 2, none⟩ = some (.int .u8 d.ty.kind)
  c3 : w.cell? ⟨b, o + 3, none⟩ = some (.string d.ty.name)
  c4 : w.cell? ⟨b, o + 4, none⟩ = some (.slice d.ty.addr d.ty.els.length d.ty.cap)
  op : -9223372036854775808 ≤ d.op ∧ d.op ≤ 9223372036854775807
  nm : d.name.size ≤ 281474976710656
  ty : In w (fun b => b < B) d.ty
def Dos2 (w : World) (L : Option Addr) (l : List Dn2) : Prop := ∀ (i : Nat) (d : Dn2), l[i]? = some d → ∃ a o, L = some ⟨a, o, none⟩ ∧ Do2 w.heap.size w a (o + i * 5) d
theorem Do2.under {B : Nat} {w w' : World} {b o : Nat} {d : Dn2} (h : Do2 B w b o d) (hb : Below w.heap.size w w') (hB : B ≤ w.heap.size) : Do2 B w' b o d := by
  have f : ∀ {p : Addr} {v : Value}, w.cell? p = some v → w'.cell? p = some v := fun {p v} hv => (hb.cell (World.block_lt_of_cell? _ _ hv)).trans hv
  exact ⟨f h.c0, f h.c1, f h.c2, f h.c3, f h.c4, h.op, h.nm, h.ty.keep (fun b hb' => hb') (fun p hp => hb.cell (Nat.lt_of_lt_of_le hp hB))⟩
/-- Two new scopes. -/
theorem new_both (w : World) : JR w w.heap.size (w.heap.size + 1) 0 ((w.alloc (.cells #[.slice none 0 0, .pointer (some ⟨w.heap.size, 0, none⟩)] 53)).alloc (.cells #[.slice none 0 0, .int .i64 0] 56)) := by
  obtain ⟨W1, hW1⟩ : ∃ W1, W1 = w.alloc (.cells #[.slice none 0 0, .pointer (some ⟨w.heap.size, 0, none⟩)] 53) := ⟨_, rfl⟩
  have hs := new_scope w
  rw [← hW1] at hs ⊢
  have hz : W1.heap.size = w.heap.size + 1 := by rw [hW1]; simp
  have hb := below_alloc W1 (.cells #[.slice none 0 0, .int .i64 0] 56)
  have hb0 : Below w.heap.size w W1 := by rw [hW1]; exact below_alloc _ _
  have hr := RefAt.new W1 56 67
  rw [hz] at hr
  refine ⟨_, _, _, [], fun _ => False, .slice none 0 0, [], 0, ⟨hs.keep hb.size (fun b hx => hb.block b (hs.lt b hx).2), ⟨hr.box, by omega, hr.own, hr.tys, hr.far⟩, fun b hb' => ?_, hb0.trans (hb.mono (by omega)), Nat.le_refl _⟩, ⟨.nil, ⟨by simp, fun k hk => by simp at hk⟩, rfl⟩⟩
  rcases hb' with rfl | h | h
  · rw [← hz]
    exact hs.fresh (Nat.le_refl _)
  · cases h
  · exact h.elim
end Go.Proofs.YtfpjleabmemieaaGreat
namespace Go.Proofs.YtfpjleabmemieaaGreat
open Go.Instr Go.RowKit ScoT
set_option linter.unusedVariables false
set_option linter.unusedSimpArgs false
set_option maxHeartbeats 4000000 in
theorem ScopeLives_any (l : List Dn2) (L : Option Addr) (lc : Nat) (w : World) (hl : l.length ≤ 10000000000000) (hL : Dos2 w L l) :
    Calls Tryz.prog 4 #[.slice L l.length lc] w fun e w' => e = .returned (.bool true) ∧ Below w.heap.size w w' := by
  have HL := Lib.hid hL
  clear hL
  go_enter Tryz.func4, Tryz.ntmps4
  go_upto_block 0 with (first
    | (go_at_call 7; refine (New_any _).mono ?_; rintro e w1 ⟨rfl, hw1⟩; have HW1 := Lib.hid hw1; clear hw1)
    | (go_at_call 8; refine (RNew_any _).mono ?_; rintro e w2 ⟨rfl, hw2⟩; have HW2 := Lib.hid hw2; clear hw2))
  obtain ⟨d, hd⟩ : ∃ d, d = w1.heap.size := ⟨_, rfl⟩
  have HX : Hid (JR w w.heap.size d 0 w2) := Lib.hid (by
    have h1 := HW1.out
    have h2 := HW2.out
    have h3 := new_both w
    rw [← h1, ← h2] at h3
    rw [hd, h1, World.size_alloc]
    exact h3)
  rw [← hd]
  clear HW1 HW2 hd
  go_cut [] (fun wx => JR w w.heap.size d 200 wx)
  case first =>
    go_wp2_with fail
    go_loopg [5] l.length (fun g i wr => ∃ k : Nat, k ≤ l.length ∧ k ≤ 200 ∧ g = l.length - k ∧ i = .int .i64 k ∧ JR w w.heap.size d k wr)
    case atStart => exact ⟨0, by omega, by omega, rfl, rfl, HX.out⟩
    case round =>
      obtain ⟨k, hk, hk2, hg, rfl, hx⟩ := hrel
      have HXK := Lib.hid hx
      have HG := Lib.hid hg
      clear hx hg HX
      by_cases hlt : k < l.length
      · have t1 : decide ((k : Int) < (l.length : Int)) = true := decide_eq_true (by omega)
        have k0 : (0 : Int) ≤ (k : Int) := by omega
        have k1 : (k : Int) < (l.length : Int) := by omega
        by_cases h200 : k < 200
        · have t2 : decide ((k : Int) < 200) = true := decide_eq_true (by omega)
          obtain ⟨dn, hdn⟩ : ∃ dn, l[k]? = some dn := ⟨_, List.getElem?_eq_getElem hlt⟩
          obtain ⟨a, o, rfl, hda⟩ := HL.out k dn hdn
          have HD := Lib.hid (hda.under HXK.out.bel (Nat.le_refl _))
          have c0 := HD.out.c0
          have c1 := HD.out.c1
          have c2 := HD.out.c2
          have c3 := HD.out.c3
          have c4 := HD.out.c4
          have HLO := Lib.hid (And.intro hda.ty (And.intro hda.op hda.nm))
          have HE : Hid (∀ W', Below w.heap.size w W' → W'.cell? ⟨a, o + k * 5 + 1, none⟩ = some (.string dn.name)) := Lib.hid fun W' hb => (hda.under hb (Nat.le_refl _)).c1
          clear hda hdn
          obtain ⟨mu, hmu⟩ : ∃ mu : Int, min (weight dn.ty : Int) (50 + 1) = mu := ⟨_, rfl⟩
          have HMU := Lib.hid hmu
          by_cases hw50 : weight dn.ty ≤ 50
          · have t3 : decide ((50 : Int) < mu) = false := decide_eq_false (by omega)
            have HW := Lib.hid hw50
            clear hmu hw50
            go_wp2_with (first
              | (go_at_call 9; refine (TypesOf_any dn.ty 50 _ _ (by omega) (by omega) HD.out.ty (fun b hb => Nat.lt_of_lt_of_le hb HXK.out.bel.size)).mono ?_; rintro e w4 ⟨rfl, hb⟩
                 rw [HMU.out]
                 have HD := Lib.hid (HD.out.under hb HXK.out.bel.size)
                 have HXK := Lib.hid (HXK.out.under hb)
                 have d0 := HD.out.c0
                 have d1 := HD.out.c1
                 have d2 := HD.out.c2
                 have d3 := HD.out.c3
                 have d4 := HD.out.c4
                 clear hb)
              | (go_at_call 10; refine (step_any HXK.out (by omega) dn.op HLO.out.2.1 dn.name HLO.out.2.2 dn.ty HLO.out.1 HW.out).mono ?_; rintro e w5 ⟨rfl, hq⟩
                 have hbel := hq.bel
                 obtain ⟨tag, A, cap, bs, Y, v, lr, deep, hj, hr⟩ := hq
                 obtain ⟨u, hu⟩ : ∃ u : Nat, bs.length = u := ⟨_, rfl⟩
                 have hde : deep = u := by rw [← hu]; exact hr.eq
                 subst hde
                 have hne : ((deep : Int) != (deep : Int)) = false := by simp
                 have HU := Lib.hid hu
                 have HJ := Lib.hid hj
                 have HR := Lib.hid hr
                 have hll := hr.len (by omega)
                 have hbl : bs.length ≤ 1000000 := by have := hr.sm.1; omega
                 have HCP := Lib.hid hr.sm.cop
                 have e1 := HE.out w5 hbel
                 clear hj hr hbel)
              | (go_at_call 11; refine (Deep_any HJ.out.sc).mono ?_; rintro e w6 ⟨rfl, rfl⟩; rw [HU.out])
              | (go_at_call 12; refine (RDeep_any HJ.out.rf).mono ?_; rintro e w7 ⟨rfl, rfl⟩)
              | (go_at_call 13; refine (Look_any dn.name HJ.out.sc hbl HCP.out).mono ?_; intro e w8 hq
                 obtain ⟨_, _, hb⟩ := tell_looked HJ.out.sc hq
                 obtain ⟨t1, rfl, hs1, hin1⟩ := tell_both HR.out.rel HJ.out.nds hq
                 have hb2 := below_alloc w8 (tC t1)
                 have HA := Lib.hid (Bx.new hin1)
                 have HJ := Lib.hid ((HJ.out.under hb).under hb2)
                 have e2 : (w8.alloc (.cells #[.int .u8 t1.kind, .string t1.name, .slice t1.addr t1.els.length t1.cap] 26)).cell? ⟨a, o + k * 5 + 1, none⟩ = some (.string dn.name) := HE.out _ HJ.out.bel
                 obtain ⟨x2, hx2⟩ : ∃ x2, (lookR dn.name lr).1 = x2 := ⟨_, rfl⟩
                 obtain ⟨y2, hy2⟩ : ∃ y2, (lookR dn.name lr).2 = y2 := ⟨_, rfl⟩
                 have hyy : (y2 != y2) = false := by simp
                 rw [hx2] at hs1
                 rw [hy2]
                 have HXY := Lib.hid (And.intro hx2 hy2)
                 have HS1 := Lib.hid hs1
                 clear hq hb hs1 hin1 hb2 e1 hx2 hy2
                 unfold Ty.val Ty.row)
              | (go_at_call 14; refine (RLook_any HJ.out.rf hll dn.name).mono ?_; rintro e w9 ⟨rfl, hb⟩
                 have hb2 := below_alloc w9 (tC x2)
                 have HJ := Lib.hid ((HJ.out.under hb).under hb2)
                 have hl4 := RF.lookIn HJ.out.rf dn.name
                 rw [HXY.out.1] at hl4
                 have HA := Lib.hid ((HA.out.under hb).under hb2)
                 obtain ⟨p0, p1, p2⟩ := HA.out.cells
                 have HST : Hid (Calls Tryz.prog 15 #[t1.val, x2.val] (w9.alloc (tC x2)) fun e w' => e = .returned (.bool true) ∧ Below (w9.alloc (tC x2)).heap.size (w9.alloc (tC x2)) w') := Lib.hid (by
                   have := SameType_any t1 x2 _ _ _ HA.out.ty.1 hl4 (fun b hb => hb.2.1) (fun b hb => (HJ.out.rf.far b hb).2.1)
                   rw [HS1.out] at this
                   exact this)
                 rw [HXY.out.1, HXY.out.2]
                 clear hb hb2 hl4 e2
                 unfold Ty.val Ty.row
                 unfold Ty.val Ty.row at HST)
              | (go_at_call 15; refine HST.out.mono ?_; rintro e w10 ⟨rfl, hb⟩; have HJ := Lib.hid (HJ.out.under hb); clear hb))
            go_roundg (l.length - (k + 1))
            case rel => exact ⟨k + 1, by omega, by omega, rfl, by go_num, _, _, _, _, _, _, _, _, HJ.out, HR.out⟩
            case measure => rw [HG.out]; omega
          · have t3 : decide ((50 : Int) < mu) = true := decide_eq_true (by omega)
            clear hmu hw50
            go_wp2_with (first
              | (go_at_call 9; refine (TypesOf_any dn.ty 50 _ _ (by omega) (by omega) HD.out.ty (fun b hb => Nat.lt_of_lt_of_le hb HXK.out.bel.size)).mono ?_; rintro e w4 ⟨rfl, hb⟩
                 rw [HMU.out]
                 have HXK := Lib.hid (HXK.out.under hb)
                 clear hb)
              | (go_at_call 6; refine (awake_any _).mono ?_; rintro e w5 ⟨rfl, hb⟩; have HXK := Lib.hid (HXK.out.under hb); clear hb))
            go_ret
            exact ⟨rfl, HXK.out.bel⟩
        · have t2 : decide ((k : Int) < 200) = false := decide_eq_false (by omega)
          go_wp2_with fail
          go_meet
          exact HXK.out.mono (by omega)
      · have t1 : decide ((k : Int) < (l.length : Int)) = false := decide_eq_false (by omega)
        go_wp2_with fail
        go_meet
        exact HXK.out.mono (by omega)
  case rest =>
    clear HX HL
    obtain ⟨tag0, A0, cap0, bs0, Y0, v0, lr0, deep0, hj0, hr0⟩ := hcut
    have H0 := Lib.hid (And.intro hj0 hr0)
    clear hj0 hr0
    go_wp2_with fail
    go_loopg [] bs0.length (fun gg wr => ∃ (tag : Nat → Tag) (A : Option Addr) (cap : Nat) (bs : List Bk) (Y : Nat → Prop) (v : Value) (lr : List Rn) (deep : Nat), JJ w w.heap.size d tag A cap bs Y v lr deep wr ∧ RS bs lr deep 200 ∧ gg = bs.length)
    case atStart => exact ⟨_, _, _, _, _, _, _, _, H0.out.1, H0.out.2, rfl⟩
    case round =>
      clear H0
      obtain ⟨tag, A, cap, bs, Y, v, lr, deep, hj, hr, hg⟩ := hrel
      have HG := Lib.hid hg
      have hll := hr.len (by omega)
      have HJ := Lib.hid hj
      clear hj hg
      rcases List.eq_nil_or_concat bs with rfl | ⟨xs, k, hb⟩
      · have he : deep = 0 := hr.eq
        subst he
        have t1 : decide ((0 : Int) < ((0 : Nat) : Int)) = false := by decide
        clear hr
        go_wp2_with (first
          | (go_at_call 11; refine (Deep_any HJ.out.sc).mono ?_; rintro e w6 ⟨rfl, rfl⟩)
          | (go_at_call 12; refine (RDeep_any HJ.out.rf).mono ?_; rintro e w7 ⟨rfl, rfl⟩)
          | (go_at_call 6; refine (awake_any _).mono ?_; rintro e w8 ⟨rfl, hb⟩; have HJ := Lib.hid (HJ.out.under hb); clear hb))
        go_ret
        exact ⟨rfl, HJ.out.bel⟩
      · rw [List.concat_eq_append] at hb
        subst hb
        have hde : deep = xs.length + 1 := by have := hr.eq; simpa using this
        obtain ⟨q, hq⟩ : ∃ q : Nat, (xs ++ [k]).length = q := ⟨_, rfl⟩
        have hq0 : q = xs.length + 1 := by rw [← hq]; simp
        have t1 : (0 < q) = True := eq_true (by omega)
        have hdl : deep ≤ 1000000 := by have := hr.sm.1; have := hr.eq; omega
        have hxl : xs.length ≤ 1000000 := by omega
        have hkl : k.names.length ≤ 1000000 := by have := (hr.sm.2 k (by simp)).1; omega
        have hcl := hr.rel.close
        have ho : outs (xs.length + 1) lr = left k.names := hcl.2
        have HR := Lib.hid (And.intro hr (And.intro hcl.1 ho))
        have HDE := Lib.hid hde
        have HQ := Lib.hid (And.intro hq hq0)
        have hlo : (left k.names).length < 1000000 := by have := left_len k.names; have := (hr.sm.2 k (by simp)).1; omega
        have hne : ((xs.length : Int) != (xs.length : Int)) = false := by simp
        have m1 := trivial
        clear hr hcl ho hq hq0
        go_wp2_with (first
          | (go_at_call 11; clear m1; refine (Deep_any HJ.out.sc).mono ?_; rintro e w6 ⟨rfl, rfl⟩; rw [HQ.out.1])
          | (go_at_call 16; refine (Close_any HJ.out.sc hxl hkl).mono ?_; rintro e w2 ⟨v2, A2, c2, rfl, ho2, hs2, ht2⟩; have HDL : Hid (d < w6.heap.size) := Lib.hid HJ.out.rf.lt; have HO2 := Lib.hid ho2; have HJ := Lib.hid (HJ.out.turn hs2 ht2); clear ho2 hs2 ht2)
          | (go_at_call 17; refine (RClose_any HDE.out HJ.out.rf hll hdl).mono ?_
             rintro e w3 ⟨vL, vO, rfl, h3, ho3, m3, hf3⟩
             rw [HR.out.2.2] at ho3
             have hm3 : FlT.Moves (RefOf d v Y) w2 w3 := m3.mono fun b hb => .inl hb
             have ho2 := row_keep HO2.out fun b hb => m3.block b (HO2.out.lt b hb).2 (fun e => by have := (HO2.out.lt b hb).1; have := HDL.out; omega)
             have HJ := Lib.hid (HJ.out.ref h3 hm3 fun b hb => by
               rcases hb with hb | hb | hb
               · exact .inl (.inl hb)
               · exact .inr (hf3 b hb)
               · exact .inl (.inr (.inr hb)))
             obtain ⟨a1, k1, hv1, q1⟩ := texts_of_own ho2
             obtain ⟨a2, k2, hv2, q2⟩ := texts_of_own ho3
             subst hv1 hv2
             have HST := Lib.hid (SameTexts_any (left k.names) a1 a2 k1 k2 w3 hlo q1 q2)
             clear h3 ho3 m3 hf3 hm3 ho2 q1 q2)
          | (go_at_call 18; refine HST.out.mono ?_; rintro e w4 ⟨rfl, hb⟩; have HJ := Lib.hid (HJ.out.under hb); clear hb)
          | (go_at_call 11; refine (Deep_any HJ.out.sc).mono ?_; rintro e w5 ⟨rfl, rfl⟩)
          | (go_at_call 12; refine (RDeep_any HJ.out.rf).mono ?_; rintro e w7 ⟨rfl, rfl⟩))
        go_roundg xs.length
        case rel => exact ⟨_, _, _, _, _, _, _, _, HJ.out, ⟨HR.out.2.1, HR.out.1.sm.left, rfl⟩, rfl⟩
        case measure => rw [HG.out]; simp
end Go.Proofs.YtfpjleabmemieaaGreat
namespace Go.Proofs.YtfpjleabmemieaaGreat
open Go.Instr Go.RowKit ScoT
set_option linter.unusedVariables false
set_option linter.unusedSimpArgs false
theorem Tryz.cellsKind : Tryz.prog.cellsOf 23 = 1 := by kernel_rfl
theorem Tryz.cellsStr : Tryz.prog.cellsOf 9 = 1 := by kernel_rfl
theorem Tryz.cellsInt : Tryz.prog.cellsOf 3 = 1 := by kernel_rfl
theorem Tryz.cellsTypes : Tryz.prog.cellsOf 24 = 1 := by kernel_rfl
theorem Tryz.cellsType : Tryz.prog.cellsOf 26 = 3 := by kernel_rfl
theorem Tryz.cellsDo : Tryz.prog.cellsOf 28 = 5 := by kernel_rfl
theorem wf_int {n : Int} (h : (Lit.int .i64 n).wf = true) : -9223372036854775808 ≤ n ∧ n ≤ 9223372036854775807 := by
  simp [Lit.wf, IntKind.min, IntKind.max, IntKind.signed, IntKind.bits] at h; omega
theorem wf_kind {n : Int} (h : (Lit.int .u8 n).wf = true) : 0 ≤ n ∧ n < 256 := by
  simp [Lit.wf, IntKind.min, IntKind.max, IntKind.signed, IntKind.bits] at h; omega
theorem take_one {cs : List Value} {k : Nat} {v : Value} (h : (cs.drop k).take 1 = [v]) : cs[k]? = some v := by
  have := congrArg (fun l => l[0]?) h
  simpa using this
theorem weights_mem {H : Type} {e : TypeId} {l : List (DataW H)} {d : DataW H} (h : d ∈ l) {n : Nat} (hn : n ∈ d.weights Tryz.prog e) : n ∈ DataW.weightsAll Tryz.prog e l := by
  induction l with
  | nil => cases h
  | cons a l ih =>
    simp only [DataW.weightsAll, List.mem_append]
    rcases List.mem_cons.1 h with rfl | h
    · exact .inl hn
    · exact .inr (ih h)
theorem weights_struct {H : Type} {P : Program} {t : TypeId} {fs : Array Field} (ht : P.underlying t = some (.struct fs)) (parts : List (DataW H)) : (DataW.agg parts).weights P t = DataW.weightsEach P (fs.toList.map (·.type)) parts := by
  simp only [DataW.weights, ht]
theorem weights_slice {H : Type} {P : Program} {t e : TypeId} (ht : P.underlying t = some (.slice e)) (a b : List (DataW H)) : (DataW.slice a b).weights P t = (a.length + b.length) * P.bytesOf e :: (DataW.weightsAll P e a ++ DataW.weightsAll P e b) := by
  simp only [DataW.weights, ht]
/-- All that is weighed is small. -/
def SmallW {H : Type} (t : TypeId) (d : DataW H) : Prop := ∀ n ∈ d.weights Tryz.prog t, n ≤ reachBytes
theorem type_of_trod {H : Type} {enc : TypeId × Value → H} {w : World} {base : Nat} {spare : Nat → Bool} {held : Bool} : ∀ (fuel : Nat) (cs : List Value) (x : DataW H × List MemPlace),
    DataW.trod enc Tryz.prog w base spare held fuel 26 cs = some x → SmallW 26 x.1 → ∃ t : Ty, cs = t.cs ∧ In w (fun b => b < w.heap.size) t := by
  intro fuel
  induction fuel using Nat.strongRecOn with
  | _ fuel ih =>
    intro cs x h hsm
    obtain ⟨xs, n, rfl, hx, hl, hxl, hf⟩ := DataW.trod_struct Tryz.underlying26 h
    rw [Tryz.cellsType] at hl
    have f0 := hf 0 _ rfl
    have f1 := hf 1 _ rfl
    have f2 := hf 2 _ rfl
    match xs, hxl with
    | [y0, y1, y2], _ =>
    obtain ⟨k, k0, e0, wk⟩ := DataW.trod_int Tryz.underlying23 f0
    obtain ⟨s, k1, e1, ws⟩ := DataW.trod_string Tryz.underlying9 f1
    have c0 : cs[0]? = some (.int .u8 k) := take_one (by rw [← Tryz.cellsKind]; exact k0)
    have c1 : cs[1]? = some (.string s) := take_one (by rw [← Tryz.cellsStr]; exact k1)
    have hk := wf_kind wk
    have hW : DataW.weights Tryz.prog 26 x.1 = DataW.weights Tryz.prog 23 y0.1 ++ (DataW.weights Tryz.prog 9 y1.1 ++ (DataW.weights Tryz.prog 24 y2.1 ++ [])) := by
      rw [hx]
      simp only [List.map_cons, List.map_nil]
      rw [weights_struct Tryz.underlying26]
      simp only [List.map_cons, List.map_nil, DataW.weightsEach]
    unfold SmallW at hsm
    rw [hW] at hsm
    have hss : s.size ≤ reachBytes := hsm _ (by rw [e1]; simp [DataW.weights])
    have hs48 : s.size ≤ 281474976710656 := by unfold reachBytes at hss; omega
    have build : ∀ v, cs[2]? = some v → cs = [.int .u8 k, .string s, v] := by
      intro v c4
      match cs, hl with
      | [a0, a1, a2], _ =>
        simp only [List.getElem?_cons_zero, List.getElem?_cons_succ, Option.some.injEq] at c0 c1 c4
        rw [c0, c1, c4]
    have hkk : ((k.toNat : Nat) : Int) = k := by omega
    rcases DataW.trod_slice Tryz.underlying24 f2 with ⟨k4, _⟩ | ⟨a, len, cap, elems, rest, n', hn, k4, hy2, hab, hlc, hcm, hel, hat, _, _⟩
    · have c4 : cs[2]? = some (.slice none 0 0) := take_one (by rw [← Tryz.cellsTypes]; exact k4)
      refine ⟨.mk k.toNat s none 0 [], ?_, .mk _ ⟨by show k.toNat < 256; omega, hs48, Nat.le_refl _, Nat.zero_le _, fun _ => ⟨rfl, rfl⟩⟩ (fun h => by simp [Ty.els] at h) (fun i u h => by simp [Ty.els] at h)⟩
      rw [build _ c4]
      show _ = [Value.int .u8 (k.toNat : Nat), _, _]
      rw [hkk]
      rfl
    · have c4 : cs[2]? = some (.slice (some a) len cap) := take_one (by rw [← Tryz.cellsTypes]; exact k4)
      rw [Tryz.cellsType] at hat
      have hsme : ∀ (i : Nat) (hi : i < elems.length), SmallW 26 (elems[i]).1 := fun i hi m hm => by
        refine hsm m ?_
        rw [hy2]
        refine List.mem_append_right _ (List.mem_append_right _ (List.mem_append_left _ ?_))
        rw [weights_slice Tryz.underlying24]
        refine List.mem_cons_of_mem _ (List.mem_append_left _ ?_)
        exact weights_mem (List.mem_map.2 ⟨_, List.getElem_mem hi, rfl⟩) hm
      have each : ∀ i, i < len → ∃ (u : Ty), In w (fun b => b < w.heap.size) u ∧ ∀ (j : Nat) (v : Value), u.cs[j]? = some v → w.cell? ((a.add (i * 3)).add j) = some v := by
        intro i hi
        have h1 := hat i hi
        rw [List.getElem?_eq_getElem (by omega)] at h1
        obtain ⟨vs, hvs, htv⟩ := Option.bind_eq_some_iff.1 h1
        obtain ⟨u, rfl, hin⟩ := ih n' (by omega) vs _ htv (hsme i (by omega))
        obtain ⟨_, _, hcell⟩ := World.cells?_some hvs
        refine ⟨u, hin, fun j v hv => ?_⟩
        have hj : j < 3 := by have := (List.getElem?_eq_some_iff.1 hv).1; simpa [Ty.cs] using this
        rw [hcell j hj]
        exact hv
      obtain ⟨ks, hks, hall⟩ : ∃ ks : List Ty, ks.length = len ∧ ∀ (i : Nat) (u : Ty), ks[i]? = some u → In w (fun b => b < w.heap.size) u ∧ ∀ (j : Nat) (v : Value), u.cs[j]? = some v → w.cell? ((a.add (i * 3)).add j) = some v := by
        refine ⟨(List.range len).map fun i => if h : i < len then (each i h).choose else zeroTy, by simp, fun i u hu => ?_⟩
        rw [List.getElem?_map] at hu
        obtain ⟨i', hi', rfl⟩ := Option.map_eq_some_iff.1 hu
        have hlt : i < len := by have := (List.getElem?_eq_some_iff.1 hi').1; simpa using this
        have : i' = i := by
          rw [List.getElem?_range hlt] at hi'
          exact (Option.some.inj hi').symm
        subst this
        rw [dif_pos hlt]
        exact (each i' hlt).choose_spec
      refine ⟨.mk k.toNat s (some a) cap ks, ?_, .mk _ ⟨by show k.toNat < 256; omega, hs48, by show ks.length ≤ cap; omega, hcm, fun h => by cases h⟩ ?_ (fun i u hi => (hall i u hi).1)⟩
      · rw [build _ c4]
        show _ = [Value.int .u8 (k.toNat : Nat), _, .slice (some a) ks.length cap]
        rw [hkk, hks]
        rfl
      · intro h0
        have h0' : 0 < ks.length := h0
        obtain ⟨u0, hu0⟩ : ∃ u, ks[0]? = some u := ⟨_, List.getElem?_eq_getElem h0'⟩
        have hc0 := (hall 0 u0 hu0).2 0 _ rfl
        have hspot := World.cell?_spot hc0
        obtain ⟨b, o, sp⟩ := a
        have hsp : sp = none := by
          cases sp with
          | none => rfl
          | some z => simp [Addr.add] at hspot
        subst hsp
        refine ⟨b, o, rfl, ?_, fun i u hi j v hv => ?_⟩
        · have := World.block_lt_of_cell? _ _ hc0
          simpa [Addr.add] using this
        · have := (hall i u hi).2 j v hv
          rw [Addr.add_mid, Addr.add_mid] at this
          exact this
theorem Tryz.bytesDo : Tryz.prog.bytesOf 28 = 72 := by kernel_rfl
theorem do_of_trod {H : Type} {enc : TypeId × Value → H} {w : World} {base : Nat} {spare : Nat → Bool} {held : Bool} {fuel : Nat} {cs : List Value} {x : DataW H × List MemPlace}
    (h : DataW.trod enc Tryz.prog w base spare held fuel 28 cs = some x) (hsm : SmallW 28 x.1) : ∃ d : Dn2, cs = [.int .i64 d.op, .string d.name, .int .u8 d.ty.kind, .string d.ty.name, .slice d.ty.addr d.ty.els.length d.ty.cap] ∧ (-9223372036854775808 ≤ d.op ∧ d.op ≤ 9223372036854775807) ∧ d.name.size ≤ 281474976710656 ∧ In w (fun b => b < w.heap.size) d.ty := by
  obtain ⟨xs, n, rfl, hx, hl, hxl, hf⟩ := DataW.trod_struct Tryz.underlying28 h
  rw [Tryz.cellsDo] at hl
  have f0 := hf 0 _ rfl
  have f1 := hf 1 _ rfl
  have f2 := hf 2 _ rfl
  match xs, hxl with
  | [y0, y1, y2], _ =>
  obtain ⟨k, k0, e0, wk⟩ := DataW.trod_int Tryz.underlying3 f0
  obtain ⟨s, k1, e1, ws⟩ := DataW.trod_string Tryz.underlying9 f1
  have c0 : cs[0]? = some (.int .i64 k) := take_one (by rw [← Tryz.cellsInt]; exact k0)
  have c1 : cs[1]? = some (.string s) := take_one (by rw [← Tryz.cellsStr]; exact k1)
  have hW : DataW.weights Tryz.prog 28 x.1 = DataW.weights Tryz.prog 3 y0.1 ++ (DataW.weights Tryz.prog 9 y1.1 ++ (DataW.weights Tryz.prog 26 y2.1 ++ [])) := by
    rw [hx]
    simp only [List.map_cons, List.map_nil]
    rw [weights_struct Tryz.underlying28]
    simp only [List.map_cons, List.map_nil, DataW.weightsEach]
  unfold SmallW at hsm
  rw [hW] at hsm
  have hss : s.size ≤ reachBytes := hsm _ (by rw [e1]; simp [DataW.weights])
  have hs48 : s.size ≤ 281474976710656 := by unfold reachBytes at hss; omega
  have f2' : DataW.trod enc Tryz.prog w base spare held n 26 ((cs.drop 2).take (Tryz.prog.cellsOf 26)) = some y2 := f2
  obtain ⟨t, ht, hin⟩ := type_of_trod n _ _ f2' fun m hm => hsm m (List.mem_append_right _ (List.mem_append_right _ (List.mem_append_left _ hm)))
  rw [Tryz.cellsType] at ht
  refine ⟨⟨k, s, t⟩, ?_, wf_int wk, hs48, hin⟩
  match cs, hl with
  | [a0, a1, a2, a3, a4], _ =>
    simp only [List.getElem?_cons_zero, List.getElem?_cons_succ, Option.some.injEq] at c0 c1
    have ht' : [a2, a3, a4] = t.cs := ht
    unfold Ty.cs Ty.row at ht'
    simp only [List.cons.injEq, and_true] at ht'
    obtain ⟨h2, h3, h4⟩ := ht'
    rw [c0, c1, h2, h3, h4]
def default_dn : Dn2 := ⟨0, ⟨#[]⟩, zeroTy⟩
theorem dos_of_trod {H : Type} {enc : TypeId × Value → H} {w : World} {spare : Nat → Bool} {held : Bool} {fuel : Nat} {A : Option Addr} {len cap : Nat} {x : DataW H × List MemPlace}
    (h : DataW.trod enc Tryz.prog w 0 spare held fuel 30 [.slice A len cap] = some x) (hsm : SmallW 30 x.1) : ∃ l : List Dn2, l.length = len ∧ len ≤ 10000000000000 ∧ Dos2 w A l := by
  rcases DataW.trod_slice Tryz.underlying30 h with ⟨k4, _⟩ | ⟨a, ln, cp, elems, rest, n', hn, k4, hy2, hab, hlc, hcm, hel, hat, _, _⟩
  · simp only [List.cons.injEq, Value.slice.injEq, and_true] at k4
    obtain ⟨_, rfl, _⟩ := k4
    exact ⟨[], rfl, by omega, fun i d hi => by simp at hi⟩
  · simp only [List.cons.injEq, Value.slice.injEq, and_true] at k4
    obtain ⟨rfl, rfl, rfl⟩ := k4
    rw [Tryz.cellsDo] at hat
    have hsw : ∀ m ∈ (elems.length + rest.length) * 72 :: (DataW.weightsAll Tryz.prog 28 (elems.map (·.1)) ++ DataW.weightsAll Tryz.prog 28 (rest.map (·.1))), m ≤ reachBytes := fun m hm => by
      refine hsm m ?_
      rw [hy2, weights_slice Tryz.underlying30, Tryz.bytesDo, List.length_map, List.length_map]
      exact hm
    have hlen : (elems.length + rest.length) * 72 ≤ reachBytes := hsw _ List.mem_cons_self
    have hlen' : len ≤ 10000000000000 := by unfold reachBytes at hlen; omega
    have hsme : ∀ (i : Nat) (hi : i < elems.length), SmallW 28 (elems[i]).1 := fun i hi m hm =>
      hsw m (List.mem_cons_of_mem _ (List.mem_append_left _ (weights_mem (List.mem_map.2 ⟨_, List.getElem_mem hi, rfl⟩) hm)))
    have each : ∀ i, i < len → ∃ (d : Dn2), ((-9223372036854775808 ≤ d.op ∧ d.op ≤ 9223372036854775807) ∧ d.name.size ≤ 281474976710656 ∧ In w (fun b => b < w.heap.size) d.ty) ∧ ∀ (j : Nat) (v : Value), [Value.int .i64 d.op, .string d.name, .int .u8 d.ty.kind, .string d.ty.name, .slice d.ty.addr d.ty.els.length d.ty.cap][j]? = some v → w.cell? ((a.add (i * 5)).add j) = some v := by
      intro i hi
      have h1 := hat i hi
      rw [List.getElem?_eq_getElem (by omega)] at h1
      obtain ⟨vs, hvs, htv⟩ := Option.bind_eq_some_iff.1 h1
      obtain ⟨d, rfl, hd⟩ := do_of_trod htv (hsme i (by omega))
      obtain ⟨_, _, hcell⟩ := World.cells?_some hvs
      refine ⟨d, hd, fun j v hv => ?_⟩
      have hj : j < 5 := by have := (List.getElem?_eq_some_iff.1 hv).1; simpa using this
      rw [hcell j hj]
      exact hv
    obtain ⟨ks, hks, hall⟩ : ∃ ks : List Dn2, ks.length = len ∧ ∀ (i : Nat) (d : Dn2), ks[i]? = some d → ((-9223372036854775808 ≤ d.op ∧ d.op ≤ 9223372036854775807) ∧ d.name.size ≤ 281474976710656 ∧ In w (fun b => b < w.heap.size) d.ty) ∧ ∀ (j : Nat) (v : Value), [Value.int .i64 d.op, .string d.name, .int .u8 d.ty.kind, .string d.ty.name, .slice d.ty.addr d.ty.els.length d.ty.cap][j]? = some v → w.cell? ((a.add (i * 5)).add j) = some v := by
      refine ⟨(List.range len).map fun i => if h : i < len then (each i h).choose else default_dn, by simp, fun i u hu => ?_⟩
      rw [List.getElem?_map] at hu
      obtain ⟨i', hi', rfl⟩ := Option.map_eq_some_iff.1 hu
      have hlt : i < len := by have := (List.getElem?_eq_some_iff.1 hi').1; simpa using this
      have : i' = i := by
        rw [List.getElem?_range hlt] at hi'
        exact (Option.some.inj hi').symm
      subst this
      rw [dif_pos hlt]
      exact (each i' hlt).choose_spec
    refine ⟨ks, hks, hlen', fun i d hi => ?_⟩
    obtain ⟨⟨h1, h2, h3⟩, h4⟩ := hall i d hi
    obtain ⟨b, o, sp⟩ := a
    have hsp : sp = none := by
      obtain ⟨d0, hd0⟩ : ∃ d0, ks[0]? = some d0 := ⟨_, List.getElem?_eq_getElem (by have := (List.getElem?_eq_some_iff.1 hi).1; omega)⟩
      have hspot := World.cell?_spot ((hall 0 d0 hd0).2 0 _ rfl)
      cases sp with
      | none => rfl
      | some z => simp [Addr.add] at hspot
    subst hsp
    have hc : ∀ (j : Nat) (v : Value), [Value.int .i64 d.op, .string d.name, .int .u8 d.ty.kind, .string d.ty.name, .slice d.ty.addr d.ty.els.length d.ty.cap][j]? = some v → w.cell? ⟨b, o + i * 5 + j, none⟩ = some v := fun j v hv => by
      have := h4 j v hv
      rw [Addr.add_mid, Addr.add_mid] at this
      exact this
    exact ⟨b, o, rfl, hc 0 _ rfl, hc 1 _ rfl, hc 2 _ rfl, hc 3 _ rfl, hc 4 _ rfl, h1, h2, h3⟩
end Go.Proofs.YtfpjleabmemieaaGreat
