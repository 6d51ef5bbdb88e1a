/- step: a name declared. -/
/- Two types that were looked up lie apart. -/
/- step: a name looked at. -/
import Derived.Test.YtfpjleabmemieaaGreatScoMe
import Derived.Test.YtfpjleabmemieaaGreatScoLd
import Derived.Test.YtfpjleabmemieaaGreatScoLe
import Derived.Test.YtfpjleabmemieaaGreatFlPT
set_option maxRecDepth 100000
namespace Go.Proofs.YtfpjleabmemieaaGreat
open Go.Instr Go.RowKit ScoT
set_option linter.unusedVariables false
set_option linter.unusedSimpArgs false
variable {w W : World} {n d c : Nat} {tag : Nat → Tag} {A : Option Addr} {cap : Nat} {bs : List Bk} {Y : Nat → Prop} {v : Value} {l : List Rn} {deep : Nat}
theorem below_drew (W : World) : Below W.heap.size W W.drew := (Below.refl _ _).drew
/-- What the step's own copy asks. -/
structure In2 (tag : Nat → Tag) (d : Nat) (v : Value) (Y : Nat → Prop) (bx b2 lo hi : Nat) (dob : Obj) (x : Ty) (W : World) : Prop where
  kx : As W tag d v Y bx
  cx : W.heap[bx]? = some dob
  k2 : As W tag d v Y b2
  c2 : W.heap[b2]? = some (.cells #[.int .u8 x.kind, .string x.name, .slice x.addr x.els.length x.cap] 26)
  lent : LentT W lo hi x
  rows : ∀ b, lo ≤ b → b < hi → As W tag d v Y b
  top : hi ≤ W.heap.size
section
variable {W' : World} {tag' : Nat → Tag} {v' : Value} {Y' : Nat → Prop} {bx b2 lo hi : Nat} {dob : Obj} {x : Ty}
theorem In2.turn (h : In2 tag d v Y bx b2 lo hi dob x W) (ht : Turns W tag W' tag') : In2 tag' d v Y bx b2 lo hi dob x W' :=
  ⟨(h.kx.turn ht).1, (h.kx.turn ht).2.trans h.cx, (h.k2.turn ht).1, (h.k2.turn ht).2.trans h.c2, h.lent.keepB fun b hb => ((h.rows b (h.lent.span b hb).1 (h.lent.span b hb).2).turn ht).2, fun b p1 p2 => ((h.rows b p1 p2).turn ht).1, Nat.le_trans h.top ht.size⟩
theorem In2.ref (h : In2 tag d v Y bx b2 lo hi dob x W) (hm : FlT.Moves (RefOf d v Y) W W') (hn : ∀ b, RefOf d v' Y' b → RefOf d v Y b ∨ W.heap.size ≤ b) : In2 tag d v' Y' bx b2 lo hi dob x W' :=
  ⟨(h.kx.ref hm hn).1, (h.kx.ref hm hn).2.trans h.cx, (h.k2.ref hm hn).1, (h.k2.ref hm hn).2.trans h.c2, h.lent.keepB fun b hb => ((h.rows b (h.lent.span b hb).1 (h.lent.span b hb).2).ref hm hn).2, fun b p1 p2 => ((h.rows b p1 p2).ref hm hn).1, Nat.le_trans h.top hm.size⟩
theorem In2.cells {op : Int} {name : ByteArray} {t : Ty} (h : In2 tag d v Y bx b2 lo hi (dCells op name t) x W) : (W.cell? ⟨bx, 1, none⟩ = some (.string name) ∧ W.cell? ⟨bx, 2, none⟩ = some (.int .u8 t.kind) ∧ W.cell? ⟨bx, 3, none⟩ = some (.string t.name) ∧ W.cell? ⟨bx, 4, none⟩ = some (.slice t.addr t.els.length t.cap)) ∧ W.cell? ⟨b2, 0, none⟩ = some (.int .u8 x.kind) ∧ W.cell? ⟨b2, 1, none⟩ = some (.string x.name) ∧ W.cell? ⟨b2, 2, none⟩ = some (.slice x.addr x.els.length x.cap) := by
  have h1 := d_cells h.cx
  have h2 := cs3_of h.c2
  exact ⟨⟨h1.2.1, h1.2.2.1, h1.2.2.2.1, h1.2.2.2.2⟩, h2.1⟩
/-- The copy is written over. -/
theorem In2.over (h : In2 tag d v Y bx b2 lo hi dob x W) (hj : JJ w n d tag A cap bs Y v l deep W) (hlo : w.heap.size ≤ lo) (hm : FlT.Moves (fun b => b ∈ rowBs (subs x)) W W') : JJ w n d tag A cap bs Y v l deep W' :=
  hj.moves hm fun b hb => ⟨(h.rows b (h.lent.span b hb).1 (h.lent.span b hb).2).2.1, (h.rows b (h.lent.span b hb).1 (h.lent.span b hb).2).2.2, Nat.le_trans hlo (h.lent.span b hb).1⟩
end
theorem In2.new (hj : JJ w n d tag A cap bs Y v l deep W) {dob : Obj} {x : Ty} {bx lo hi : Nat} (hx : As W tag d v Y bx) (hcx : W.heap[bx]? = some dob) (hl : LentT W lo hi x) (hhi : hi ≤ W.heap.size) (hr : ∀ b, lo ≤ b → b < hi → As W tag d v Y b) :
    In2 tag d v Y bx W.heap.size lo hi dob x (W.alloc (.cells #[.int .u8 x.kind, .string x.name, .slice x.addr x.els.length x.cap] 26)) := by
  have hb := below_alloc W (.cells #[.int .u8 x.kind, .string x.name, .slice x.addr x.els.length x.cap] 26)
  exact ⟨(hx.under hb).1, (hx.under hb).2.trans hcx, hj.fresh hb.size (Nat.le_refl _) (by simp), new_cs3 _ _ _ _ _, hl.under hb hhi, fun b p1 p2 => ((hr b p1 p2).under hb).1, Nat.le_trans hhi hb.size⟩
set_option maxHeartbeats 4000000 in
theorem step_decl_none (h : JJ w n d tag A cap [] Y v l 0 W) (hr : RS [] l 0 c) (hc : c ≤ 900) (op : Int) (hop : -9223372036854775808 ≤ op ∧ op ≤ 9223372036854775807) (name : ByteArray) (t : Ty) (hin : In w (fun b => b < w.heap.size) t) (hw : weight t ≤ 50) (hp : pick8 op = 3 ∨ pick8 op = 4) :
    Calls Tryz.prog 10 #[.pointer (some ⟨n, 0, none⟩), .pointer (some ⟨d, 0, none⟩), dVal op name t] W (StepPost w n d (c + 1)) := by
  have hb1 : Below W.heap.size W (W.alloc (dCells op name t)) := below_alloc _ _
  have HJ := Lib.hid (h.under hb1)
  have HX : Hid (As (W.alloc (dCells op name t)) tag d v Y W.heap.size ∧ (W.alloc (dCells op name t)).heap[W.heap.size]? = some (dCells op name t)) := Lib.hid ⟨h.fresh hb1.size (Nat.le_refl _) (by simp), World.alloc_heap_new _ _⟩
  have HR := Lib.hid hr
  have HH := Lib.hid (And.intro hop (And.intro hc (And.intro hin hw)))
  have HLO := Lib.hid h.bel.size
  clear h hr hop hc hb1 hin hw
  unfold dVal
  rcases hp with hp | hp
  all_goals
    have HP := Lib.hid hp
    clear hp
    go_enter Tryz.func10, Tryz.ntmps10
    go_wp2_with (first
      | (go_at_call 22; refine (Pick_any op _ HH.out.1).mono ?_; rintro e w1 ⟨rfl, hb⟩; rw [HP.out]
         have HX := Lib.hid (And.intro (HX.out.1.under hb).1 ((HX.out.1.under hb).2.trans HX.out.2))
         obtain ⟨f0, f1, f2, f3, f4⟩ := d_cells HX.out.2
         have HJ := Lib.hid (HJ.out.under hb); clear hb)
      | (go_at_call 24; refine (LentType_any t _ _ (HH.out.2.2.1.keep (fun _ h => h) fun p hp => HJ.out.bel.cell hp) (fun b hb => Nat.lt_of_lt_of_le hb HJ.out.bel.size) (by have := HH.out.2.2.2; omega)).mono ?_
         rintro e w2 ⟨x, rfl, hsx, hlx, hnx, hb⟩
         have HX := Lib.hid (And.intro (HX.out.1.under hb).1 ((HX.out.1.under hb).2.trans HX.out.2))
         have hfr : ∀ b, w1.heap.size ≤ b → b < w2.heap.size → As w2 tag d v Y b := fun b p1 p2 => HJ.out.fresh hb.size p1 p2
         have HS := Lib.hid (And.intro hsx hnx)
         have HSW : Hid (weight x ≤ 100000 ∧ same x t = true) := Lib.hid ⟨by rw [same_weight _ _ hsx]; have := HH.out.2.2.2; omega, same_symm _ _ hsx⟩
         have hlow : w.heap.size ≤ w1.heap.size := HJ.out.bel.size
         have HLOW := Lib.hid hlow
         have HJ := Lib.hid (HJ.out.under hb)
         have HI := Lib.hid (In2.new HJ.out HX.out.1 HX.out.2 hlx (Nat.le_refl _) hfr)
         have HJ := Lib.hid (HJ.out.under (below_alloc w2 (.cells #[.int .u8 x.kind, .string x.name, .slice x.addr x.els.length x.cap] 26)))
         obtain ⟨⟨f1, f2, f3, f4⟩, g0, g1, g2⟩ := HI.out.cells
         clear hsx hlx hnx hb hfr hlow
         unfold Ty.val Ty.row))
    have HBD := below_drew (w2.alloc (.cells #[.int .u8 x.kind, .string x.name, .slice x.addr x.els.length x.cap] 26))
    have HI := Lib.hid (HI.out.turn (Turns.of_below HBD))
    have HJ := Lib.hid (HJ.out.under HBD)
    obtain ⟨⟨f1, f2, f3, f4⟩, g0, g1, g2⟩ := HI.out.cells
    go_region_held3 (fun V => V.cell? ⟨W.heap.size, 1, none⟩ = some (.string name) ∧ V.cell? ⟨W.heap.size, 2, none⟩ = some (.int .u8 t.kind) ∧ V.cell? ⟨W.heap.size, 3, none⟩ = some (.string t.name) ∧ V.cell? ⟨W.heap.size, 4, none⟩ = some (.slice t.addr t.els.length t.cap) ∧ V.cell? ⟨w2.heap.size, 0, none⟩ = some (.int .u8 x.kind) ∧ V.cell? ⟨w2.heap.size, 1, none⟩ = some (.string x.name) ∧ V.cell? ⟨w2.heap.size, 2, none⟩ = some (.slice x.addr x.els.length x.cap))
      (exact ⟨f1, f2, f3, f4, g0, g1, g2⟩)
      (first
       | (go_at_call 20; refine (Declare_none HJ.out.sc name x).mono ?_; rintro e wa ⟨rfl, hb⟩; have HI := Lib.hid (HI.out.turn (Turns.of_below hb)); have HJ := Lib.hid (HJ.out.under hb); obtain ⟨⟨f1, f2, f3, f4⟩, g0, g1, g2⟩ := HI.out.cells; clear hb)
       | (go_at_call 25; refine (RDeclare_none HJ.out.rf name t).mono ?_; rintro e wb ⟨rfl, hb⟩; have HI := Lib.hid (HI.out.turn (Turns.of_below hb)); have HJ := Lib.hid (HJ.out.under hb); obtain ⟨⟨f1, f2, f3, f4⟩, g0, g1, g2⟩ := HI.out.cells; clear hb)
       | (go_at_call 26; refine (KeptType_any x t _ _ _ _ HI.out.lent (HH.out.2.2.1.keep (fun _ h => h) fun p hp => HJ.out.bel.cell hp) HI.out.top (fun b hb => Nat.lt_of_lt_of_le hb HJ.out.bel.size) HSW.out.1 HSW.out.2).mono ?_; rintro e wc ⟨rfl, hb⟩; have HI := Lib.hid (HI.out.turn (Turns.of_below hb)); have HJ := Lib.hid (HJ.out.under hb); obtain ⟨⟨f1, f2, f3, f4⟩, g0, g1, g2⟩ := HI.out.cells; clear hb))
    all_goals
      go_wp2_with (first
        | (go_at_call 27; refine (OverType_any x _ _ _ HI.out.lent HS.out.2 HI.out.top HSW.out.1).mono ?_; rintro e wd ⟨rfl, hm⟩; have HJ := Lib.hid (HI.out.over HJ.out HLOW.out hm); clear hm))
      go_ret
      exact ⟨rfl, _, _, _, _, _, _, _, _, HJ.out, HR.out.mono (Nat.le_succ c)⟩
set_option maxHeartbeats 4000000 in
theorem step_decl_twice {name : ByteArray} {xs : List Bk} {k : Bk} {j p : Nat} {r : Rn} (h : JJ w n d tag A cap (xs ++ [k]) Y v l deep W) (hr : RS (xs ++ [k]) l deep c) (hf : findN name k.names = some j) (hpl : placeR name l = some p) (hpr : l[p]? = some r) (hrd : r.deep = deep) (hc : c ≤ 900) (op : Int) (hop : -9223372036854775808 ≤ op ∧ op ≤ 9223372036854775807) (t : Ty) (hin : In w (fun b => b < w.heap.size) t) (hw : weight t ≤ 50) (hp : pick8 op = 3 ∨ pick8 op = 4) :
    Calls Tryz.prog 10 #[.pointer (some ⟨n, 0, none⟩), .pointer (some ⟨d, 0, none⟩), dVal op name t] W (StepPost w n d (c + 1)) := by
  have hb1 : Below W.heap.size W (W.alloc (dCells op name t)) := below_alloc _ _
  have HJ := Lib.hid (h.under hb1)
  have HX : Hid (As (W.alloc (dCells op name t)) tag d v Y W.heap.size ∧ (W.alloc (dCells op name t)).heap[W.heap.size]? = some (dCells op name t)) := Lib.hid ⟨h.fresh hb1.size (Nat.le_refl _) (by simp), World.alloc_heap_new _ _⟩
  have hll := hr.len hc
  have hdp : 0 < deep := by have := hr.eq; simp at this; omega
  have hxl : xs.length ≤ 1000000 := by have := hr.sm.1; simp at this; omega
  have HF := Lib.hid (And.intro hf (And.intro hpl (And.intro hpr hrd)))
  have HR := Lib.hid hr
  have HH := Lib.hid (And.intro hop (And.intro hc (And.intro hin hw)))
  have HLO := Lib.hid h.bel.size
  clear h hr hop hc hb1 hin hw hf hpl hpr hrd
  unfold dVal
  rcases hp with hp | hp
  all_goals
    have HP := Lib.hid hp
    clear hp
    go_enter Tryz.func10, Tryz.ntmps10
    go_wp2_with (first
      | (go_at_call 22; refine (Pick_any op _ HH.out.1).mono ?_; rintro e w1 ⟨rfl, hb⟩; rw [HP.out]
         have HX := Lib.hid (And.intro (HX.out.1.under hb).1 ((HX.out.1.under hb).2.trans HX.out.2))
         obtain ⟨f0, f1, f2, f3, f4⟩ := d_cells HX.out.2
         have HJ := Lib.hid (HJ.out.under hb); clear hb)
      | (go_at_call 24; refine (LentType_any t _ _ (HH.out.2.2.1.keep (fun _ h => h) fun p hp => HJ.out.bel.cell hp) (fun b hb => Nat.lt_of_lt_of_le hb HJ.out.bel.size) (by have := HH.out.2.2.2; omega)).mono ?_
         rintro e w2 ⟨x, rfl, hsx, hlx, hnx, hb⟩
         have HX := Lib.hid (And.intro (HX.out.1.under hb).1 ((HX.out.1.under hb).2.trans HX.out.2))
         have hfr : ∀ b, w1.heap.size ≤ b → b < w2.heap.size → As w2 tag d v Y b := fun b p1 p2 => HJ.out.fresh hb.size p1 p2
         have HS := Lib.hid (And.intro hsx hnx)
         have HSW : Hid (weight x ≤ 100000 ∧ same x t = true) := Lib.hid ⟨by rw [same_weight _ _ hsx]; have := HH.out.2.2.2; omega, same_symm _ _ hsx⟩
         have hlow : w.heap.size ≤ w1.heap.size := HJ.out.bel.size
         have HLOW := Lib.hid hlow
         have HJ := Lib.hid (HJ.out.under hb)
         have HI := Lib.hid (In2.new HJ.out HX.out.1 HX.out.2 hlx (Nat.le_refl _) hfr)
         have HJ := Lib.hid (HJ.out.under (below_alloc w2 (.cells #[.int .u8 x.kind, .string x.name, .slice x.addr x.els.length x.cap] 26)))
         obtain ⟨⟨f1, f2, f3, f4⟩, g0, g1, g2⟩ := HI.out.cells
         clear hsx hlx hnx hb hfr hlow
         unfold Ty.val Ty.row))
    have HBD := below_drew (w2.alloc (.cells #[.int .u8 x.kind, .string x.name, .slice x.addr x.els.length x.cap] 26))
    have HI := Lib.hid (HI.out.turn (Turns.of_below HBD))
    have HJ := Lib.hid (HJ.out.under HBD)
    obtain ⟨⟨f1, f2, f3, f4⟩, g0, g1, g2⟩ := HI.out.cells
    go_region_held3 (fun V => V.cell? ⟨W.heap.size, 1, none⟩ = some (.string name) ∧ V.cell? ⟨W.heap.size, 2, none⟩ = some (.int .u8 t.kind) ∧ V.cell? ⟨W.heap.size, 3, none⟩ = some (.string t.name) ∧ V.cell? ⟨W.heap.size, 4, none⟩ = some (.slice t.addr t.els.length t.cap) ∧ V.cell? ⟨w2.heap.size, 0, none⟩ = some (.int .u8 x.kind) ∧ V.cell? ⟨w2.heap.size, 1, none⟩ = some (.string x.name) ∧ V.cell? ⟨w2.heap.size, 2, none⟩ = some (.slice x.addr x.els.length x.cap))
      (exact ⟨f1, f2, f3, f4, g0, g1, g2⟩)
      (first
       | (go_at_call 20; refine (Declare_twice HJ.out.sc name x HF.out.1 hxl).mono ?_; rintro e wa ⟨rfl, hb⟩; have HI := Lib.hid (HI.out.turn (Turns.of_below hb)); have HJ := Lib.hid (HJ.out.under hb); obtain ⟨⟨f1, f2, f3, f4⟩, g0, g1, g2⟩ := HI.out.cells; clear hb)
       | (go_at_call 25; refine (RDeclare_twice HJ.out.rf hll hdp name t HF.out.2.1 HF.out.2.2.1 HF.out.2.2.2).mono ?_; rintro e wb ⟨rfl, hb⟩; have HI := Lib.hid (HI.out.turn (Turns.of_below hb)); have HJ := Lib.hid (HJ.out.under hb); obtain ⟨⟨f1, f2, f3, f4⟩, g0, g1, g2⟩ := HI.out.cells; clear hb)
       | (go_at_call 26; refine (KeptType_any x t _ _ _ _ HI.out.lent (HH.out.2.2.1.keep (fun _ h => h) fun p hp => HJ.out.bel.cell hp) HI.out.top (fun b hb => Nat.lt_of_lt_of_le hb HJ.out.bel.size) HSW.out.1 HSW.out.2).mono ?_; rintro e wc ⟨rfl, hb⟩; have HI := Lib.hid (HI.out.turn (Turns.of_below hb)); have HJ := Lib.hid (HJ.out.under hb); obtain ⟨⟨f1, f2, f3, f4⟩, g0, g1, g2⟩ := HI.out.cells; clear hb))
    all_goals
      go_wp2_with (first
        | (go_at_call 27; refine (OverType_any x _ _ _ HI.out.lent HS.out.2 HI.out.top HSW.out.1).mono ?_; rintro e wd ⟨rfl, hm⟩; have HJ := Lib.hid (HI.out.over HJ.out HLOW.out hm); clear hm))
      go_ret
      exact ⟨rfl, _, _, _, _, _, _, _, _, HJ.out, HR.out.mono (Nat.le_succ c)⟩
set_option maxHeartbeats 4000000 in
theorem step_decl_once {name : ByteArray} {xs : List Bk} {k : Bk} (h : JJ w n d tag A cap (xs ++ [k]) Y v l deep W) (hr : RS (xs ++ [k]) l deep c) (hf : findN name k.names = none) (hpl : ∀ p r, placeR name l = some p → l[p]? = some r → r.deep ≠ deep) (hns : name.size ≤ 281474976710656) (hc : c ≤ 900) (op : Int) (hop : -9223372036854775808 ≤ op ∧ op ≤ 9223372036854775807) (t : Ty) (hin : In w (fun b => b < w.heap.size) t) (hw : weight t ≤ 50) (hp : pick8 op = 3 ∨ pick8 op = 4) :
    Calls Tryz.prog 10 #[.pointer (some ⟨n, 0, none⟩), .pointer (some ⟨d, 0, none⟩), dVal op name t] W (StepPost w n d (c + 1)) := by
  have hb1 : Below W.heap.size W (W.alloc (dCells op name t)) := below_alloc _ _
  have HJ := Lib.hid (h.under hb1)
  have HX : Hid (As (W.alloc (dCells op name t)) tag d v Y W.heap.size ∧ (W.alloc (dCells op name t)).heap[W.heap.size]? = some (dCells op name t)) := Lib.hid ⟨h.fresh hb1.size (Nat.le_refl _) (by simp), World.alloc_heap_new _ _⟩
  have hll := hr.len hc
  have hde : deep = xs.length + 1 := by have := hr.eq; simpa using this
  have hdp : 0 < deep := by omega
  have hxl : xs.length ≤ 1000000 := by have := hr.sm.1; simp at this; omega
  have hkl : k.names.length ≤ 1000000 := by have := (hr.sm.2 k (by simp)).1; omega
  have HF := Lib.hid (And.intro hf (And.intro hpl (And.intro hns hde)))
  have HR := Lib.hid hr
  have HH := Lib.hid (And.intro hop (And.intro hc (And.intro hin hw)))
  have HLO := Lib.hid h.bel.size
  clear h hr hop hc hb1 hin hw hf hpl hns hde
  unfold dVal
  rcases hp with hp | hp
  all_goals
    have HP := Lib.hid hp
    clear hp
    go_enter Tryz.func10, Tryz.ntmps10
    go_wp2_with (first
      | (go_at_call 22; refine (Pick_any op _ HH.out.1).mono ?_; rintro e w1 ⟨rfl, hb⟩; rw [HP.out]
         have HX := Lib.hid (And.intro (HX.out.1.under hb).1 ((HX.out.1.under hb).2.trans HX.out.2))
         obtain ⟨f0, f1, f2, f3, f4⟩ := d_cells HX.out.2
         have HJ := Lib.hid (HJ.out.under hb); clear hb)
      | (go_at_call 24; refine (LentType_any t _ _ (HH.out.2.2.1.keep (fun _ h => h) fun p hp => HJ.out.bel.cell hp) (fun b hb => Nat.lt_of_lt_of_le hb HJ.out.bel.size) (by have := HH.out.2.2.2; omega)).mono ?_
         rintro e w2 ⟨x, rfl, hsx, hlx, hnx, hb⟩
         have HX := Lib.hid (And.intro (HX.out.1.under hb).1 ((HX.out.1.under hb).2.trans HX.out.2))
         have hfr : ∀ b, w1.heap.size ≤ b → b < w2.heap.size → As w2 tag d v Y b := fun b p1 p2 => HJ.out.fresh hb.size p1 p2
         have HS := Lib.hid (And.intro hsx hnx)
         have HSW : Hid (weight x ≤ 100000 ∧ same x t = true) := Lib.hid ⟨by rw [same_weight _ _ hsx]; have := HH.out.2.2.2; omega, same_symm _ _ hsx⟩
         have hlow : w.heap.size ≤ w1.heap.size := HJ.out.bel.size
         have HLOW := Lib.hid hlow
         have HJ := Lib.hid (HJ.out.under hb)
         have HI := Lib.hid (In2.new HJ.out HX.out.1 HX.out.2 hlx (Nat.le_refl _) hfr)
         have HJ := Lib.hid (HJ.out.under (below_alloc w2 (.cells #[.int .u8 x.kind, .string x.name, .slice x.addr x.els.length x.cap] 26)))
         obtain ⟨⟨f1, f2, f3, f4⟩, g0, g1, g2⟩ := HI.out.cells
         clear hsx hlx hnx hb hfr hlow
         unfold Ty.val Ty.row))
    have HBD := below_drew (w2.alloc (.cells #[.int .u8 x.kind, .string x.name, .slice x.addr x.els.length x.cap] 26))
    have HI := Lib.hid (HI.out.turn (Turns.of_below HBD))
    have HJ := Lib.hid (HJ.out.under HBD)
    obtain ⟨⟨f1, f2, f3, f4⟩, g0, g1, g2⟩ := HI.out.cells
    go_region_held3 (fun V => V.cell? ⟨W.heap.size, 1, none⟩ = some (.string name) ∧ V.cell? ⟨W.heap.size, 2, none⟩ = some (.int .u8 t.kind) ∧ V.cell? ⟨W.heap.size, 3, none⟩ = some (.string t.name) ∧ V.cell? ⟨W.heap.size, 4, none⟩ = some (.slice t.addr t.els.length t.cap) ∧ V.cell? ⟨w2.heap.size, 0, none⟩ = some (.int .u8 x.kind) ∧ V.cell? ⟨w2.heap.size, 1, none⟩ = some (.string x.name) ∧ V.cell? ⟨w2.heap.size, 2, none⟩ = some (.slice x.addr x.els.length x.cap))
      (exact ⟨f1, f2, f3, f4, g0, g1, g2⟩)
      (first
       | (go_at_call 20; refine (Declare_once HJ.out.sc name x HF.out.1 HF.out.2.2.1 hxl hkl _ HI.out.lent.isIn (fun b hb => ⟨(HI.out.rows b hb.1.1 hb.1.2).1, (HI.out.rows b hb.1.1 hb.1.2).2.1, hb.2⟩) (copiesK_any HSW.out.1)).mono ?_; rintro e wa ⟨rfl, tagA, tA, mA, oA, hsA, hsmA, htA⟩; have HI := Lib.hid (HI.out.turn htA); have HJ := Lib.hid (HJ.out.turn hsA htA); have HTA := Lib.hid hsmA; obtain ⟨⟨f1, f2, f3, f4⟩, g0, g1, g2⟩ := HI.out.cells; clear hsA hsmA htA)
       | (go_at_call 25; refine (RDeclare_once HJ.out.rf hll hdp name t HF.out.2.1 _ (HH.out.2.2.1.keep (fun _ h => h) fun p hp => HJ.out.bel.cell hp) (fun b hb => Nat.lt_of_lt_of_le hb HJ.out.bel.size) (by have := HH.out.2.2.2; omega)).mono ?_; rintro e wb ⟨rfl, YB, vB, tB, hrB, hsB, hmB, hnB⟩; have HI := Lib.hid (HI.out.ref hmB hnB); have HJ := Lib.hid (HJ.out.ref hrB hmB hnB); have HTB := Lib.hid hsB; obtain ⟨⟨f1, f2, f3, f4⟩, g0, g1, g2⟩ := HI.out.cells; clear hrB hsB hmB hnB)
       | (go_at_call 26; refine (KeptType_any x t _ _ _ _ HI.out.lent (HH.out.2.2.1.keep (fun _ h => h) fun p hp => HJ.out.bel.cell hp) HI.out.top (fun b hb => Nat.lt_of_lt_of_le hb HJ.out.bel.size) HSW.out.1 HSW.out.2).mono ?_; rintro e wc ⟨rfl, hb⟩; have HI := Lib.hid (HI.out.turn (Turns.of_below hb)); have HJ := Lib.hid (HJ.out.under hb); obtain ⟨⟨f1, f2, f3, f4⟩, g0, g1, g2⟩ := HI.out.cells; clear hb))
    all_goals
      go_wp2_with (first
        | (go_at_call 27; refine (OverType_any x _ _ _ HI.out.lent HS.out.2 HI.out.top HSW.out.1).mono ?_; rintro e wd ⟨rfl, hm⟩; have HJ := Lib.hid (HI.out.over HJ.out HLOW.out hm); clear hm))
      go_ret
      have hsame : same tB tA = true := same_trans _ _ _ (same_symm _ _ HTB.out) (same_trans _ _ _ HS.out.1 HTA.out)
      have hwA : weight tA ≤ 50 := by rw [same_weight _ _ HTA.out, same_weight _ _ HS.out.1]; exact HH.out.2.2.2
      exact ⟨rfl, _, _, _, _, _, _, _, _, HJ.out, by rw [HF.out.2.2.2]; exact HR.out.rel.declare hsame rfl, HR.out.sm.once hwA, by simp; exact HF.out.2.2.2⟩
end Go.Proofs.YtfpjleabmemieaaGreat
namespace ScoT
open Go Go.RowKit
set_option linter.unusedVariables false
mutual
theorem subs_len : (t : Ty) → (subs t).length = weight t
  | .mk k s A c es => by simp only [subs, weight, List.length_cons, subsL_lenw es]; omega
theorem subsL_lenw : (ts : List Ty) → (subsL ts).length = wsum ts
  | [] => rfl
  | t :: ts => by simp only [subsL, wsum, List.length_append, subs_len t, subsL_lenw ts]
end
/-- A row of one type. -/
def one (g : Nat) (t : Ty) : Ty := .mk 0 ⟨#[]⟩ (some ⟨g, 0, none⟩) 1 [t]
theorem one_in {W : World} {S : Nat → Prop} {g : Nat} {t : Ty} {T : TypeId} (hg : W.heap[g]? = some (.cells #[.int .u8 t.kind, .string t.name, .slice t.addr t.els.length t.cap] T)) (hS : S g) (ht : In W S t) : In W S (one g t) := by
  refine .mk _ ⟨by show (0 : Nat) < 256; omega, by show (0 : Nat) ≤ _; omega, by show (1 : Nat) ≤ 1; omega, by show (1 : Nat) ≤ maxLen; unfold maxLen; omega, fun h => by cases h⟩ (fun _ => ⟨g, 0, rfl, hS, fun i u hi j v hv => ?_⟩) fun i u hi => ?_
  · have hi0 : i = 0 := by have := (List.getElem?_eq_some_iff.1 hi).1; simp [one, Ty.els] at this; omega
    subst hi0
    have : u = t := by simpa [one, Ty.els] using hi.symm
    subst this
    rw [cell_of_row W g _ _ T (0, 0) hg]
    simp only [Nat.zero_mul, Nat.zero_add]
    have hj : j < 3 := (List.getElem?_eq_some_iff.1 hv).1
    match j, hj with
    | 0, _ => exact hv
    | 1, _ => exact hv
    | 2, _ => exact hv
  · have hi0 : i = 0 := by have := (List.getElem?_eq_some_iff.1 hi).1; simp [one, Ty.els] at this; omega
    subst hi0
    have : u = t := by simpa [one, Ty.els] using hi.symm
    subst this
    exact ht
end ScoT
namespace Go.Proofs.YtfpjleabmemieaaGreat
open Go.Instr Go.RowKit ScoT
set_option linter.unusedVariables false
set_option linter.unusedSimpArgs false
theorem one_own {W : World} {base g : Nat} {t : Ty} (hg : W.heap[g]? = some (.cells #[.int .u8 t.kind, .string t.name, .slice t.addr t.els.length t.cap] 26)) (hb : base ≤ g) : W.ownsRow base 26 3 (one g t).row (one g t).els.length (tcells (one g t).els) :=
  ⟨by simp [one, Ty.els, tcells, Ty.cs], .inr ⟨g, 1, _, rfl, hb, hg, Nat.le_refl _, by unfold maxLen; omega, by rfl, by simp [one, Ty.els, tcells, Ty.cs, Ty.row]⟩⟩
/-- The row of the two rows, laid in a world. -/
def laid2 (W : World) (a b : Ty) : World := ((W.alloc (.cells #[.int .u8 a.kind, .string a.name, .slice a.addr a.els.length a.cap] 26)).alloc (.cells #[.int .u8 b.kind, .string b.name, .slice b.addr b.els.length b.cap] 26)).alloc (.cells #[.slice (some ⟨W.heap.size, 0, none⟩) 1 1, .slice (some ⟨W.heap.size + 1, 0, none⟩) 1 1] 24)
theorem laid2_below (W : World) (a b : Ty) : Below W.heap.size W (laid2 W a b) := (((Below.refl _ _).alloc (Nat.le_refl _) _).alloc (by simp) _).alloc (by simp; omega) _
theorem apart_two {W : World} {lo1 lo3 : Nat} {a b : Ty} (h1 : InO 26 W lo1 a) (h3 : InO 26 W lo3 b) (hlt : ∀ k ∈ rowBs (subs a), k < lo3) (h13 : lo1 ≤ lo3) (h3W : lo3 ≤ W.heap.size) (hwa : weight a ≤ 50) (hwb : weight b ≤ 50) :
    Calls Tryz.prog 29 #[.slice (some ⟨W.heap.size + 1 + 1, 0, none⟩) 2 2] (laid2 W a b) fun e w' => e = .returned (.bool true) ∧ FlT.Moves (fun k => lo1 ≤ k) (laid2 W a b) w' := by
  have hbl := laid2_below W a b
  have z : (laid2 W a b).heap.size = W.heap.size + 3 := by simp [laid2]
  have g0 : (laid2 W a b).heap[W.heap.size]? = some (.cells #[.int .u8 a.kind, .string a.name, .slice a.addr a.els.length a.cap] 26) := by
    unfold laid2
    rw [Below.heap_alloc _ _ _ (by simp; omega), Below.heap_alloc _ _ _ (by simp)]
    exact World.alloc_heap_new _ _
  have g1 : (laid2 W a b).heap[W.heap.size + 1]? = some (.cells #[.int .u8 b.kind, .string b.name, .slice b.addr b.els.length b.cap] 26) := by
    unfold laid2
    rw [Below.heap_alloc _ _ _ (by simp)]
    have := World.alloc_heap_new (W.alloc (.cells #[.int .u8 a.kind, .string a.name, .slice a.addr a.els.length a.cap] 26)) (.cells #[.int .u8 b.kind, .string b.name, .slice b.addr b.els.length b.cap] 26)
    rw [World.size_alloc] at this
    exact this
  have g2 : (laid2 W a b).heap[W.heap.size + 1 + 1]? = some (.cells #[.slice (some ⟨W.heap.size, 0, none⟩) 1 1, .slice (some ⟨W.heap.size + 1, 0, none⟩) 1 1] 24) := by
    have := World.alloc_heap_new ((W.alloc (.cells #[.int .u8 a.kind, .string a.name, .slice a.addr a.els.length a.cap] 26)).alloc (.cells #[.int .u8 b.kind, .string b.name, .slice b.addr b.els.length b.cap] 26)) (.cells #[.slice (some ⟨W.heap.size, 0, none⟩) 1 1, .slice (some ⟨W.heap.size + 1, 0, none⟩) 1 1] 24)
    rw [World.size_alloc, World.size_alloc] at this
    exact this
  have k1 := h1.keep (Nat.le_refl _) hbl.size (fun k _ hk => hbl.block k hk)
  have k3 := h3.keep (Nat.le_refl _) hbl.size (fun k _ hk => hbl.block k hk)
  have la : ∀ k ∈ rowBs (subs a), lo1 ≤ k ∧ k < lo3 := fun k hk => by
    obtain ⟨u, hu, hub⟩ := mem_rowBs.1 hk
    exact ⟨((h1.2.own u hu).lt k hub).1, hlt k hk⟩
  have lb : ∀ k ∈ rowBs (subs b), lo3 ≤ k ∧ k < W.heap.size := fun k hk => by
    obtain ⟨u, hu, hub⟩ := mem_rowBs.1 hk
    exact (h3.2.own u hu).lt k hub
  have hsub : subsL [one W.heap.size a, one (W.heap.size + 1) b] = one W.heap.size a :: subs a ++ (one (W.heap.size + 1) b :: subs b) := by
    simp only [subsL, subs_eq (one _ _), List.append_nil]
    simp [one, Ty.els, subsL]
  have hrows : rowBs (subsL [one W.heap.size a, one (W.heap.size + 1) b]) = W.heap.size :: rowBs (subs a) ++ (W.heap.size + 1) :: rowBs (subs b) := by
    rw [hsub]
    simp [rowBs, one, Ty.row, Ty.addr, Ty.cap, Value.ownBlock]
  have hmain := ApartTypes_any lo1 (W.heap.size + 1 + 1) 2 [one W.heap.size a, one (W.heap.size + 1) b] (fun k => k < (laid2 W a b).heap.size) (laid2 W a b) (by simp)
    (by rw [hsub]; simp only [List.length_append, List.length_cons, subs_len]; omega)
    (fun k t hk => by
      rw [cell_of_row (laid2 W a b) (W.heap.size + 1 + 1) k _ 24 (0, 0) g2]
      have hk2 : k < 2 := (List.getElem?_eq_some_iff.1 hk).1
      match k, hk2 with
      | 0, _ => simp at hk; subst hk; rfl
      | 1, _ => simp at hk; subst hk; rfl)
    (fun t ht => by
      simp only [List.mem_cons, List.not_mem_nil, or_false] at ht
      rcases ht with rfl | rfl
      · exact one_in g0 (by omega) (k1.1.keep (fun k hk => hk.2.1) fun _ _ => rfl)
      · exact one_in g1 (by omega) (k3.1.keep (fun k hk => hk.2.1) fun _ _ => rfl))
    (fun k hk => hk)
    (fun u hu => by
      rw [hsub] at hu
      rcases List.mem_append.1 hu with hu | hu
      · rcases List.mem_cons.1 hu with rfl | hu
        · exact one_own g0 (by omega)
        · exact k1.2.own u hu
      · rcases List.mem_cons.1 hu with rfl | hu
        · exact one_own g1 (by omega)
        · exact own_lower (k3.2.own u hu) h13)
    (by
      rw [hrows]
      refine List.nodup_append.2 ⟨List.nodup_cons.2 ⟨fun h => by have := la _ h; omega, h1.2.nd⟩, List.nodup_cons.2 ⟨fun h => by have := lb _ h; omega, h3.2.nd⟩, fun x hx y hy hxy => ?_⟩
      subst hxy
      rcases List.mem_cons.1 hx with h | h <;> rcases List.mem_cons.1 hy with h' | h'
      · omega
      · have := lb _ h'; omega
      · have := la _ h; omega
      · have := la _ h; have := lb _ h'; omega)
    (by omega)
  refine hmain.mono ?_
  rintro e w' ⟨h1', h2'⟩
  refine ⟨h1', h2'.mono fun k hk => ?_⟩
  rw [hrows] at hk
  rcases List.mem_append.1 hk with hk | hk <;> rcases List.mem_cons.1 hk with h | h
  · omega
  · exact (la _ h).1
  · omega
  · have := lb _ h; omega
end Go.Proofs.YtfpjleabmemieaaGreat
namespace Go.Proofs.YtfpjleabmemieaaGreat
open Go.Instr Go.RowKit ScoT
set_option linter.unusedVariables false
set_option linter.unusedSimpArgs false
abbrev tC (t : Ty) : Obj := .cells #[.int .u8 t.kind, .string t.name, .slice t.addr t.els.length t.cap] 26
/-- A looked-up type and the box that holds it. -/
structure Bx (lo b : Nat) (t : Ty) (W : World) : Prop where
  ty : InO 26 W lo t
  box : W.heap[b]? = some (tC t)
theorem Bx.under {lo b : Nat} {t : Ty} {W W' : World} (h : Bx lo b t W) (hb : Below W.heap.size W W') : Bx lo b t W' :=
  ⟨h.ty.keep (Nat.le_refl _) hb.size (fun k _ hk => hb.block k hk), (hb.block b (Array.getElem?_eq_some_iff.1 h.box).1).trans h.box⟩
theorem Bx.new {lo : Nat} {t : Ty} {W : World} (h : InO 26 W lo t) : Bx lo W.heap.size t (W.alloc (tC t)) :=
  ⟨h.keep (Nat.le_refl _) (below_alloc W _).size (fun k _ hk => (below_alloc W _).block k hk), World.alloc_heap_new _ _⟩
theorem Bx.cells {lo b : Nat} {t : Ty} {W : World} (h : Bx lo b t W) : W.cell? ⟨b, 0, none⟩ = some (.int .u8 t.kind) ∧ W.cell? ⟨b, 1, none⟩ = some (.string t.name) ∧ W.cell? ⟨b, 2, none⟩ = some (.slice t.addr t.els.length t.cap) := (cs3_of h.box).1
variable {w W : World} {n d c : Nat} {tag : Nat → Tag} {A : Option Addr} {cap : Nat} {bs : List Bk} {Y : Nat → Prop} {v : Value} {l : List Rn} {deep : Nat}
set_option maxHeartbeats 4000000 in
theorem step_look (h : JJ w n d tag A cap bs Y v l deep W) (hr : RS bs l deep c) (hc : c ≤ 900) (op : Int) (hop : -9223372036854775808 ≤ op ∧ op ≤ 9223372036854775807) (name : ByteArray) (t : Ty) (hp : pick8 op = 6 ∨ pick8 op = 7) :
    Calls Tryz.prog 10 #[.pointer (some ⟨n, 0, none⟩), .pointer (some ⟨d, 0, none⟩), dVal op name t] W (StepPost w n d (c + 1)) := by
  have hb1 : Below W.heap.size W (W.alloc (dCells op name t)) := below_alloc _ _
  have hll := hr.len hc
  have hbl : bs.length ≤ 1000000 := by have := hr.sm.1; omega
  have hcop := hr.sm.cop
  have HJ := Lib.hid (h.under hb1)
  have HX : Hid ((W.alloc (dCells op name t)).heap[W.heap.size]? = some (dCells op name t)) := Lib.hid (World.alloc_heap_new _ _)
  have HR := Lib.hid hr
  have HH := Lib.hid (And.intro hop (And.intro hc hcop))
  obtain ⟨x2, hx2⟩ : ∃ x2, (lookR name l).1 = x2 := ⟨_, rfl⟩
  obtain ⟨y2, hy2⟩ : ∃ y2, (lookR name l).2 = y2 := ⟨_, rfl⟩
  have hyy : (y2 == y2) = true := by simp
  have HXY := Lib.hid (And.intro hx2 hy2)
  have m1 := trivial
  clear h hr hop hc hb1 hcop hx2 hy2
  unfold dVal
  rcases hp with hp | hp
  all_goals
    have HP := Lib.hid hp
    clear hp
    go_enter Tryz.func10, Tryz.ntmps10
    go_wp2_with (first
      | (go_at_call 22; refine (Pick_any op _ HH.out.1).mono ?_; rintro e w1 ⟨rfl, hb⟩; rw [HP.out]
         have HX := Lib.hid ((hb.block W.heap.size (by simp)).trans HX.out)
         have f1 := (d_cells HX.out).2.1
         have HJ := Lib.hid (HJ.out.under hb)
         have HFR : Hid (∀ b, w1.heap.size ≤ b → tag b = .none ∧ ¬ RefOf d v Y b ∧ w.heap.size ≤ b) := Lib.hid fun b hb' => ⟨HJ.out.sc.fresh hb', fun hr' => by (have := (HJ.out.rf.old b hr').2; omega), by (have := HJ.out.bel.size; omega)⟩
         clear hb)
      | (go_at_call 13; clear m1; refine (Look_any name HJ.out.sc hbl HH.out.2.2).mono ?_; intro e w2 hq
         obtain ⟨_, _, hb⟩ := tell_looked HJ.out.sc hq
         obtain ⟨t1, rfl, hs1, hin1, hw1⟩ := tell_weight HR.out.sm HR.out.rel HJ.out.nds hq
         have hup : ∀ k ∈ rowBs (subs t1), k < w2.heap.size := fun k hk => by
           obtain ⟨u, hu, hub⟩ := mem_rowBs.1 hk
           exact ((hin1.2.own u hu).lt k hub).2
         have HUP := Lib.hid hup
         have hb2 := below_alloc w2 (tC t1)
         have HLE := Lib.hid (And.intro hb.size hw1)
         have HX := Lib.hid ((hb2.block W.heap.size (Nat.lt_of_lt_of_le (Array.getElem?_eq_some_iff.1 HX.out).1 hb.size)).trans ((hb.block W.heap.size (Array.getElem?_eq_some_iff.1 HX.out).1).trans HX.out))
         have f2 := (d_cells HX.out).2.1
         have HA := Lib.hid (Bx.new hin1)
         have HS1 := Lib.hid hs1
         have HJ := Lib.hid ((HJ.out.under hb).under hb2)
         rw [HXY.out.2]
         clear hq hb hs1 hin1 hw1 hup hb2 f1
         unfold Ty.val Ty.row)
      | (go_at_call 13; refine (Look_any name HJ.out.sc hbl HH.out.2.2).mono ?_; intro e w3 hq
         obtain ⟨_, _, hb⟩ := tell_looked HJ.out.sc hq
         obtain ⟨t3, rfl, hs3, hin3, hw3⟩ := tell_weight HR.out.sm HR.out.rel HJ.out.nds hq
         have hb2 := below_alloc w3 (tC t3)
         have HLE3 := Lib.hid (And.intro hb.size hw3)
         have HX := Lib.hid ((hb2.block W.heap.size (Nat.lt_of_lt_of_le (Array.getElem?_eq_some_iff.1 HX.out).1 hb.size)).trans ((hb.block W.heap.size (Array.getElem?_eq_some_iff.1 HX.out).1).trans HX.out))
         have f3 := (d_cells HX.out).2.1
         have HA := Lib.hid ((HA.out.under hb).under hb2)
         have HC := Lib.hid (Bx.new hin3)
         have HJ := Lib.hid ((HJ.out.under hb).under hb2)
         rw [HXY.out.2]
         clear hq hb hs3 hin3 hw3 hb2 f2
         unfold Ty.val Ty.row)
      | (go_at_call 14; refine (RLook_any HJ.out.rf hll name).mono ?_; rintro e w4 ⟨rfl, hb⟩
         have hb2 := below_alloc w4 (tC x2)
         have HJ := Lib.hid ((HJ.out.under hb).under hb2)
         have hl4 := RF.lookIn HJ.out.rf name
         rw [HXY.out.1] at hl4
         have HA := Lib.hid ((HA.out.under hb).under hb2)
         have HC := Lib.hid ((HC.out.under hb).under hb2)
         obtain ⟨p0, p1, p2⟩ := HA.out.cells
         have HST : Hid (Calls Tryz.prog 15 #[t1.val, x2.val] (w4.alloc (tC x2)) fun e w' => e = .returned (.bool true) ∧ Below (w4.alloc (tC x2)).heap.size (w4.alloc (tC x2)) w') := Lib.hid (by
           have := SameType_any t1 x2 _ _ _ HA.out.ty.1 hl4 (fun b hb => hb.2.1) (fun b hb => (HJ.out.rf.far b hb).2.1)
           rw [show same t1 x2 = true by have := HS1.out; rw [HXY.out.1] at this; exact this] at this
           exact this)
         rw [HXY.out.1, HXY.out.2]
         have HB4 := Lib.hid hb.size
         clear hb hb2 hl4 f3
         unfold Ty.val Ty.row
         unfold Ty.val Ty.row at HST)
      | (go_at_call 15; refine HST.out.mono ?_; rintro e w5 ⟨rfl, hb⟩
         have HA := Lib.hid (HA.out.under hb)
         have HC := Lib.hid (HC.out.under hb)
         obtain ⟨q0, q1, q2⟩ := HA.out.cells
         obtain ⟨s0, s1, s2⟩ := HC.out.cells
         have HJ := Lib.hid (HJ.out.under hb)
         have hC5 := HC.out.under (below_alloc w5 (tC t1))
         have z0 : (w5.alloc (.cells #[.int .u8 t1.kind, .string t1.name, .slice t1.addr t1.els.length t1.cap] 26)).cell? ⟨w3.heap.size, 0, none⟩ = some (.int .u8 t3.kind) := hC5.cells.1
         have z1 : (w5.alloc (.cells #[.int .u8 t1.kind, .string t1.name, .slice t1.addr t1.els.length t1.cap] 26)).cell? ⟨w3.heap.size, 1, none⟩ = some (.string t3.name) := hC5.cells.2.1
         have z2 : (w5.alloc (.cells #[.int .u8 t1.kind, .string t1.name, .slice t1.addr t1.els.length t1.cap] 26)).cell? ⟨w3.heap.size, 2, none⟩ = some (.slice t3.addr t3.els.length t3.cap) := hC5.cells.2.2
         have HAP := Lib.hid (apart_two HA.out.ty HC.out.ty (fun k hk => by (have := HUP.out k hk; simp; omega)) (by (have := HLE.out.1; simp; omega)) (by (have := (Array.getElem?_eq_some_iff.1 HC.out.box).1; have := HLE3.out.1; omega)) HLE.out.2 HLE3.out.2)
         have HML : Hid (∀ w6, FlT.Moves (fun k => w1.heap.size ≤ k) (laid2 w5 t1 t3) w6 → JJ w n d tag A cap bs Y v l deep w6) := Lib.hid fun w6 hm => (HJ.out.under (laid2_below w5 t1 t3)).moves hm HFR.out
         unfold laid2 at HAP HML
         clear hb p0 p1 p2 hC5)
      | (go_at_call 29; refine HAP.out.mono ?_; rintro e w6 ⟨rfl, hm⟩; have HJ := Lib.hid (HML.out _ hm); clear hm))
    go_ret
    exact ⟨rfl, _, _, _, _, _, _, _, _, HJ.out, HR.out.mono (Nat.le_succ c)⟩
end Go.Proofs.YtfpjleabmemieaaGreat
