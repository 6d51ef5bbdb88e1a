/- KeptTypes, KeptType: a copy stands as it was made. -/
import Derived.Test.YtfpjleabmemieaaGreatScoLc
set_option maxRecDepth 100000
namespace Go.Proofs.YtfpjleabmemieaaGreat
open Go.Instr Go.RowKit ScoT
set_option linter.unusedVariables false
def KeptOf (x : Ty) : Prop := ∀ (y : Ty) (w : World) (lo hi : Nat) (S : Nat → Prop), LentT w lo hi x → In w S y → hi ≤ w.heap.size → (∀ b, S b → b < w.heap.size) → weight x ≤ 100000 → same x y = true →
  Calls Tryz.prog 26 #[x.val, y.val] w fun e w' => e = .returned (.bool true) ∧ Below w.heap.size w w'
set_option maxHeartbeats 1000000 in
theorem KeptTypes_of (xs ys : List Ty) (ih : ∀ x ∈ xs, KeptOf x) (g : Nat) (C : Option Addr) (cc : Nat) (w : World) (lo hi : Nat) (S : Nat → Prop) (hhi : hi ≤ w.heap.size) (hg : g < w.heap.size) (hr : ∀ (i : Nat) (t : Ty), (xs ++ marksTy 1 12)[i]? = some t → CsAt w (g, i * 3) t.cs) (hx : ∀ x ∈ xs, LentT w lo hi x) (h2 : InL w S C cc ys) (hB : ∀ b, S b → b < w.heap.size) (hl : xs.length ≤ 100000) (hm : ∀ x ∈ xs, weight x ≤ 100000) (hlk : sameL xs ys = true) :
    Calls Tryz.prog 44 #[.slice (some ⟨g, 0, none⟩) xs.length (xs.length + 12), .slice C ys.length cc] w fun e w' => e = .returned (.bool true) ∧ Below w.heap.size w w' := by
  have hlen := ((sameL_iff _ _).1 hlk).1
  have hne : ((xs.length : Int) != ys.length) = false := by simp [hlen]
  have l3 := h2.len
  have l4 := h2.cap
  unfold maxLen at l4
  have hyl : ys.length ≤ 100000 := by omega
  have hle : ys.length + 12 ≤ xs.length + 12 := by omega
  have HL := Lib.hid hlen
  have HK := Lib.hid hlk
  have HH := Lib.hid (And.intro hr (And.intro hx (And.intro h2 (And.intro hB (And.intro hm (And.intro ih (And.intro hhi hg)))))))
  clear hlen hlk hr hx h2 hB hm ih hhi hg
  go_enter Tryz.func44, Tryz.ntmps44
  go_wp2_with fail
  go_loopg [6] (ys.length + 12) (fun g i wr => ∃ k : Nat, k ≤ ys.length + 12 ∧ g = ys.length + 12 - k ∧ i = .int .i64 k ∧ Below w.heap.size w wr)
  case atStart => exact ⟨0, by omega, rfl, rfl, Below.refl _ _⟩
  case round =>
    obtain ⟨k, hk, hgk, rfl, hb⟩ := hrel
    have HGK := Lib.hid hgk
    have hsz : w.heap.size ≤ wr.heap.size := hb.size
    clear hgk
    by_cases hlt : k < ys.length + 12
    · obtain ⟨hr, hx, h2, hB, hm, ih, hhi, hg⟩ := HH.out
      by_cases hky : k < ys.length
      · obtain ⟨x, hxk⟩ : ∃ x, xs[k]? = some x := ⟨_, List.getElem?_eq_getElem (by have := HL.out; omega)⟩
        obtain ⟨y, hyk⟩ : ∃ y, ys[k]? = some y := ⟨_, List.getElem?_eq_getElem hky⟩
        have hca := hr k x (by rw [List.getElem?_append_left (by have := HL.out; omega)]; exact hxk)
        have e0 : wr.cell? ⟨g, k * 3, none⟩ = some (.int .u8 x.kind) := (hb.cell (p := ⟨g, k * 3, none⟩) hg).trans (hca 0 _ rfl)
        have e1 : wr.cell? ⟨g, k * 3 + 1, none⟩ = some (.string x.name) := (hb.cell (p := ⟨g, k * 3 + 1, none⟩) hg).trans (hca 1 _ rfl)
        have e2 : wr.cell? ⟨g, k * 3 + 2, none⟩ = some (.slice x.addr x.els.length x.cap) := (hb.cell (p := ⟨g, k * 3 + 2, none⟩) hg).trans (hca 2 _ rfl)
        have i2 := h2.under hb hB
        obtain ⟨cb, co, hc, hcb, d0, d1, d2⟩ := i2.at_ hyk
        subst hc
        have hlx := (hx x (List.mem_of_getElem? hxk)).under hb hhi
        have hiy := i2.kid k y hyk
        have hlk := ((sameL_iff _ _).1 HK.out).2 k x y hxk hyk
        have HI := Lib.hid (fun W h1 h2 h3 h4 => ih x (List.mem_of_getElem? hxk) y W lo hi S h1 h2 h3 h4 (hm x (List.mem_of_getElem? hxk)) hlk)
        have HLX := Lib.hid hlx
        have HIY := Lib.hid hiy
        have HZ := Lib.hid (And.intro hhi (And.intro hsz hB))
        clear hm hca hxk hyk i2 h2 hx ih hr hlx hiy hlk hcb hhi hB hg
        have hg1 : decide (k < ys.length) = true := by simp; omega
        have hg2 : (ys.length ≤ k) = False := eq_false (by omega)
        go_wp2_with fail
        have x0 := wr.ext_cell e0
        have x1 := wr.ext_cell e1
        have x2 := wr.ext_cell e2
        have y0 := wr.ext_cell d0
        have y1 := wr.ext_cell d1
        have y2 := wr.ext_cell d2
        have hc : ∀ z, Calls Tryz.prog 26 #[x.val, y.val] (wr.ext z) fun e w'' => e = .returned (.bool true) ∧ ∃ z', w'' = wr.ext z' := fun z =>
          Calls.ext_of (HI.out _ (HLX.out.under (wr.ext_below z) (by have := HZ.out.1; have := HZ.out.2.1; omega)) (HIY.out.under (wr.ext_below z) (fun b hb => by have := HZ.out.2.2 b hb; have := HZ.out.2.1; omega)) (by have := wr.ext_size z; have := HZ.out.1; have := HZ.out.2.1; omega) (fun b hb => by have := HZ.out.2.2 b hb; have := HZ.out.2.1; have := wr.ext_size z; omega))
        have HC := Lib.hid hc
        clear hc
        refine wp_region_ext_lit (by kernel_rfl) (by kernel_rfl) ?_
        repeat (go_big_quiet_step (exact HC.out _))
        refine wpQuiet_nil ?_
        rintro _ ⟨z, rfl⟩
        have hbz := below_step hb (wr.ext_below z) hb.size
        generalize wr.ext z = w1 at hbz ⊢
        go_wp2_with fail
        go_roundg (ys.length + 12 - (k + 1))
        case rel => exact ⟨k + 1, by omega, rfl, by go_num, hbz⟩
        case measure => rw [HGK.out]; omega
      · have hkm : k - ys.length < 12 := by omega
        have hcast : (k : Int) - ys.length = ((k - ys.length : Nat) : Int) := by omega
        have hca := hr k (markTy 1 (k - ys.length)) (by rw [List.getElem?_append_right (by have := HL.out; omega), HL.out]; exact marksTy_at 1 12 _ hkm)
        obtain ⟨q, hq⟩ : ∃ q, q = markT 1 (k - ys.length) := ⟨_, rfl⟩
        have e0 : wr.cell? ⟨g, k * 3, none⟩ = some (.int .u8 0) := (hb.cell (p := ⟨g, k * 3, none⟩) hg).trans (hca 0 _ rfl)
        have e1 : wr.cell? ⟨g, k * 3 + 1, none⟩ = some (.string q) := (hb.cell (p := ⟨g, k * 3 + 1, none⟩) hg).trans ((hca 1 _ rfl).trans (by rw [hq]; rfl))
        have e2 : wr.cell? ⟨g, k * 3 + 2, none⟩ = some (.slice none 0 0) := (hb.cell (p := ⟨g, k * 3 + 2, none⟩) hg).trans (hca 2 _ rfl)
        have HMK : Hid (∀ W, Calls Tryz.prog 51 #[.int .i64 1, .int .i64 ((k : Int) - ys.length)] W fun e w' => e = .returned (.agg #[.int .u8 0, .string q, .slice none 0 0]) ∧ Below W.heap.size W w') := Lib.hid fun W => by
          rw [hcast, hq]
          exact markType_one 1 _ W (by omega) (by omega)
        clear hm hca hx ih hr h2 hB hhi hg hq hcast
        have hg1 : (k < ys.length) = False := eq_false hky
        have hg2 : (ys.length ≤ k) = True := eq_true (by omega)
        clear hky hkm
        go_wp2_with fail
        have x0 := wr.ext_cell e0
        have x1 := wr.ext_cell e1
        have x2 := wr.ext_cell e2
        have HM : Hid (∀ z, Calls Tryz.prog 51 #[.int .i64 1, .int .i64 ((k : Int) - ys.length)] (wr.ext z) fun e w'' => e = .returned (.agg #[.int .u8 0, .string q, .slice none 0 0]) ∧ ∃ z', w'' = wr.ext z') := Lib.hid fun z => Calls.ext_of (HMK.out _)
        have HC : Hid (∀ z, Calls Tryz.prog 15 #[.agg #[.int .u8 0, .string q, .slice none 0 0], .agg #[.int .u8 0, .string q, .slice none 0 0]] (wr.ext z) fun e w'' => e = .returned (.bool true) ∧ ∃ z', w'' = wr.ext z') := Lib.hid fun z => Calls.ext_of (sameType_leaf q _)
        refine wp_region_ext_lit (by kernel_rfl) (by kernel_rfl) ?_
        repeat (go_big_quiet_step (first | exact HM.out _ | exact HC.out _))
        refine wpQuiet_nil ?_
        rintro _ ⟨z, rfl⟩
        have hbz := below_step hb (wr.ext_below z) hb.size
        generalize wr.ext z = w1 at hbz ⊢
        go_wp2_with fail
        go_roundg (ys.length + 12 - (k + 1))
        case rel => exact ⟨k + 1, by omega, rfl, by go_num, hbz⟩
        case measure => rw [HGK.out]; omega
    · go_wp2_with fail
      go_ret
      exact ⟨rfl, hb⟩
theorem KeptType_any : ∀ x, KeptOf x := by
  refine Ty.rose fun x ih => ?_
  intro y w lo hi S h1 h2 hhi hB hm hlk
  have hme := weight_eq x
  have hll := len_wsum x.els
  have hlkl : sameL x.els y.els = true := by rw [same_eq] at hlk; simp only [Bool.and_eq_true] at hlk; exact hlk.2
  have HSN := Lib.hid (fun W (a : In W (fun b => Span lo hi b ∧ Plain w b) x) b c d => SameType_any x y W _ S a b c d)
  rw [hlk] at HSN
  have h1' := h1
  cases h1' with
  | mk _ hf g hA hcap hg hp hr hk =>
  have hxs : ∀ u ∈ x.els, LentT w lo hi u := fun u hu => by obtain ⟨i, hi⟩ := List.getElem?_of_mem hu; exact hk i u hi
  have hgw : g < w.heap.size := by have := hg.2; omega
  have HKN := Lib.hid (fun (W : World) (hb : Below w.heap.size w W) => KeptTypes_of x.els y.els ih g y.addr y.cap W lo hi S (by have := hb.size; omega) (by have := hb.size; omega) (fun i t hi => (hr i t hi).keep fun j _ => hb.cell (p := ⟨g, i * 3 + j, none⟩) hgw) (fun u hu => (hxs u hu).under hb hhi) (h2.list.under hb hB) (fun b h => by have := hB b h; have := hb.size; omega) (by omega) (fun u hu => by have := wsum_mem hu; omega) hlkl)
  have HX := Lib.hid h1.isIn
  have HY := Lib.hid h2
  have HZ := Lib.hid (And.intro hhi hB)
  clear h1 h2 hr hk hf hxs hlkl hlk ih hme hll hp hg hgw hB hhi hm
  unfold Ty.val Ty.row
  unfold Ty.val Ty.row at HSN
  rw [hA, hcap] at HSN ⊢
  clear hA hcap
  go_enter Tryz.func26, Tryz.ntmps26
  go_wp2_with fail
  refine (HSN.out _ ?_ ?_ ?_ ?_).mono ?_
  · exact (HX.out.under ((Below.refl _ _).alloc (Nat.le_refl _) _) (fun b hb => by have := hb.1.2; have := HZ.out.1; omega)).under ((Below.refl _ _).alloc (Nat.le_refl _) _) (fun b hb => by have := hb.1.2; have := HZ.out.1; simp; omega)
  · exact (HY.out.under ((Below.refl _ _).alloc (Nat.le_refl _) _) HZ.out.2).under ((Below.refl _ _).alloc (Nat.le_refl _) _) (fun b hb => by have := HZ.out.2 b hb; simp; omega)
  · intro b hb; have := hb.1.2; have := HZ.out.1; simp; omega
  · intro b hb; have := HZ.out.2 b hb; simp; omega
  rintro e w1 ⟨rfl, hb1⟩
  have hs2 : ∀ o1 o2 : Obj, ((w.alloc o1).alloc o2).heap.size = w.heap.size + 2 := fun o1 o2 => by simp
  rw [hs2] at hb1
  have hb2 : Below w.heap.size w w1 := (((Below.refl _ _).alloc (Nat.le_refl _) _).alloc (by simp) _).trans (hb1.mono (by omega))
  have q0 : w1.heap[w.heap.size]? = _ := (hb1.block w.heap.size (by omega)).trans ((Below.heap_alloc _ _ _ (by simp)).trans (World.alloc_heap_new w _))
  have q1 : w1.heap[w.heap.size + 1]? = some (.cells #[.int .u8 y.kind, .string y.name, .slice y.addr y.els.length y.cap] 26) := by
    rw [hb1.block _ (by omega)]
    have := World.alloc_heap_new (w.alloc (.cells #[.int .u8 x.kind, .string x.name, .slice (some ⟨g, 0, none⟩) x.els.length (x.els.length + 12)] 26)) (.cells #[.int .u8 y.kind, .string y.name, .slice y.addr y.els.length y.cap] 26)
    rw [World.size_alloc] at this
    exact this
  obtain ⟨⟨c0, c1, c2⟩, cf⟩ := cs3_of q0
  obtain ⟨⟨d0, d1, d2⟩, df⟩ := cs3_of q1
  clear hb1 q0 q1 hs2
  go_wp2_with fail
  refine (HKN.out _ hb2).mono ?_
  rintro e w2 ⟨rfl, hb3⟩
  have hb4 := below_step hb2 hb3 hb2.size
  clear hb2 hb3
  go_wp2_with fail
  go_ret
  exact ⟨rfl, hb4⟩
end Go.Proofs.YtfpjleabmemieaaGreat
