import Derived.Test.YtbiohbklefjfiaaDoorNodF
import Derived.Test.YtbiohbklefjfiaaDoorNodQ
set_option maxRecDepth 100000
namespace Go.Proofs.YtbiohbklefjfiaaDoor
open Go.Instr Go.RowKit NodT
set_option linter.unusedVariables false
def KeptOf (x : Nd) : Prop := ∀ (y : Nd) (w : World) (lo hi B : Nat), Lent w lo hi x → In w B y → hi ≤ w.heap.size → B ≤ w.heap.size → many x ≤ 1000000 → like x y = true →
  Calls Tryd.prog 12 #[x.val, y.val] w fun e w' => e = .returned (.bool true) ∧ Below w.heap.size w w'
theorem In.mark (w : World) (B k i : Nat) (hk : k ≤ 1000000) (hi : i ≤ 1000000) : In w B (markNd k i) :=
  .mk _ ⟨by simp [markNd, Nd.kind], by show (0:Nat) ≤ _; omega, by simp [markNd, Nd.num], by simp only [markNd, Nd.place]; omega, by simp [markNd, Nd.kids], by simp [markNd, Nd.cap, maxLen], fun _ => ⟨rfl, rfl⟩⟩ (fun h => by simp [markNd, Nd.kids] at h) (fun i u h => by simp [markNd, Nd.kids] at h)

set_option maxHeartbeats 1000000 in
theorem KeptNodes_of (xs ys : List Nd) (ih : ∀ x ∈ xs, KeptOf x) (g : Nat) (C : Option Addr) (cc : Nat) (w : World) (lo hi B : Nat) (hhi : hi ≤ w.heap.size) (hr : Lies w hi (some ⟨g, 0, none⟩) (xs ++ marks 1 12)) (hx : ∀ x ∈ xs, Lent w lo hi x) (h2 : InL w B C cc ys) (hB : B ≤ w.heap.size) (hl : xs.length ≤ 1000000) (hm : ∀ x ∈ xs, many x ≤ 1000000) (hlk : likeL xs ys = true) :
    Calls Tryd.prog 30 #[.slice (some ⟨g, 0, none⟩) xs.length (xs.length + 12), .slice C ys.length cc] w fun e w' => e = .returned (.bool true) ∧ Below w.heap.size w w' := by
  have hlen := ((likeL_iff _ _).1 hlk).1
  have hne : ((xs.length : Int) != ys.length) = false := by simp [hlen]
  have l3 := h2.len
  have l4 := h2.cap
  unfold maxLen at l4
  have hyl : ys.length ≤ 1000000 := by omega
  have hle : ys.length + 12 ≤ xs.length + 12 := by omega
  have HL := Lib.hid hlen
  have HK := Lib.hid hlk
  clear hlen hlk
  go_enter Tryd.func30, Tryd.ntmps30
  go_wp2_with fail
  have hi1 := hi
  go_loopg [6] (ys.length + 12) (fun g i wr => ∃ k : Nat, k ≤ ys.length + 12 ∧ g = ys.length + 12 - k ∧ i = .int .i64 k ∧ Below w.heap.size w wr)
  case atStart => exact ⟨0, by omega, rfl, rfl, Below.refl _ _⟩
  case round =>
    obtain ⟨k, hk, hgk, rfl, hb⟩ := hrel
    have HGK := Lib.hid hgk
    have hsz : w.heap.size ≤ wr.heap.size := hb.size
    clear hgk
    by_cases hlt : k < ys.length + 12
    · have hr' := hr.keep (w' := wr) fun p hp => hb.cell (by omega)
      obtain ⟨g', o', hA, hgb, hcell⟩ := hr' (by simp [marks])
      obtain ⟨rfl, rfl⟩ : g = g' ∧ 0 = o' := by simpa using hA
      by_cases hky : k < ys.length
      · obtain ⟨x, hxk⟩ : ∃ x, xs[k]? = some x := ⟨_, List.getElem?_eq_getElem (by have := HL.out; omega)⟩
        obtain ⟨y, hyk⟩ : ∃ y, ys[k]? = some y := ⟨_, List.getElem?_eq_getElem hky⟩
        have hca := hcell k x (by rw [List.getElem?_append_left (by have := HL.out; omega)]; exact hxk)
        have e0 := hca 0 _ rfl
        have e1 := hca 1 _ rfl
        have e2 := hca 2 _ rfl
        have e3 := hca 3 _ rfl
        have e4 : wr.cell? ⟨g, 0 + k * 5 + 4, none⟩ = some (.slice x.addr x.kids.length x.cap) := hca 4 _ rfl
        simp only [Nat.zero_add, Nat.add_zero] at e0 e1 e2 e3 e4
        have i2 := h2.under (hb.mono hB)
        obtain ⟨cb, co, hc, hcb, d0, d1, d2, d3, d4⟩ := i2.at_ hyk
        subst hc
        have hlx := (hx x (List.mem_of_getElem? hxk)).under hb (by omega)
        have hiy := i2.kid hyk
        have hlk := ((likeL_iff _ _).1 HK.out).2 k x y hxk hyk
        have HI := Lib.hid (fun W h1 h2 h3 h4 => ih x (List.mem_of_getElem? hxk) y W lo hi B h1 h2 h3 h4 (hm x (List.mem_of_getElem? hxk)) hlk)
        have HLX := Lib.hid hlx
        have HIY := Lib.hid hiy
        clear hm
        clear hca hxk hyk i2 h2 hx ih hcell hr hr' hlx hiy hlk hA
        have hg1 : decide (k < ys.length) = true := by simp; omega
        have hg2 : (ys.length ≤ k) = False := eq_false (by omega)
        go_wp2_with fail
        have HH := Lib.hid (And.intro hhi (And.intro hsz hB))
        go_wp2_with fail
        have x0 := wr.ext_cell e0
        have x1 := wr.ext_cell e1
        have x2 := wr.ext_cell e2
        have x3 := wr.ext_cell e3
        have x4 := wr.ext_cell e4
        have y0 := wr.ext_cell d0
        have y1 := wr.ext_cell d1
        have y2 := wr.ext_cell d2
        have y3 := wr.ext_cell d3
        have y4 := wr.ext_cell d4
        have hc : ∀ z, Calls Tryd.prog 12 #[x.val, y.val] (wr.ext z) fun e w'' => e = .returned (.bool true) ∧ ∃ z', w'' = wr.ext z' := fun z =>
          Calls.ext_of (HI.out _ (HLX.out.under (wr.ext_below z) (by omega)) (HIY.out.under ((wr.ext_below z).mono (by omega))) (by have := wr.ext_size z; omega) (by have := wr.ext_size z; omega))
        have HC := Lib.hid hc
        clear hc
        refine wp_region_ext_lit (by kernel_rfl) (by kernel_rfl) ?_
        repeat (go_big_quiet_step (exact HC.out _))
        refine wpQuiet_nil ?_
        rintro _ ⟨z, rfl⟩
        have hbz := below_step hb (wr.ext_below z) hb.size
        generalize wr.ext z = w1 at hbz ⊢
        go_wp2_with fail
        go_roundg (ys.length + 12 - (k + 1))
        case rel => exact ⟨k + 1, by omega, rfl, by go_num, hbz⟩
        case measure => rw [HGK.out]; omega
      · have hkm : k - ys.length < 12 := by omega
        have hcast : (k : Int) - ys.length = ((k - ys.length : Nat) : Int) := by omega
        have hca := hcell k (markNd 1 (k - ys.length)) (by rw [List.getElem?_append_right (by have := HL.out; omega), HL.out]; simp [marks, hkm])
        have e0 := hca 0 _ rfl
        have e1 := hca 1 _ rfl
        have e2 := hca 2 _ rfl
        have e3 := hca 3 _ rfl
        have e4 := hca 4 _ rfl
        simp only [Nat.zero_add, Nat.add_zero] at e0 e1 e2 e3 e4
        clear hm
        clear hca hx ih hcell hr hr' hA h2
        generalize k - ys.length = q at *
        have HCAST := Lib.hid hcast
        have hg1 : (k < ys.length) = False := eq_false hky
        have hg2 : (ys.length ≤ k) = True := eq_true (by omega)
        clear hcast hky
        go_wp2_with fail
        have x0 := wr.ext_cell e0
        have x1 := wr.ext_cell e1
        have x2 := wr.ext_cell e2
        have x3 := wr.ext_cell e3
        have x4 := wr.ext_cell e4
        have hm : ∀ z, Calls Tryd.prog 53 #[.int .i64 1, .int .i64 ((k : Int) - ys.length)] (wr.ext z) fun e w'' => e = .returned (markNd 1 q).val ∧ ∃ z', w'' = wr.ext z' := fun z => by
          rw [HCAST.out]
          exact Calls.ext_of (markNode_one q _ (by omega))
        have hc : ∀ z, Calls Tryd.prog 21 #[(markNd 1 q).val, (markNd 1 q).val] (wr.ext z) fun e w'' => e = .returned (.bool true) ∧ ∃ z', w'' = wr.ext z' := fun z => by
          have := SameNode_any (markNd 1 q) (markNd 1 q) (wr.ext z) 0 (In.mark _ _ _ _ (by omega) (by omega)) (In.mark _ _ _ _ (by omega) (by omega)) (by omega)
          rw [like_refl] at this
          exact Calls.ext_of this
        have HM := Lib.hid hm
        have HC := Lib.hid hc
        clear hm hc
        refine wp_region_ext_lit (by kernel_rfl) (by kernel_rfl) ?_
        repeat (go_big_quiet_step (first | exact HM.out _ | exact HC.out _))
        refine wpQuiet_nil ?_
        rintro _ ⟨z, rfl⟩
        have hbz := below_step hb (wr.ext_below z) hb.size
        generalize wr.ext z = w1 at hbz ⊢
        go_wp2_with fail
        go_roundg (ys.length + 12 - (k + 1))
        case rel => exact ⟨k + 1, by omega, rfl, by go_num, hbz⟩
        case measure => rw [HGK.out]; omega
    · go_wp2_with fail
      go_ret
      exact ⟨rfl, hb⟩

theorem KeptNode_any : ∀ x, KeptOf x := by
  refine Nd.rose fun x ih => ?_
  intro y w lo hi B h1 h2 hhi hB hm hlk
  have hme := many_eq x
  have hll := length_le_manyL x.kids
  have hlkl : likeL x.kids y.kids = true := by rw [like_eq] at hlk; simp only [Bool.and_eq_true] at hlk; exact hlk.2
  have HSN := Lib.hid (fun W B a b c => SameNode_any x y W B a b c)
  rw [hlk] at HSN
  have h1' := h1
  cases h1' with
  | mk _ hf g hA hcap hg hr hk =>
  rw [hA] at hr
  have hxs : ∀ u ∈ x.kids, Lent w lo hi u := fun u hu => by obtain ⟨i, hi⟩ := List.getElem?_of_mem hu; exact hk i u hi
  have HKN := Lib.hid (fun (W : World) (hb : Below w.heap.size w W) => KeptNodes_of x.kids y.kids ih g y.addr y.cap W lo hi B (by have := hb.size; omega) (hr.keep fun p hp => hb.cell (by omega)) (fun u hu => (hxs u hu).under hb hhi) (h2.list.under (hb.mono hB)) (by have := hb.size; omega) (by omega) (fun u hu => by have := manyL_mem hu; omega) hlkl)
  have HX := Lib.hid h1.isIn
  have HY := Lib.hid h2
  clear h1 h2 hr hk hf hxs hlkl hlk ih hme hll
  unfold Nd.val Nd.row
  unfold Nd.val Nd.row at HSN
  rw [hA, hcap] at HSN ⊢
  clear hA hcap
  go_enter Tryd.func12, Tryd.ntmps12
  go_wp2_with fail
  refine (HSN.out _ w.heap.size ?_ ?_ ?_).mono ?_
  · exact ((HX.out.more hhi).alloc (Nat.le_refl _) _).alloc (by simp) _
  · exact ((HY.out.more hB).alloc (Nat.le_refl _) _).alloc (by simp) _
  · simp; omega
  rintro e w1 ⟨rfl, hb1⟩
  obtain ⟨⟨c0, c1, c2, c3, c4, _, _, _, _, _⟩, ⟨d0, d1, d2, d3, d4, _, _, _, _, _⟩, hb2, hz⟩ := two_boxes hb1
  clear hb1
  go_wp2_with fail
  refine (HKN.out _ hb2).mono ?_
  rintro e w2 ⟨rfl, hb3⟩
  have hb4 := below_step hb2 hb3 hb2.size
  clear hb2 hb3
  go_wp2_with fail
  go_ret
  exact ⟨rfl, hb4⟩
end Go.Proofs.YtbiohbklefjfiaaDoor
