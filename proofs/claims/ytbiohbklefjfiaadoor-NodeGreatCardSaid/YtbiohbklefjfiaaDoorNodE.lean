import Derived.Test.YtbiohbklefjfiaaDoorNodD
set_option maxRecDepth 100000
namespace Go.Proofs.YtbiohbklefjfiaaDoor
open Go.Instr Go.RowKit NodT
set_option linter.unusedVariables false
theorem Tryd.infoNode : (Tryd.prog.info? 25).map (fun i => (i.zero, i.size, i.bytes)) = some (some (.agg #[.int .u8 0, .string ⟨#[]⟩, .int .i64 0, .int .i64 0, .slice none 0 0]), 5, 64) := by kernel_rfl

def LentPost (t : Nd) (w : World) (e : Ending) (w' : World) : Prop := ∃ x : Nd, e = .returned x.val ∧ like t x = true ∧ Lent w' w.heap.size w'.heap.size x ∧ Below w.heap.size w w'
def LentOf (t : Nd) : Prop := ∀ (w : World) (B : Nat), In w B t → B ≤ w.heap.size → many t ≤ 1000000 → Calls Tryd.prog 9 #[t.val] w (LentPost t w)
def LentLPost (ts : List Nd) (w : World) (e : Ending) (w' : World) : Prop := ∃ (g : Nat) (xs : List Nd), e = .returned (.slice (some ⟨g, 0, none⟩) ts.length (ts.length + 12)) ∧ likeL ts xs = true ∧ w.heap.size ≤ g ∧ g < w'.heap.size ∧
  Lies w' w'.heap.size (some ⟨g, 0, none⟩) (xs ++ marks 1 12) ∧ (∀ x ∈ xs, Lent w' w.heap.size w'.heap.size x) ∧ Below w.heap.size w w'
/-- After k rounds. -/
structure L1 (ts xs : List Nd) (w : World) (k : Nat) (wr : World) : Prop where
  len : xs.length = k
  likes : ∀ (i : Nat) (t x : Nd), ts[i]? = some t → xs[i]? = some x → like t x = true
  own : wr.ownsRow w.heap.size 25 5 (.slice (some ⟨w.heap.size, 0, none⟩) k (ts.length + 12)) k (cells xs)
  size : w.heap.size < wr.heap.size
  each : ∀ x ∈ xs, Lent wr (w.heap.size + 1) wr.heap.size x
  below : Below w.heap.size w wr
/-- All kids copied, k marks behind. -/
structure L2 (ts xs : List Nd) (w : World) (k : Nat) (wr : World) : Prop where
  likes : likeL ts xs = true
  own : wr.ownsRow w.heap.size 25 5 (.slice (some ⟨w.heap.size, 0, none⟩) (ts.length + k) (ts.length + 12)) (ts.length + k) (cells (xs ++ marks 1 k))
  size : w.heap.size < wr.heap.size
  each : ∀ x ∈ xs, Lent wr (w.heap.size + 1) wr.heap.size x
  below : Below w.heap.size w wr

theorem L1.step {ts xs : List Nd} {w wr w1 w2 w3 : World} {k : Nat} {t x : Nd} (h : L1 ts xs w k wr) (ht : ts[k]? = some t) (hl : like t x = true) (hx : Lent w1 wr.heap.size w1.heap.size x) (hb1 : Below wr.heap.size wr w1)
    (hb2 : Below w1.heap.size w1 w2) (hown : w3.ownsRow w.heap.size 25 5 (.slice (some ⟨w.heap.size, 0, none⟩) (k + 1) (ts.length + 12)) (k + 1) (cells xs ++ x.cs)) (hg : w2.grownBy w3 (some w.heap.size)) : L1 ts (xs ++ [x]) w (k + 1) w3 := by
  have s0 := h.size
  have s1 := hb1.size
  have s2 := hb2.size
  have s3 := hg.size
  have h1 := h.len
  have keep : ∀ {lo hi : Nat} {y : Nd}, Lent w2 lo hi y → w.heap.size < lo → hi ≤ w2.heap.size → Lent w3 lo hi y := fun h hlo hhi => h.keep fun p p1 p2 =>
    World.cell?_of_block (hg.block p.block (by omega) (fun e => by injection e; omega))
  refine ⟨by simp [h1], fun i t' x' hi hx' => ?_, ?_, by omega, fun y hy => ?_, ?_⟩
  · rcases Nat.lt_or_ge i k with hlt | hge
    · rw [List.getElem?_append_left (by omega)] at hx'
      exact h.likes i t' x' hi hx'
    · have hik : i = k := by
        have := (List.getElem?_eq_some_iff.1 hx').1
        simp at this
        omega
      subst hik
      rw [List.getElem?_append_right (by omega), h1] at hx'
      simp at hx'
      subst hx'
      obtain rfl := Option.some.inj (ht.symm.trans hi)
      exact hl
  · rw [cells_append, cells_one]
    exact hown
  · rcases List.mem_append.1 hy with hy | hy
    · have := h.each y hy
      exact (keep ((this.under hb1 (Nat.le_refl _)).under hb2 (by omega)) (by omega) (by omega)).more (Nat.le_refl _) (by omega)
    · obtain rfl := List.mem_singleton.1 hy
      exact (keep (hx.under hb2 (Nat.le_refl _)) (by omega) (by omega)).more (by omega) (by omega)
  · exact ((h.below.trans (hb1.mono (by omega))).trans (hb2.mono (by omega))).trans (below_of_grown hg (by omega) (fun g e => by injection e; omega))
theorem L2.step {ts xs : List Nd} {w wr w2 w3 : World} {k : Nat} (h : L2 ts xs w k wr) (hb2 : Below wr.heap.size wr w2)
    (hown : w3.ownsRow w.heap.size 25 5 (.slice (some ⟨w.heap.size, 0, none⟩) (ts.length + k + 1) (ts.length + 12)) (ts.length + k + 1) (cells (xs ++ marks 1 k) ++ (markNd 1 k).cs)) (hg : w2.grownBy w3 (some w.heap.size)) : L2 ts xs w (k + 1) w3 := by
  have s0 := h.size
  have s2 := hb2.size
  have s3 := hg.size
  have keep : ∀ {lo hi : Nat} {y : Nd}, Lent w2 lo hi y → w.heap.size < lo → hi ≤ w2.heap.size → Lent w3 lo hi y := fun h hlo hhi => h.keep fun p p1 p2 =>
    World.cell?_of_block (hg.block p.block (by omega) (fun e => by injection e; omega))
  have hmk : marks 1 (k + 1) = marks 1 k ++ [markNd 1 k] := by simp [marks, List.range_succ]
  refine ⟨h.likes, ?_, by omega, fun y hy => ?_, ?_⟩
  · rw [hmk, ← List.append_assoc, cells_append, cells_one]
    exact hown
  · exact (keep ((h.each y hy).under hb2 (by omega)) (by omega) (by omega)).more (Nat.le_refl _) (by omega)
  · exact (h.below.trans (hb2.mono (by omega))).trans (below_of_grown hg (by omega) (fun g e => by injection e; omega))
theorem L1.full {ts xs : List Nd} {w wr : World} (h : L1 ts xs w ts.length wr) : L2 ts xs w 0 wr :=
  ⟨(likeL_iff _ _).2 ⟨h.len.symm, h.likes⟩, by simpa [marks] using h.own, h.size, h.each, h.below⟩
theorem own_step {wr w1 : World} {xs : List Nd} {base g n c : Nat} (h : wr.ownsRow base 25 5 (.slice (some ⟨g, 0, none⟩) n c) n (cells xs)) (hb : Below wr.heap.size wr w1) : w1.ownsRow base 25 5 (.slice (some ⟨g, 0, none⟩) n c) n (cells xs) :=
  h.kept (grown_of_below hb none) (.inr (by simp [Value.ownBlock]))

theorem markNode_one (i : Nat) (w : World) (hi : i ≤ 1000000) : Calls Tryd.prog 53 #[.int .i64 1, .int .i64 i] w fun e w' => e = .returned (markNd 1 i).val ∧ Below w.heap.size w w' := markNode_any 1 i w (by omega) hi
theorem cells_new (w : World) (l : List Value) (T : TypeId) (g : Nat) (hg : g = w.heap.size) : ∀ j u, l[j]? = some u → (w.alloc (.cells l.toArray T)).cell? ((⟨g, 0, none⟩ : Addr).add j) = some u := by
  intro j u hu
  subst hg
  have hadd : (⟨w.heap.size, 0, none⟩ : Addr).add j = ⟨w.heap.size, j, none⟩ := by unfold Addr.add; split <;> simp_all
  rw [hadd, World.cell?_alloc_new]
  simpa using hu

set_option maxHeartbeats 1000000 in
theorem LentNodes_of (ts : List Nd) (ih : ∀ t ∈ ts, LentOf t) (hm : ∀ t ∈ ts, many t ≤ 1000000) (hl : ts.length ≤ 1000000) (A : Option Addr) (ca : Nat) (w : World) (B : Nat) (h1 : InL w B A ca ts) (hB : B ≤ w.heap.size) :
    Calls Tryd.prog 29 #[.slice A ts.length ca] w (LentLPost ts w) := by
  obtain ⟨i0, hi, hz0, hz1, hz2⟩ := info_parts Tryd.infoNode
  have l1 := h1.len
  have l2 := h1.cap
  unfold maxLen at l2
  have HI := Lib.hid hi
  have HZ := Lib.hid (And.intro hz0 (And.intro hz1 hz2))
  clear hi hz0 hz1 hz2
  go_enter Tryd.func29, Tryd.ntmps29
  go_wp2_with (at_make; refine wpList_make_own _ rfl _ _ 23 rfl w.heap.size 25 i0 _ 5 Tryd.underlying23 HI.out HZ.out.1 HZ.out.2.1 _ _ _ (ts.length + 12) rfl rfl (by omega) (by rw [HZ.out.2.2]; omega) (by unfold maxLen; omega) (Nat.le_refl _) ?_; intro w1 hown1 hg1)
  have hl1 : L1 ts [] w 0 w1 := ⟨rfl, fun i t x _ h => by simp at h, hown1, hown1.lt _ rfl |>.2, fun x h => by simp at h, below_of_grown hg1 (Nat.le_refl _) (fun g e => by cases e)⟩
  clear hown1 hg1
  go_loopg [3, 4] ts.length (fun g s i wr => ∃ (k : Nat) (xs : List Nd), k ≤ ts.length ∧ g = ts.length - k ∧ i = .int .i64 k ∧ s = .slice (some ⟨w.heap.size, 0, none⟩) k (ts.length + 12) ∧ L1 ts xs w k wr)
  case atStart => exact ⟨0, [], by omega, rfl, rfl, rfl, hl1⟩
  case round =>
    clear hl1
    obtain ⟨k, xs, hk, hgk, rfl, rfl, hX⟩ := hrel
    have HGK := Lib.hid hgk
    clear hgk
    have hBr : w.heap.size < wr.heap.size := hX.size
    by_cases hlt : k < ts.length
    · obtain ⟨t, ht⟩ : ∃ t, ts[k]? = some t := ⟨_, List.getElem?_eq_getElem hlt⟩
      have i1 := h1.under (hX.below.mono hB)
      obtain ⟨ab, ao, ha, hab, c0, c1, c2, c3, c4⟩ := i1.at_ ht
      subst ha
      have j1 := i1.kid ht
      have HT := Lib.hid ht
      have HI2 := Lib.hid (ih t (List.mem_of_getElem? ht))
      have hmt := hm t (List.mem_of_getElem? ht)
      clear ht ih i1 h1 hm
      go_wp2_with fail
      refine (HI2.out _ B j1 (by omega) hmt).mono ?_
      rintro e w2 ⟨x, rfl, hlx, hx, hb2⟩
      have HO := Lib.hid (own_step hX.own hb2)
      unfold Nd.val Nd.row
      go_wp2_with (at_builtin; refine wpList_append_fits _ rfl _ _ 23 rfl w.heap.size 25 i0 5 Tryd.underlying23 HI.out HZ.out.2.1 w.heap.size k (ts.length + 12) (cells xs) rfl ((HO.out.alloc _).alloc _) _ 1 1 x.cs rfl rfl ?c1 ?c2 (by omega) ?next)
      case c1 => exact cells_new _ _ _ _ (by simp)
      case c2 => exact cs_oneCell x
      case next =>
        intro w3 hown3 hg3
        have hnew := hX.step HT.out hlx hx hb2 (((Below.refl _ _).alloc (Nat.le_refl _) _).alloc (by simp) _) hown3 hg3
        clear hown3 hg3 hX hx hb2 hlx
        go_wp2_with fail
        go_roundg (ts.length - (k + 1))
        case rel => exact ⟨k + 1, _, by omega, rfl, by go_num, rfl, hnew⟩
        case measure => rw [HGK.out]; omega
    · have hkl : k = ts.length := by omega
      rw [hkl] at hX
      have hX2 := hX.full
      clear hX h1 hm ih
      go_wp2_with fail
      rw [hkl]
      clear hkl hlt
      go_loopg [3, 6] 12 (fun g s i wr => ∃ (k : Nat) (xs : List Nd), k ≤ 12 ∧ g = 12 - k ∧ i = .int .i64 k ∧ s = .slice (some ⟨w.heap.size, 0, none⟩) (ts.length + k) (ts.length + 12) ∧ L2 ts xs w k wr)
      case atStart => exact ⟨0, xs, by omega, rfl, rfl, rfl, hX2⟩
      case round =>
        clear hX2
        obtain ⟨k, xs, hk, hgk, rfl, rfl, hX⟩ := hrel
        have HGK := Lib.hid hgk
        clear hgk
        by_cases hlt : k < 12
        · go_wp2_with fail
          refine (markNode_one k _ (by omega)).mono ?_
          rintro e w2 ⟨rfl, hb2⟩
          have HO := Lib.hid (own_step hX.own hb2)
          unfold Nd.val Nd.row
          go_wp2_with (at_builtin; refine wpList_append_fits _ rfl _ _ 23 rfl w.heap.size 25 i0 5 Tryd.underlying23 HI.out HZ.out.2.1 w.heap.size (ts.length + k) (ts.length + 12) (cells (xs ++ marks 1 k)) rfl (HO.out.alloc _) _ 1 1 (markNd 1 k).cs rfl rfl ?d1 ?d2 (by omega) ?next2)
          case d1 => exact cells_new _ _ _ _ (by simp)
          case d2 => exact cs_oneCell _
          case next2 =>
            intro w3 hown3 hg3
            have hnew := hX.step (hb2.trans (((Below.refl _ _).alloc (Nat.le_refl _) _).mono hb2.size)) hown3 hg3
            clear hown3 hg3 hX hb2
            go_wp2_with fail
            go_roundg (12 - (k + 1))
            case rel => exact ⟨k + 1, _, by omega, rfl, by go_num, rfl, hnew⟩
            case measure => rw [HGK.out]; omega
        · have hk12 : k = 12 := by omega
          rw [hk12] at hX
          clear hk12
          go_wp2_with fail
          go_ret
          refine ⟨w.heap.size, xs, rfl, hX.likes, Nat.le_refl _, hX.size, ?_, fun x hx => (hX.each x hx).more (by omega) (Nat.le_refl _), hX.below⟩
          exact lies_of_own hX.own
end Go.Proofs.YtbiohbklefjfiaaDoor
