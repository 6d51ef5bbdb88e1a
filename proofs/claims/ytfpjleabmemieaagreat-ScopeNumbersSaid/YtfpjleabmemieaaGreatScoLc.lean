/- LentTypes, LentType: copies with twelve marks behind each list. -/
import Derived.Test.YtfpjleabmemieaaGreatScoRb
import Derived.Test.YtfpjleabmemieaaGreatFlN
import Derived.Test.YtfpjleabmemieaaGreatScoX
import Derived.Test.YtfpjleabmemieaaGreatScoW
import Derived.OwnWalk
set_option maxRecDepth 100000
namespace Go.Proofs.YtfpjleabmemieaaGreat
open Go.Instr Go.RowKit ScoT
set_option linter.unusedVariables false
theorem grown_of_below {a w : World} (h : Below a.heap.size a w) (row : Option Nat) : a.grownBy w row := ⟨h.os, h.tape, h.output, h.size, fun i hi _ => h.block i hi⟩
theorem below_of_grown {a w : World} {row : Option Nat} {B : Nat} (h : a.grownBy w row) (hB : B ≤ a.heap.size) (hr : ∀ g, row = some g → B ≤ g) : Below B a w := (Below.refl _ _).grown h hB hr
def LentPost (t : Ty) (w : World) (e : Ending) (w' : World) : Prop := ∃ x : Ty, e = .returned x.val ∧ same t x = true ∧ LentT w' w.heap.size w'.heap.size x ∧ (rowBs (subs x)).Nodup ∧ Below w.heap.size w w'
def LentOf (t : Ty) : Prop := ∀ (w : World) (S : Nat → Prop), In w S t → (∀ b, S b → b < w.heap.size) → weight t ≤ 100000 → Calls Tryz.prog 24 #[t.val] w (LentPost t w)
def LentLPost (ts : List Ty) (w : World) (e : Ending) (w' : World) : Prop := ∃ (g : Nat) (xs : List Ty), e = .returned (.slice (some ⟨g, 0, none⟩) ts.length (ts.length + 12)) ∧ sameL ts xs = true ∧ w.heap.size ≤ g ∧ g < w'.heap.size ∧ Plain w' g ∧
  (∀ (i : Nat) (t : Ty), (xs ++ marksTy 1 12)[i]? = some t → CsAt w' (g, i * 3) t.cs) ∧ (∀ x ∈ xs, LentT w' (g + 1) w'.heap.size x) ∧ (rowBs (subsL xs)).Nodup ∧ Below w.heap.size w w'
/-- After k rounds. -/
structure L1 (ts xs : List Ty) (w : World) (k : Nat) (wr : World) : Prop where
  len : xs.length = k
  sames : ∀ (i : Nat) (t x : Ty), ts[i]? = some t → xs[i]? = some x → same t x = true
  own : wr.ownsRow w.heap.size 26 3 (.slice (some ⟨w.heap.size, 0, none⟩) k (ts.length + 12)) k (tcells xs)
  size : w.heap.size < wr.heap.size
  each : ∀ x ∈ xs, LentT wr (w.heap.size + 1) wr.heap.size x
  nd : (rowBs (subsL xs)).Nodup
  below : Below w.heap.size w wr
/-- All copied, k marks behind. -/
structure L2 (ts xs : List Ty) (w : World) (k : Nat) (wr : World) : Prop where
  sames : sameL ts xs = true
  own : wr.ownsRow w.heap.size 26 3 (.slice (some ⟨w.heap.size, 0, none⟩) (ts.length + k) (ts.length + 12)) (ts.length + k) (tcells (xs ++ marksTy 1 k))
  size : w.heap.size < wr.heap.size
  each : ∀ x ∈ xs, LentT wr (w.heap.size + 1) wr.heap.size x
  nd : (rowBs (subsL xs)).Nodup
  below : Below w.heap.size w wr
theorem subsL_append (a b : List Ty) : subsL (a ++ b) = subsL a ++ subsL b := by
  induction a with
  | nil => rfl
  | cons t a ih => simp only [List.cons_append, subsL, ih, List.append_assoc]
theorem tcells_single (t : Ty) : tcells [t] = t.cs := by simp [tcells]
theorem L1.step {ts xs : List Ty} {w wr w1 w2 w3 : World} {k : Nat} {t x : Ty} (h : L1 ts xs w k wr) (ht : ts[k]? = some t) (hl : same t x = true) (hx : LentT w1 wr.heap.size w1.heap.size x) (hxn : (rowBs (subs x)).Nodup) (hb1 : Below wr.heap.size wr w1)
    (hb2 : Below w1.heap.size w1 w2) (hown : w3.ownsRow w.heap.size 26 3 (.slice (some ⟨w.heap.size, 0, none⟩) (k + 1) (ts.length + 12)) (k + 1) (tcells xs ++ x.cs)) (hg : w2.grownBy w3 (some w.heap.size)) : L1 ts (xs ++ [x]) w (k + 1) w3 := by
  have s0 := h.size
  have s1 := hb1.size
  have s2 := hb2.size
  have s3 := hg.size
  have h1 := h.len
  have keep : ∀ {lo hi : Nat} {y : Ty}, LentT w2 lo hi y → w.heap.size < lo → hi ≤ w2.heap.size → LentT w3 lo hi y := fun h hlo hhi => h.keep fun b p1 p2 =>
    hg.block b (by omega) (fun e => by injection e; omega)
  refine ⟨by simp [h1], fun i t' x' hi hx' => ?_, ?_, by omega, fun y hy => ?_, ?_, ?_⟩
  · rcases Nat.lt_or_ge i k with hlt | hge
    · rw [List.getElem?_append_left (by omega)] at hx'
      exact h.sames i t' x' hi hx'
    · have hik : i = k := by
        have := (List.getElem?_eq_some_iff.1 hx').1
        simp at this
        omega
      subst hik
      rw [List.getElem?_append_right (by omega), h1] at hx'
      simp at hx'
      subst hx'
      obtain rfl := Option.some.inj (ht.symm.trans hi)
      exact hl
  · rw [tcells_append, tcells_single]
    exact hown
  · rcases List.mem_append.1 hy with hy | hy
    · have := h.each y hy
      exact (keep ((this.under hb1 (Nat.le_refl _)).under hb2 (by omega)) (by omega) (by omega)).more (Nat.le_refl _) (by omega)
    · obtain rfl := List.mem_singleton.1 hy
      exact (keep (hx.under hb2 (Nat.le_refl _)) (by omega) (by omega)).more (by omega) (by omega)
  · rw [subsL_append, rowBs_append]
    refine List.nodup_append.2 ⟨h.nd, by simpa [subsL] using hxn, fun a ha b hb hab => ?_⟩
    subst hab
    obtain ⟨v, hv, hva⟩ := mem_rowBs.1 ha
    obtain ⟨i, y, hi, hy⟩ := mem_subsL.1 hv
    have q1 := (h.each y (List.mem_of_getElem? hi)).span a (mem_rowBs.2 ⟨v, hy, hva⟩)
    have q2 := hx.span a (by simpa [subsL] using hb)
    have := q1.2
    have := q2.1
    omega
  · exact ((h.below.trans (hb1.mono (by omega))).trans (hb2.mono (by omega))).trans (below_of_grown hg (by omega) (fun g e => by injection e; omega))
theorem L2.step {ts xs : List Ty} {w wr w2 w3 : World} {k : Nat} (h : L2 ts xs w k wr) (hb2 : Below wr.heap.size wr w2)
    (hown : w3.ownsRow w.heap.size 26 3 (.slice (some ⟨w.heap.size, 0, none⟩) (ts.length + k + 1) (ts.length + 12)) (ts.length + k + 1) (tcells (xs ++ marksTy 1 k) ++ (markTy 1 k).cs)) (hg : w2.grownBy w3 (some w.heap.size)) : L2 ts xs w (k + 1) w3 := by
  have s0 := h.size
  have s2 := hb2.size
  have s3 := hg.size
  have keep : ∀ {lo hi : Nat} {y : Ty}, LentT w2 lo hi y → w.heap.size < lo → hi ≤ w2.heap.size → LentT w3 lo hi y := fun h hlo hhi => h.keep fun b p1 p2 =>
    hg.block b (by omega) (fun e => by injection e; omega)
  refine ⟨h.sames, ?_, by omega, fun y hy => ?_, h.nd, ?_⟩
  · rw [marksTy_succ, ← List.append_assoc, tcells_append, tcells_single]
    exact hown
  · exact (keep ((h.each y hy).under hb2 (by omega)) (by omega) (by omega)).more (Nat.le_refl _) (by omega)
  · exact (h.below.trans (hb2.mono (by omega))).trans (below_of_grown hg (by omega) (fun g e => by injection e; omega))
theorem L1.full {ts xs : List Ty} {w wr : World} (h : L1 ts xs w ts.length wr) : L2 ts xs w 0 wr :=
  ⟨(sameL_iff _ _).2 ⟨h.len.symm, h.sames⟩, by simpa [marksTy] using h.own, h.size, h.each, h.nd, h.below⟩
theorem own_step {wr w1 : World} {xs : List Value} {base g n c : Nat} (h : wr.ownsRow base 26 3 (.slice (some ⟨g, 0, none⟩) n c) n xs) (hb : Below wr.heap.size wr w1) : w1.ownsRow base 26 3 (.slice (some ⟨g, 0, none⟩) n c) n xs :=
  h.kept (grown_of_below hb none) (.inr (by simp [Value.ownBlock]))
theorem markType_one (k i : Nat) (w : World) (hk : k ≤ 1000000) (hi : i ≤ 1000000) : Calls Tryz.prog 51 #[.int .i64 k, .int .i64 i] w fun e w' => e = .returned (markTy k i).val ∧ Below w.heap.size w w' := markType_any k i w (by omega) (by omega)
theorem cells_new (w : World) (l : List Value) (T : TypeId) (g : Nat) (hg : g = w.heap.size) : ∀ j u, l[j]? = some u → (w.alloc (.cells l.toArray T)).cell? ((⟨g, 0, none⟩ : Addr).add j) = some u := by
  intro j u hu
  subst hg
  have hadd : (⟨w.heap.size, 0, none⟩ : Addr).add j = ⟨w.heap.size, j, none⟩ := by unfold Addr.add; split <;> simp_all
  rw [hadd, World.cell?_alloc_new]
  simpa using hu
theorem cs_oneT (t : Ty) : ∀ v ∈ t.cs, v.oneCell' = true := by
  intro v hv
  simp only [Ty.cs, Ty.row, List.mem_cons, List.not_mem_nil, or_false] at hv
  rcases hv with rfl | rfl | rfl <;> rfl

set_option maxHeartbeats 1000000 in
theorem LentTypes_of (ts : List Ty) (ih : ∀ t ∈ ts, LentOf t) (hm : ∀ t ∈ ts, weight t ≤ 100000) (hl : ts.length ≤ 1000000) (A : Option Addr) (ca : Nat) (w : World) (S : Nat → Prop) (h1 : InL w S A ca ts) (hB : ∀ b, S b → b < w.heap.size) :
    Calls Tryz.prog 42 #[.slice A ts.length ca] w (LentLPost ts w) := by
  obtain ⟨i0, hi, hz0, hz1, hz2⟩ := info_parts Tryz.infoType
  have l1 := h1.len
  have l2 := h1.cap
  unfold maxLen at l2
  have HI := Lib.hid hi
  have HZ := Lib.hid (And.intro hz0 (And.intro hz1 hz2))
  clear hi hz0 hz1 hz2
  go_enter Tryz.func42, Tryz.ntmps42
  go_wp2_with (at_make; refine wpList_make_own _ rfl _ _ 24 rfl w.heap.size 26 i0 _ 3 Tryz.underlying24 HI.out HZ.out.1 HZ.out.2.1 _ _ _ (ts.length + 12) rfl rfl (by omega) (by rw [HZ.out.2.2]; omega) (by unfold maxLen; omega) (Nat.le_refl _) ?_; intro w1 hown1 hg1)
  have hl1 : L1 ts [] w 0 w1 := ⟨rfl, fun i t x _ h => by simp at h, hown1, hown1.lt _ rfl |>.2, fun x h => by simp at h, by simp [subsL, rowBs], below_of_grown hg1 (Nat.le_refl _) (fun g e => by cases e)⟩
  clear hown1 hg1
  go_loopg [3, 4] ts.length (fun g s i wr => ∃ (k : Nat) (xs : List Ty), k ≤ ts.length ∧ g = ts.length - k ∧ i = .int .i64 k ∧ s = .slice (some ⟨w.heap.size, 0, none⟩) k (ts.length + 12) ∧ L1 ts xs w k wr)
  case atStart => exact ⟨0, [], by omega, rfl, rfl, rfl, hl1⟩
  case round =>
    clear hl1
    obtain ⟨k, xs, hk, hgk, rfl, rfl, hX⟩ := hrel
    have HGK := Lib.hid hgk
    clear hgk
    have hBr : w.heap.size < wr.heap.size := hX.size
    by_cases hlt : k < ts.length
    · obtain ⟨t, ht⟩ : ∃ t, ts[k]? = some t := ⟨_, List.getElem?_eq_getElem hlt⟩
      have i1 := h1.under hX.below hB
      obtain ⟨ab, ao, ha, hab, c0, c1, c2⟩ := i1.at_ ht
      subst ha
      have j1 := i1.kid k t ht
      have HT := Lib.hid ht
      have HI2 := Lib.hid (ih t (List.mem_of_getElem? ht))
      have hmt := hm t (List.mem_of_getElem? ht)
      have HBB : Hid (∀ b, S b → b < wr.heap.size) := Lib.hid fun b hb => by have := hB b hb; omega
      clear ht ih i1 h1 hm hB hab
      go_wp2_with fail
      refine (HI2.out _ S j1 HBB.out hmt).mono ?_
      rintro e w2 ⟨x, rfl, hlx, hx, hxn, hb2⟩
      have HO := Lib.hid (own_step hX.own hb2)
      have HXN := Lib.hid hxn
      clear hxn
      unfold Ty.val Ty.row
      go_wp2_with (at_builtin; refine wpList_append_fits _ rfl _ _ 24 rfl w.heap.size 26 i0 3 Tryz.underlying24 HI.out HZ.out.2.1 w.heap.size k (ts.length + 12) (tcells xs) rfl ((HO.out.alloc _).alloc _) _ 1 1 x.cs rfl rfl ?c1 ?c2 (by omega) ?next)
      case c1 => exact cells_new _ _ _ _ (by simp)
      case c2 => exact cs_oneT x
      case next =>
        intro w3 hown3 hg3
        have hnew := hX.step HT.out hlx hx HXN.out hb2 (((Below.refl _ _).alloc (Nat.le_refl _) _).alloc (by simp) _) hown3 hg3
        clear hown3 hg3 hX hx hb2 hlx
        go_wp2_with fail
        go_roundg (ts.length - (k + 1))
        case rel => exact ⟨k + 1, _, by omega, rfl, by go_num, rfl, hnew⟩
        case measure => rw [HGK.out]; omega
    · have hkl : k = ts.length := by omega
      rw [hkl] at hX
      have hX2 := hX.full
      clear hX h1 hm ih
      go_wp2_with fail
      rw [hkl]
      clear hkl hlt
      go_loopg [3, 6] 12 (fun g s i wr => ∃ (k : Nat) (xs : List Ty), k ≤ 12 ∧ g = 12 - k ∧ i = .int .i64 k ∧ s = .slice (some ⟨w.heap.size, 0, none⟩) (ts.length + k) (ts.length + 12) ∧ L2 ts xs w k wr)
      case atStart => exact ⟨0, xs, by omega, rfl, rfl, rfl, hX2⟩
      case round =>
        clear hX2
        obtain ⟨k, xs, hk, hgk, rfl, rfl, hX⟩ := hrel
        have HGK := Lib.hid hgk
        clear hgk
        by_cases hlt : k < 12
        · have HM := Lib.hid (markType_one 1 k wr (by omega) (by omega))
          go_wp2_with fail
          refine HM.out.mono ?_
          rintro e w2 ⟨rfl, hb2⟩
          have HO := Lib.hid (own_step hX.own hb2)
          obtain ⟨q, hq⟩ : ∃ q, q = markT 1 k := ⟨_, rfl⟩
          have HCS : Hid ((markTy 1 k).cs = [.int .u8 0, .string q, .slice none 0 0]) := Lib.hid (by rw [hq]; rfl)
          rw [show (markTy 1 k).val = .agg #[.int .u8 0, .string q, .slice none 0 0] by rw [hq]; rfl]
          clear hq HM
          go_wp2_with (at_builtin; refine wpList_append_fits _ rfl _ _ 24 rfl w.heap.size 26 i0 3 Tryz.underlying24 HI.out HZ.out.2.1 w.heap.size (ts.length + k) (ts.length + 12) (tcells (xs ++ marksTy 1 k)) rfl (HO.out.alloc _) _ 1 1 [.int .u8 0, .string q, .slice none 0 0] rfl rfl ?d1 ?d2 (by omega) ?next2)
          case d1 => exact cells_new _ _ _ _ (by simp)
          case d2 => rw [← HCS.out]; exact cs_oneT _
          case next2 =>
            intro w3 hown3 hg3
            have hnew := hX.step (hb2.trans (((Below.refl _ _).alloc (Nat.le_refl _) _).mono hb2.size)) (by rw [HCS.out]; exact hown3) hg3
            clear hown3 hg3 hX hb2
            go_wp2_with fail
            go_roundg (12 - (k + 1))
            case rel => exact ⟨k + 1, _, by omega, rfl, by go_num, rfl, hnew⟩
            case measure => rw [HGK.out]; omega
        · have hk12 : k = 12 := by omega
          rw [hk12] at hX
          clear hk12
          go_wp2_with fail
          go_ret
          refine ⟨w.heap.size, xs, rfl, hX.sames, Nat.le_refl _, hX.size, ?_, ?_, hX.each, hX.nd, hX.below⟩
          · exact (row_plain hX.own).1
          · exact row_cs hX.own
theorem wsum_le {ts : List Ty} {t : Ty} (h : t ∈ ts) : weight t ≤ wsum ts := wsum_mem h
theorem LentType_any : ∀ t, LentOf t := by
  refine Ty.rose fun t ih => ?_
  intro w S h hB hm
  have hme := weight_eq t
  have hll := len_wsum t.els
  have HS := Lib.hid (LentTypes_of t.els ih (fun u hu => by have := wsum_mem hu; omega) (by omega))
  have HF := Lib.hid h.fits
  have HM : Hid (t.els.length ≤ 1000000) := by show _ ≤ _; omega
  clear ih hme hll hm
  have HIL := Lib.hid h.list
  have HB := Lib.hid hB
  clear h hB
  unfold Ty.val Ty.row
  go_enter Tryz.func24, Tryz.ntmps24
  go_wp2_with fail
  refine (HS.out _ _ _ S ((HIL.out.under ((Below.refl _ _).alloc (Nat.le_refl _) _) HB.out).under ((Below.refl _ _).alloc (Nat.le_refl _) _) (fun b hb => by have := HB.out b hb; simp; omega)) (fun b hb => by have := HB.out b hb; simp; omega)).mono ?_
  rintro e w1 ⟨g, xs, rfl, h1, h2, h3, h4, h5, h6, h7, h8⟩
  clear HS
  have hs2 : (w.alloc (.cells #[.int .u8 t.kind, .string t.name, .slice t.addr t.els.length t.cap] 26) |>.alloc (.cells #[.int .u8 0, .string ⟨#[]⟩, .slice none 0 0] 26)).heap.size = w.heap.size + 2 := by simp
  rw [hs2] at h2 h8
  have hz := h8.size
  rw [hs2] at hz
  have hlen := ((sameL_iff _ _).1 h1).1
  have hb0 : w1.heap[w.heap.size]? = some (.cells #[.int .u8 t.kind, .string t.name, .slice t.addr t.els.length t.cap] 26) := by
    rw [h8.block _ (by omega), Below.heap_alloc _ _ _ (by simp)]
    exact World.alloc_heap_new _ _
  have hb1 : w1.heap[w.heap.size + 1]? = some (.cells #[.int .u8 0, .string ⟨#[]⟩, .slice none 0 0] 26) := by
    rw [h8.block _ (by omega)]
    have := World.alloc_heap_new (w.alloc (.cells #[.int .u8 t.kind, .string t.name, .slice t.addr t.els.length t.cap] 26)) (.cells #[.int .u8 0, .string ⟨#[]⟩, .slice none 0 0] 26)
    simpa using this
  obtain ⟨⟨c0, c1, c2⟩, cf⟩ := cs3_of hb0
  obtain ⟨⟨d0, d1, d2⟩, df⟩ := cs3_of hb1
  have H1 := Lib.hid (And.intro h1 (And.intro h2 (And.intro h3 (And.intro h4 (And.intro h5 (And.intro h6 (And.intro h7 h8)))))))
  have HN := Lib.hid hlen
  have HBW : Hid (Below w.heap.size w w1) := Lib.hid ((((Below.refl _ _).alloc (Nat.le_refl _) _).alloc (by simp) _).trans (h8.mono (by omega)))
  clear h1 h2 h3 h4 h5 h6 h7 h8 hlen hb0 hb1 hs2
  go_wp2_with fail
  have HV : Hid ((Ty.mk t.kind t.name (some ⟨g, 0, none⟩) (t.els.length + 12) xs).val = .agg #[.int .u8 t.kind, .string t.name, .slice (some ⟨g, 0, none⟩) t.els.length (t.els.length + 12)]) := Lib.hid (by
    show Value.agg #[.int .u8 t.kind, .string t.name, .slice (some ⟨g, 0, none⟩) xs.length (t.els.length + 12)] = _
    rw [HN.out])
  refine bodyPost_ret (v := .agg #[.int .u8 t.kind, .string t.name, .slice (some ⟨g, 0, none⟩) t.els.length (t.els.length + 12)]) (by simp [results, Tryz.results24, go_sem, d0, d1, d2]) rfl ?_
  rw [← HV.out]
  obtain ⟨h1, h2, h3, h4, h5, h6, h7, h8⟩ := H1.out
  have hT := HF.out
  generalize hv1 : Value.slice (some ⟨g, 0, none⟩) t.els.length (t.els.length + 12) = v1
  clear hv1
  have sh : ∀ b, w.heap.size + 2 ≤ b → ((((w1.setCell ⟨w.heap.size, 2, none⟩ v1).setCell ⟨w.heap.size + 1, 0, none⟩ (.int .u8 t.kind)).setCell ⟨w.heap.size + 1, 1, none⟩ (.string t.name)).setCell ⟨w.heap.size + 1, 2, none⟩ v1).heap[b]? = w1.heap[b]? := fun b hb => by
    rw [set_heap _ _ _ _ _ (by omega), set_heap _ _ _ _ _ (by omega), set_heap _ _ _ _ _ (by omega), set_heap _ _ _ _ _ (by omega)]
  have hsz : ((((w1.setCell ⟨w.heap.size, 2, none⟩ v1).setCell ⟨w.heap.size + 1, 0, none⟩ (.int .u8 t.kind)).setCell ⟨w.heap.size + 1, 1, none⟩ (.string t.name)).setCell ⟨w.heap.size + 1, 2, none⟩ v1).heap.size = w1.heap.size := by simp only [set_size]
  refine ⟨_, rfl, ?_, ?_, ?_, ?_⟩
  · rw [same_eq]
    show (t.kind == t.kind && decide (t.name = t.name) && sameL t.els xs) = true
    simp [h1]
  · refine .mk _ ⟨hT.kind, hT.name, by show xs.length ≤ t.els.length + 12; rw [← HN.out]; omega, by show t.els.length + 12 ≤ _; unfold maxLen; have := HM.out; omega, fun h => by cases h⟩ g rfl (by show t.els.length + 12 = xs.length + 12; rw [← HN.out]) ⟨by omega, by rw [hsz]; exact h3⟩ (h4.keep (sh g h2)) ?_ ?_
    · intro i u hu
      exact (h5 i u hu).keep fun j _ => World.cell?_of_block (a := ⟨g, i * 3 + j, none⟩) (sh g h2)
    · intro i u hu
      rw [hsz]
      exact ((h6 u (List.mem_of_getElem? hu)).keep fun b p1 p2 => sh b (by omega)).more (by omega) (Nat.le_refl _)
  · rw [subs_eq]
    show (rowBs (Ty.mk t.kind t.name (some ⟨g, 0, none⟩) (t.els.length + 12) xs :: subsL xs)).Nodup
    show (g :: rowBs (subsL xs)).Nodup
    refine List.nodup_cons.2 ⟨fun hm => ?_, h7⟩
    obtain ⟨v, hv, hva⟩ := mem_rowBs.1 hm
    obtain ⟨i, y, hi, hy⟩ := mem_subsL.1 hv
    have q1 := (h6 y (List.mem_of_getElem? hi)).span g (mem_rowBs.2 ⟨v, hy, hva⟩)
    have := q1.1
    omega
  · exact ((((HBW.out.setCell (p := ⟨w.heap.size, 2, none⟩) (Nat.le_refl _) _).setCell (p := ⟨w.heap.size + 1, 0, none⟩) (by show w.heap.size ≤ w.heap.size + 1; omega) _).setCell (p := ⟨w.heap.size + 1, 1, none⟩) (by show w.heap.size ≤ w.heap.size + 1; omega) _).setCell (p := ⟨w.heap.size + 1, 2, none⟩) (by show w.heap.size ≤ w.heap.size + 1; omega) _)
end Go.Proofs.YtfpjleabmemieaaGreat
