/- CopyTypes, CopyType: copies. -/
import Derived.Test.YtfpjleabmemieaaGreatScoLc
set_option maxRecDepth 100000
namespace Go.Proofs.YtfpjleabmemieaaGreat
open Go.Instr Go.RowKit ScoT
set_option linter.unusedVariables false
theorem own_forms {w : World} {lo n : Nat} {T : TypeId} {v : Value} {xs : List Value} (h : w.ownsRow lo T 3 v n xs) : ∃ a c, v = .slice a n c ∧ (n ≤ c ∧ c ≤ maxLen ∧ (a = none → n = 0) ∧ (a = none → c = 0)) ∧ True := by
  rcases h.2 with ⟨rfl, rfl⟩ | ⟨g, c, cur, rfl, _, _, hn, hc, _⟩
  · exact ⟨none, 0, rfl, ⟨Nat.le_refl _, Nat.zero_le _, fun _ => rfl, fun _ => rfl⟩, trivial⟩
  · exact ⟨_, c, rfl, ⟨hn, hc, (fun e => by cases e), (fun e => by cases e)⟩, trivial⟩
def CopyPost (t : Ty) (w : World) (e : Ending) (w' : World) : Prop := ∃ x : Ty, e = .returned x.val ∧ same t x = true ∧ In w' (fun b => w.heap.size ≤ b ∧ b < w'.heap.size) x ∧ Below w.heap.size w w'
def CopyOf (t : Ty) : Prop := ∀ (w : World) (S : Nat → Prop), In w S t → (∀ b, S b → b < w.heap.size) → weight t ≤ 100000 → Calls Tryz.prog 43 #[t.val] w (CopyPost t w)
/-- What was copied so far. -/
structure Cpd (ts : List Ty) (w : World) (o : Value) (tys : List Ty) (W : World) : Prop where
  own : W.ownsRow w.heap.size 26 3 o tys.length (tcells tys)
  bel : Below w.heap.size w W
  inn : ∀ t ∈ tys, In W (fun b => w.heap.size ≤ b ∧ b < W.heap.size ∧ o.ownBlock ≠ some b) t
  rel : ∀ (i : Nat) (t x : Ty), ts[i]? = some t → tys[i]? = some x → same t x = true
theorem Cpd.step {ts : List Ty} {o v' : Value} {tys : List Ty} {w W X W' : World} {t u : Ty} (h : Cpd ts w o tys W) (hX : Below W.heap.size W X) (hu : ts[tys.length]? = some u) (hr : same u t = true)
    (hin : In X (fun b => W.heap.size ≤ b ∧ b < X.heap.size) t) (ho : W'.ownsRow w.heap.size 26 3 v' (tys.length + 1) (tcells tys ++ t.cs)) (hg : X.grownBy W' o.ownBlock) (hf : ∀ k, v'.ownBlock = some k → o.ownBlock = some k ∨ X.heap.size ≤ k) : Cpd ts w v' (tys ++ [t]) W' := by
  have hlt : ∀ b, o.ownBlock = some b → w.heap.size ≤ b ∧ b < W.heap.size := fun b hb => h.own.lt b hb
  have hsz : X.heap.size ≤ W'.heap.size := hg.size
  have hsX := hX.size
  refine ⟨by rw [List.length_append, List.length_singleton, tcells_append, tcells_single]; exact ho, ?_, ?_, ?_⟩
  · exact (h.bel.trans (hX.mono h.bel.size)).grown hg (by have := h.bel.size; omega) (fun b hb => (hlt b hb).1)
  · intro u hu
    rcases List.mem_append.1 hu with hu | hu
    · refine (h.inn u hu).keep (fun b hb => ⟨hb.1, by omega, fun e => ?_⟩) (fun p hp => World.cell?_of_block ((hg.block p.block (by have := hp.2.1; omega) hp.2.2.symm).trans (hX.block p.block hp.2.1)))
      rcases hf b e with h1 | h1
      · exact hb.2.2 h1
      · have := hb.2.1; omega
    · obtain rfl := List.mem_singleton.1 hu
      refine hin.keep (fun b hb => ⟨by have := h.bel.size; omega, by omega, fun e => ?_⟩) (fun p hp => World.cell?_of_block (hg.block p.block hp.2 (fun e => by have := (hlt p.block e.symm).2; omega)))
      rcases hf b e with h1 | h1
      · have := (hlt b h1).2; omega
      · have := hb.2; omega
  · intro i t' x hi hx
    by_cases hlen : i < tys.length
    · exact h.rel i t' x hi (by rwa [List.getElem?_append_left hlen] at hx)
    · have hl := (List.getElem?_eq_some_iff.1 hx).1
      rw [List.length_append, List.length_singleton] at hl
      have : i = tys.length := by omega
      subst this
      simp at hx
      subst hx
      obtain rfl := Option.some.inj (hu.symm.trans hi)
      exact hr
def CopyLPost (ts : List Ty) (w : World) (e : Ending) (w' : World) : Prop := ∃ v tys, e = .returned v ∧ tys.length = ts.length ∧ Cpd ts w v tys w'
set_option maxHeartbeats 4000000 in
theorem CopyTypes_of (ts : List Ty) (ih : ∀ t ∈ ts, CopyOf t) (hm : ∀ t ∈ ts, weight t ≤ 100000) (hl : ts.length ≤ 1000000) (A : Option Addr) (ca : Nat) (w : World) (S : Nat → Prop) (h1 : InL w S A ca ts) (hB : ∀ b, S b → b < w.heap.size) :
    Calls Tryz.prog 52 #[.slice A ts.length ca] w (CopyLPost ts w) := by
  obtain ⟨i0, hi, hz0, hz1, hz2⟩ := info_parts Tryz.infoType
  have HI := Lib.hid hi
  have HZ := Lib.hid (And.intro hz0 (And.intro hz1 hz2))
  have HH := Lib.hid (And.intro h1 (And.intro hB (And.intro ih hm)))
  clear hi hz0 hz1 hz2 h1 hB ih hm
  go_enter Tryz.func52, Tryz.ntmps52
  go_wp2_with fail
  go_loopg [3, 4] ts.length (fun gg o v wr => ∃ tys : List Ty, tys.length ≤ ts.length ∧ gg = ts.length - tys.length ∧ v = .int .i64 tys.length ∧ Cpd ts w o tys wr)
  case atStart => exact ⟨[], by simp, by simp, rfl, ⟨by simp [tcells, World.ownsRow_nil], Below.refl _ _, by simp, by simp⟩⟩
  case round =>
    obtain ⟨tys, hty, hgj, rfl, hse⟩ := hrel
    have HGJ := Lib.hid hgj
    have HS := Lib.hid hse
    clear hgj hse
    by_cases hlt : tys.length < ts.length
    · have t1 : decide ((tys.length : Int) < (ts.length : Int)) = true := decide_eq_true (by omega)
      have k0 : (0 : Int) ≤ (tys.length : Int) := by omega
      have k1 : (tys.length : Int) < (ts.length : Int) := by omega
      obtain ⟨u, hu⟩ : ∃ u, ts[tys.length]? = some u := ⟨_, List.getElem?_eq_getElem hlt⟩
      have i1 := HH.out.1.under HS.out.bel HH.out.2.1
      obtain ⟨ab, ao, ha, hab, c0, c1, c2⟩ := i1.at_ hu
      subst ha
      have HM := Lib.hid hu
      have HC := Lib.hid (HH.out.2.2.1 u (List.mem_of_getElem? hu) wr S (i1.kid _ u hu) (fun b hb => by have := HH.out.2.1 b hb; have := HS.out.bel.size; omega) (HH.out.2.2.2 u (List.mem_of_getElem? hu)))
      clear hu i1 hab
      go_wp2_with (first
        | (go_at_call 43; (refine HC.out.mono ?_; rintro e w2 ⟨t, rfl, hr, hin, hb⟩; have HT := Lib.hid (And.intro hr (And.intro hin hb)); clear hr hin hb; unfold Ty.val Ty.row))
        | (at_builtin; go_loud (refine wpList_append_far rfl _ _ 24 rfl w.heap.size 26 i0 _ 3 48 Tryz.underlying24 HI.out HZ.out.1 HZ.out.2.1 HZ.out.2.2 rfl (by decide) _ tys.length _ rfl (((row_keep HS.out.own (fun k hk => HT.out.2.2.block k (HS.out.own.lt k hk).2)).alloc _).alloc _) (some ⟨w2.heap.size + 1, 0, none⟩) 1 1 rfl (fun e => by cases e) t.cs rfl ?c1 ?c2 ?c3 ?c4 ?c5 ?next)))
      case c1 =>
        intro ad had
        cases had
        have := new_cells (w2.alloc (.cells #[.int .u8 t.kind, .string t.name, .slice t.addr t.els.length t.cap] 26)) t.cs 26
        simp only [World.size_alloc] at this
        exact this
      case c2 => intro u hu; simp [Ty.cs, Ty.row] at hu; rcases hu with rfl | rfl | rfl <;> rfl
      case c3 => unfold maxLen; omega
      case c4 => omega
      case c5 => have := HS.out.bel.size; have := HT.out.2.2.size; simp; omega
      case next =>
        intro v' w4 ho hg hf
        have HO4 := Lib.hid (And.intro ho (And.intro hg hf))
        clear ho hg hf
        go_wp2_with fail
        go_roundg (ts.length - (tys.length + 1))
        case rel =>
          refine ⟨tys ++ [t], by simp; omega, by simp, by simp, ?_⟩
          have hbX : Below wr.heap.size wr ((w2.alloc (.cells #[.int .u8 t.kind, .string t.name, .slice t.addr t.els.length t.cap] 26)).alloc (.cells #[.int .u8 t.kind, .string t.name, .slice t.addr t.els.length t.cap] 26)) := (HT.out.2.2.alloc HT.out.2.2.size _).alloc (by have := HT.out.2.2.size; simp; omega) _
          refine HS.out.step hbX HM.out HT.out.1 (HT.out.2.1.keep (fun b hb => ⟨hb.1, by have := hb.2; simp; omega⟩) (fun p hp => ?_)) HO4.out.1 HO4.out.2.1 (fun k hk => (HO4.out.2.2 k hk).imp id fun h => by simpa using h)
          have := hp.2
          rw [World.cell?_alloc_lt _ _ _ (by simp; omega), World.cell?_alloc_lt _ _ _ (by omega)]
        case measure => rw [HGJ.out]; omega
    · have t1 : decide ((tys.length : Int) < (ts.length : Int)) = false := decide_eq_false (by omega)
      go_wp2_with fail
      go_ret
      exact ⟨_, tys, rfl, by omega, HS.out⟩
theorem CopyType_any : ∀ t, CopyOf t := by
  refine Ty.rose fun t ih => ?_
  intro w S h hB hm
  have hme := weight_eq t
  have hll := len_wsum t.els
  have HS := Lib.hid (CopyTypes_of t.els ih (fun u hu => by have := wsum_mem hu; omega) (by omega))
  have HF := Lib.hid h.fits
  have HM : Hid (t.els.length ≤ 1000000) := by show _ ≤ _; omega
  clear ih hme hll hm
  have HIL := Lib.hid h.list
  have HB := Lib.hid hB
  clear h hB
  unfold Ty.val Ty.row
  go_enter Tryz.func43, Tryz.ntmps43
  go_wp2_with fail
  refine (HS.out _ _ _ S ((HIL.out.under ((Below.refl _ _).alloc (Nat.le_refl _) _) HB.out).under ((Below.refl _ _).alloc (Nat.le_refl _) _) (fun b hb => by have := HB.out b hb; simp; omega)) (fun b hb => by have := HB.out b hb; simp; omega)).mono ?_
  rintro e w1 ⟨v, xs, rfl, hlen, hc⟩
  clear HS
  obtain ⟨ga, gc, hv, hva, _⟩ := own_forms hc.own
  subst hv
  have hs2 : (w.alloc (.cells #[.int .u8 t.kind, .string t.name, .slice t.addr t.els.length t.cap] 26) |>.alloc (.cells #[.int .u8 0, .string ⟨#[]⟩, .slice none 0 0] 26)).heap.size = w.heap.size + 2 := by simp
  have h8 := hc.bel
  rw [hs2] at h8
  have hz := h8.size
  rw [hs2] at hz
  have hb0 : w1.heap[w.heap.size]? = some (.cells #[.int .u8 t.kind, .string t.name, .slice t.addr t.els.length t.cap] 26) := by
    rw [h8.block _ (by omega), Below.heap_alloc _ _ _ (by simp)]
    exact World.alloc_heap_new _ _
  have hb1 : w1.heap[w.heap.size + 1]? = some (.cells #[.int .u8 0, .string ⟨#[]⟩, .slice none 0 0] 26) := by
    rw [h8.block _ (by omega)]
    have := World.alloc_heap_new (w.alloc (.cells #[.int .u8 t.kind, .string t.name, .slice t.addr t.els.length t.cap] 26)) (.cells #[.int .u8 0, .string ⟨#[]⟩, .slice none 0 0] 26)
    simpa using this
  obtain ⟨⟨c0, c1, c2⟩, cf⟩ := cs3_of hb0
  obtain ⟨⟨d0, d1, d2⟩, df⟩ := cs3_of hb1
  have H1 := Lib.hid (And.intro hc (And.intro hva h8))
  have HN := Lib.hid hlen
  have HBW : Hid (Below w.heap.size w w1) := Lib.hid ((((Below.refl _ _).alloc (Nat.le_refl _) _).alloc (by simp) _).trans (h8.mono (by omega)))
  clear hc hva h8 hlen hb0 hb1
  go_wp2_with fail
  have HV : Hid ((Ty.mk t.kind t.name ga gc xs).val = .agg #[.int .u8 t.kind, .string t.name, .slice ga xs.length gc]) := Lib.hid rfl
  refine bodyPost_ret (v := .agg #[.int .u8 t.kind, .string t.name, .slice ga xs.length gc]) (by simp [results, Tryz.results43, go_sem, d0, d1, d2]) rfl ?_
  rw [← HV.out]
  obtain ⟨hc, hva, h8⟩ := H1.out
  have hT := HF.out
  generalize hv1 : Value.slice ga xs.length gc = v1
  clear hv1
  have sh : ∀ b, w.heap.size + 2 ≤ b → ((((w1.setCell ⟨w.heap.size, 2, none⟩ v1).setCell ⟨w.heap.size + 1, 0, none⟩ (.int .u8 t.kind)).setCell ⟨w.heap.size + 1, 1, none⟩ (.string t.name)).setCell ⟨w.heap.size + 1, 2, none⟩ v1).heap[b]? = w1.heap[b]? := fun b hb => by
    rw [set_heap _ _ _ _ _ (by omega), set_heap _ _ _ _ _ (by omega), set_heap _ _ _ _ _ (by omega), set_heap _ _ _ _ _ (by omega)]
  have hsz : ((((w1.setCell ⟨w.heap.size, 2, none⟩ v1).setCell ⟨w.heap.size + 1, 0, none⟩ (.int .u8 t.kind)).setCell ⟨w.heap.size + 1, 1, none⟩ (.string t.name)).setCell ⟨w.heap.size + 1, 2, none⟩ v1).heap.size = w1.heap.size := by simp only [set_size]
  refine ⟨_, rfl, ?_, ?_, ?_⟩
  · rw [same_eq]
    show (t.kind == t.kind && decide (t.name = t.name) && sameL t.els xs) = true
    simp [(sameL_iff t.els xs).2 ⟨HN.out.symm, hc.rel⟩]
  · refine .mk _ ⟨hT.kind, hT.name, hva.1, hva.2.1, fun h => ⟨?_, ?_⟩⟩ (fun h0 => ?_) ?_
    · exact hva.2.2.1 h
    · exact hva.2.2.2 h
    · obtain ⟨g, c, hg⟩ := own_slice hc.own h0
      injection hg with hg _ _
      show ∃ b o, ga = some ⟨b, o, none⟩ ∧ _
      subst hg
      have hgl := hc.own.lt g rfl
      rw [hs2] at hgl
      refine ⟨g, 0, rfl, ⟨by omega, by rw [hsz]; exact hgl.2⟩, fun i u hi j v hv => ?_⟩
      refine (World.cell?_of_block (a := ⟨g, 0 + i * 3 + j, none⟩) (sh g (by omega))).trans ?_
      have := row_cs hc.own i u hi j v hv
      simpa using this
    · intro i u hu
      refine (hc.inn u (List.mem_of_getElem? hu)).keep (fun b hb => ?_) (fun p hp => ?_)
      · have := hb.1
        have := hb.2.1
        rw [hsz]
        rw [hs2] at *
        exact ⟨by omega, by omega⟩
      · have := hp.1
        rw [hs2] at this
        exact World.cell?_of_block (sh p.block this)
  · exact ((((HBW.out.setCell (p := ⟨w.heap.size, 2, none⟩) (Nat.le_refl _) _).setCell (p := ⟨w.heap.size + 1, 0, none⟩) (by show w.heap.size ≤ w.heap.size + 1; omega) _).setCell (p := ⟨w.heap.size + 1, 1, none⟩) (by show w.heap.size ≤ w.heap.size + 1; omega) _).setCell (p := ⟨w.heap.size + 1, 2, none⟩) (by show w.heap.size ≤ w.heap.size + 1; omega) _)
end Go.Proofs.YtfpjleabmemieaaGreat
