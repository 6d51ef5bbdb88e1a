import Derived.Test.YtldedhfbpongmaaDoorNodPc
import Derived.Deep.AppendLies
import Derived.Deep.RegionLaw
import Derived.IntWalk
set_option maxRecDepth 100000
namespace Go.Proofs.YtldedhfbpongmaaDoor
open Go.Instr Go.RowKit NodT
set_option linter.unusedVariables false
theorem row_frozen {w : World} {lo size n c g : Nat} {T : TypeId} {xs : List Value} (h : w.ownsRow lo T size (.slice (some ⟨g, 0, none⟩) n c) n xs) (j : Nat) : w.frozen? ⟨g, j, none⟩ = false := by
  rcases h.2 with ⟨e0, _⟩ | ⟨g', cap, cur, e0, hb, hg, hn, hm, hs, ht⟩
  · cases e0
  · cases e0
    simp [World.frozen?, hg]
theorem same_block {w w' : World} {b : Nat} (h : w'.heap[b]? = w.heap[b]?) (o : Nat) : w'.cell? ⟨b, o, none⟩ = w.cell? ⟨b, o, none⟩ ∧ w'.frozen? ⟨b, o, none⟩ = w.frozen? ⟨b, o, none⟩ := by
  refine ⟨World.cell?_of_block h, ?_⟩
  simp [World.frozen?, h]
theorem blk_put {w : World} {b g o : Nat} {x : Nd} {v0 v1 v2 v3 v4 : Value} (h : Blk5 w b v0 v1 v2 v3 v4) (hb : b ≠ g) : Blk5 (putN w g o x) b v0 v1 v2 v3 v4 := by
  have e := fun j => same_block (putYtldedhfbpongmaaDoorheap w g o x b hb) j
  cases h
  constructor <;> first | (rw [(e _).1]; assumption) | (rw [(e _).2]; assumption)
def MovedPost (t : Nd) (b : Int) (lo : Nat) (w : World) (e : Ending) (w' : World) : Prop := e = .returned (Ez.mv b t).val ∧ Own w' 25 lo (Ez.mv b t) ∧ Moves (blks t) w w'
def MovedOf (t : Nd) : Prop := ∀ (b : Int) (w : World) (lo : Nat), Own w 25 lo t → (blks t).Nodup → 0 ≤ b → b + (many t : Int) ≤ 10000000 → Calls Tryd.prog 6 #[t.val, .int .i64 b] w (MovedPost t b lo w)
set_option maxHeartbeats 1000000 in
theorem moved_any : ∀ t, MovedOf t := by
  refine Nd.rose fun t ih => ?_
  intro b w lo h hn hb hm
  have hfit := h.fits
  have l1 := hfit.len
  have l2 := hfit.cap
  unfold maxLen at l2
  have hme := many_eq t
  have hll := length_le_manyL t.kids
  have hp := hfit.place
  have HF := Lib.hid hfit
  have HO := Lib.hid h
  have HN := Lib.hid hn
  have HIH := Lib.hid ih
  clear ih h hn hfit
  unfold Nd.val Nd.row
  go_enter Tryd.func6, Tryd.ntmps6
  go_wp2_with fail
  have hb0 : Below w.heap.size w ((w.alloc (.cells #[.int .u8 t.kind, .string t.text, .int .i64 t.num, .int .i64 (max t.place 0 % 1000 + b), .slice t.addr t.kids.length t.cap] 25)).alloc (.cells #[.int .u8 0, .string ⟨#[]⟩, .int .i64 0, .int .i64 0, .slice none 0 0] 25)) := ((Below.refl _ _).alloc (Nat.le_refl _) _).alloc (by simp) _
  obtain ⟨q1, q2, _, _⟩ := two_boxes (w := w) (T := 25) (T' := 25) (a0 := .int .u8 t.kind) (a1 := .string t.text) (a2 := .int .i64 t.num) (a3 := .int .i64 (max t.place 0 % 1000 + b)) (a4 := .slice t.addr t.kids.length t.cap) (b0 := .int .u8 0) (b1 := .string ⟨#[]⟩) (b2 := .int .i64 0) (b3 := .int .i64 0) (b4 := .slice none 0 0) (Below.refl _ _)
  have hmv0 := MV.start (b + 1) HO.out (Moves.of_below hb0) (fun x hx => hb0.block x (HO.out.lt x hx).2)
  go_loopg [5] t.kids.length (fun g i wr => ∃ k : Nat, k ≤ t.kids.length ∧ g = t.kids.length - k ∧ i = .int .i64 k ∧ MV 25 t (b + 1) lo w k wr ∧ w.heap.size + 2 ≤ wr.heap.size ∧ Blk5 wr w.heap.size (.int .u8 t.kind) (.string t.text) (.int .i64 t.num) (.int .i64 (max t.place 0 % 1000 + b)) (.slice t.addr t.kids.length t.cap) ∧ zb wr (w.heap.size + 1))
  case atStart => exact ⟨0, by omega, rfl, rfl, hmv0, by simp, q1, q2⟩
  case round =>
    clear hmv0 hb0 q1 q2
    obtain ⟨k, hk, hgk, rfl, hX, hsz, hB1, hB2⟩ := hrel
    have HGK := Lib.hid hgk
    have HB1 := Lib.hid hB1
    have HB2 := Lib.hid hB2
    obtain ⟨c0, c1, c2, c3, c4, f0, f1, f2, f3, f4⟩ := hB1
    clear hgk hB2
    by_cases hlt : k < t.kids.length
    · obtain ⟨u, hu⟩ : ∃ u, t.kids[k]? = some u := ⟨_, List.getElem?_eq_getElem hlt⟩
      have hkk := mvK_at (b + 1) t.kids k u hu
      obtain ⟨g, o, hg, hgl, hcs⟩ := lies_of_own hX.own (by rw [mvK_length]; omega)
      have ho0 : o = 0 := by
        rcases hX.own.2 with ⟨h0, _⟩ | ⟨g', cap, cur, h0, _⟩
        · rw [hg] at h0; cases h0
        · rw [hg] at h0; injection h0 with h0 _ _; injection h0 with h0; injection h0
      subst ho0
      have hc := hcs k u hkk
      have k0 := hc 0 _ rfl
      have k1 := hc 1 _ rfl
      have k2 := hc 2 _ rfl
      have k3 := hc 3 _ rfl
      have k4 := hc 4 _ rfl
      simp only [Nat.zero_add, Nat.add_zero] at k0 k1 k2 k3 k4
      have hum := List.mem_of_getElem? hu
      have hmu := manyL_mem hum
      have ub := (hX.each k u hkk)
      have hap := HN.out
      rw [blks_eq] at hap
      have hnu := nodup_kid (List.nodup_append.1 hap).2.1 hum
      have hgt : g < w.heap.size := (HO.out.lt g (by rw [blks_eq, hg]; simp)).2
      have hut : ∀ x ∈ blks u, x < w.heap.size := fun x hx => (HO.out.lt x (by rw [blks_eq]; exact List.mem_append_right _ (blksL_mem.2 ⟨u, hum, hx⟩))).2
      have hgu : g ∉ blks u := fun e => by
        rw [hg] at hap
        exact (List.nodup_append.1 hap).2.2 g (by simp) g (blksL_mem.2 ⟨u, hum, e⟩) rfl
      obtain ⟨u', hu'⟩ : ∃ u', u' = Ez.mv (b + 1) u := ⟨_, rfl⟩
      have HC : Hid (Calls Tryd.prog 6 #[u.val, .int .i64 (b + 1)] wr.drew fun e w' => e = .returned (.agg #[.int .u8 u'.kind, .string u'.text, .int .i64 u'.num, .int .i64 u'.place, .slice u'.addr u'.kids.length u'.cap]) ∧ Own w' 25 lo u' ∧ Moves (blks u) wr w') := by
        refine (HIH.out u hum (b + 1) wr.drew lo (ub.keep fun _ _ => rfl) hnu (by omega) (by omega)).mono ?_
        rintro e w2 ⟨rfl, h1, h2⟩
        exact ⟨by rw [hu']; rfl, by rw [hu']; exact h1, h2.undrew⟩
      have HU2 := Lib.hid hu'
      clear hu' 
      have HG := Lib.hid hg
      have HU := Lib.hid hu
      have HX := Lib.hid hX
      have zf := fun j => row_frozen (by have := hX.own; rw [hg] at this; exact this) j
      have y0 := zf (k * 5)
      have y1 := zf (k * 5 + 1)
      have y2 := zf (k * 5 + 2)
      have y3 := zf (k * 5 + 3)
      have y4 := zf (k * 5 + 4)
      have KF : Hid (∀ w2 : World, Moves (blks u) wr w2 → Blk5 w2 w.heap.size (.int .u8 t.kind) (.string t.text) (.int .i64 t.num) (.int .i64 (max t.place 0 % 1000 + b)) (.slice (some ⟨g, 0, none⟩) t.kids.length t.cap) ∧ zb w2 (w.heap.size + 1) ∧ (∀ j, w2.cell? ⟨g, j, none⟩ = wr.cell? ⟨g, j, none⟩ ∧ w2.frozen? ⟨g, j, none⟩ = wr.frozen? ⟨g, j, none⟩)) := by
        intro w2 ht
        have e1 := ht.block w.heap.size (by omega) fun e => by have := hut _ e; omega
        have e2 := ht.block (w.heap.size + 1) (by omega) fun e => by have := hut _ e; omega
        have e3 := ht.block g (by omega) hgu
        refine ⟨?_, ?_, fun j => same_block e3 j⟩
        · have hb := HB1.out
          rw [hg] at hb
          cases hb
          constructor <;> first | (rw [(same_block e1 _).1]; assumption) | (rw [(same_block e1 _).2]; assumption)
        · have hb := HB2.out
          unfold zb at hb ⊢
          cases hb
          constructor <;> first | (rw [(same_block e2 _).1]; assumption) | (rw [(same_block e2 _).2]; assumption)
      clear zf
      have HUT := Lib.hid hut
      have HGU := Lib.hid hgu
      have HCS := Lib.hid hcs
      clear hkk hc hcs hum ub hap hnu hut hgu hX hu
      rw [hg] at c4
      rw [hg]
      go_upto_region 5 with fail
      have hi0 : (0 : Int) ≤ (k : Int) := by omega
      have hi1 : (k : Int) < (t.kids.length : Int) := by omega
      have hi2 : IntKind.i64.wrap (b + 1) = b + 1 := IntWalk.i64_in _ (by omega)
      go_region_law (first
        | (go_simp; go_at_call 6; refine HC.out.mono ?_; rintro e w2 ⟨rfl, ho, ht⟩
           obtain ⟨p1, p2, p3⟩ := KF.out w2 ht
           obtain ⟨d0, d1, d2, d3, d4, m0, m1, m2, m3, m4⟩ := p1
           have z0 := (p3 (k * 5)).2.trans y0
           have z1 := (p3 (k * 5 + 1)).2.trans y1
           have z2 := (p3 (k * 5 + 2)).2.trans y2
           have z3 := (p3 (k * 5 + 3)).2.trans y3
           have z4 := (p3 (k * 5 + 4)).2.trans y4
           have r0 := (p3 (k * 5)).1.trans k0
           have r1 := (p3 (k * 5 + 1)).1.trans k1
           have r2 := (p3 (k * 5 + 2)).1.trans k2
           have r3 := (p3 (k * 5 + 3)).1.trans k3
           have r4 := (p3 (k * 5 + 4)).1.trans k4
           have HO2 := Lib.hid ho
           have HT2 := Lib.hid ht
           clear ho ht p2 p3))
      all_goals
        have hnew := HX.out.step HN.out HU.out HG.out (fun x hx => (HO.out.lt x hx).2) (HU2.out ▸ HO2.out) HT2.out
        rw [← HU2.out] at hnew
        obtain ⟨p1, p2, _⟩ := KF.out _ HT2.out
        have p1' := blk_put (g := g) (o := k * 5) (x := u') p1 (by omega)
        have p2' : zb (putN _ g (k * 5) u') (w.heap.size + 1) := blk_put p2 (by omega)
        have hs' := HT2.out.size
        clear p1 p2
        go_wp2_with fail
        rw [← HG.out] at p1' ⊢
        go_roundg (t.kids.length - (k + 1))
        case rel => exact ⟨k + 1, by omega, rfl, by go_num, hnew, by show _ ≤ (putN _ g (k * 5) u').heap.size; rw [putYtldedhfbpongmaaDoorsize]; omega, p1', p2'⟩
        case measure => rw [HGK.out]; omega
    · have hkl : k = t.kids.length := by omega
      rw [hkl] at hX
      obtain ⟨d0, d1, d2, d3, d4, g0, g1, g2, g3, g4⟩ := HB2.out
      have HX := Lib.hid hX
      clear hX
      go_wp2_with fail
      refine bodyPost_ret (v := (Ez.mv b t).val) (by rw [Ez.mv_eq, val_mk]; simp [results, Tryd.results6, go_sem, d0, d1, d2, d3, d4]) rfl ?_
      have hf := HF.out
      have hlt : ∀ x ∈ blks t, x ≠ w.heap.size + 1 := fun x hx => by have := (HO.out.lt x hx).2; omega
      generalize hv0 : Value.int IntKind.u8 (t.kind : Int) = v0
      generalize hv1 : Value.string t.text = v1
      generalize hv2 : Value.int IntKind.i64 t.num = v2
      generalize hv3 : Value.int IntKind.i64 (max t.place 0 % 1000 + b) = v3
      generalize hv4 : Value.slice t.addr t.kids.length t.cap = v4
      show MovedPost t b lo w _ (put5 wr (w.heap.size + 1) v0 v1 v2 v3 v4)
      have hp5 : ∀ x, x ≠ w.heap.size + 1 → (put5 wr (w.heap.size + 1) v0 v1 v2 v3 v4).heap[x]? = wr.heap[x]? := fun x hx => by
        unfold put5
        rw [Below.heap_setCell _ _ _ _ (by show x ≠ w.heap.size + 1; exact hx), Below.heap_setCell _ _ _ _ (by show x ≠ w.heap.size + 1; exact hx), Below.heap_setCell _ _ _ _ (by show x ≠ w.heap.size + 1; exact hx), Below.heap_setCell _ _ _ _ (by show x ≠ w.heap.size + 1; exact hx), Below.heap_setCell _ _ _ _ (by show x ≠ w.heap.size + 1; exact hx)]
      obtain ⟨o1, o2, o3⟩ := HX.out
      rw [mvK_all] at o1 o2
      refine ⟨rfl, ?_, ?_⟩
      · refine Own.keep (w := wr) ?_ fun x hx => hp5 x (hlt x (by rw [blks_mv] at hx; exact hx))
        rw [Ez.mv_eq]
        have hle : (t.kids.map (Ez.mv (b + 1))).length = t.kids.length := by simp
        refine .mk _ ⟨hf.kind, hf.text, hf.num, by show -9223372036854775808 ≤ max t.place 0 % 1000 + b ∧ max t.place 0 % 1000 + b ≤ 9223372036854775807; omega, by show (t.kids.map (Ez.mv (b + 1))).length ≤ t.cap; rw [hle]; exact hf.len, hf.cap, fun h => by have := hf.nil h; exact ⟨hle.trans this.1, this.2⟩⟩ ?_ fun u hu => by obtain ⟨i, hi⟩ := List.getElem?_of_mem hu; exact o2 i u hi
        show wr.ownsRow lo 25 5 (.slice t.addr (t.kids.map (Ez.mv (b + 1))).length t.cap) (t.kids.map (Ez.mv (b + 1))).length (cells (t.kids.map (Ez.mv (b + 1))))
        rw [hle]
        exact o1
      · unfold put5
        have hq : w.heap.size ≤ w.heap.size + 1 := by omega
        exact ((((o3.setCell (.inr hq) _).setCell (.inr hq) _).setCell (.inr hq) _).setCell (.inr hq) _).setCell (.inr hq) _
end Go.Proofs.YtldedhfbpongmaaDoor
