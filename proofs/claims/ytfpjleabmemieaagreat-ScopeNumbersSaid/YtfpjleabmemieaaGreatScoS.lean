/- apart: one type's elements copied; what is to be done behind. -/
import Derived.Test.YtfpjleabmemieaaGreatScoR
set_option maxRecDepth 100000
namespace ScoT
open Go Go.RowKit
set_option linter.unusedVariables false
/-- What is to be done: a type at a spot; a row whose elements are done. -/
def todoC (b o : Nat) : List Value := [.pointer (some ⟨b, o, none⟩), .pointer none, .int .i64 0]
def doneC (q : Nat × Nat × Nat) : List Value := [.pointer none, .pointer (some ⟨q.1, q.2.1, none⟩), .int .i64 (q.2.2 : Int)]
/-- .. of a row's elements, k of them. -/
def todos (g : Nat) : Nat → List Value
  | 0 => []
  | k + 1 => todos g k ++ todoC g (k * 3)
theorem put_cell (W : World) (l : Nat) (o : Obj) {p : Addr} (h : p.block ≠ l) : (W.putObj l o).cell? p = W.cell? p := World.cell?_of_block (World.putObj_heap_other h)
theorem own_task (V : World) (q : Nat × Nat × Nat) {T : TypeId} : (V.alloc (.cells #[.pointer none, .pointer (some ⟨q.1, q.2.1, none⟩), .int .i64 (q.2.2 : Int)] T)).ownsRow V.heap.size T 3 (.slice (some ⟨V.heap.size, 0, none⟩) 1 1) 1 (doneC q) :=
  ⟨rfl, .inr ⟨V.heap.size, 1, _, rfl, Nat.le_refl _, heap_alloc_new _ _, Nat.le_refl _, by decide, rfl, rfl⟩⟩
theorem plain_set {w : World} {b : Nat} (h : Plain w b) (g i : Nat) (u : Value) : Plain (w.setCell ⟨g, i, none⟩ u) b := by
  obtain ⟨c, t, h⟩ := h
  by_cases e : b = g
  · subst e; exact ⟨_, t, set_obj h u⟩
  · exact ⟨c, t, (set_heap _ _ _ _ _ e).trans h⟩
theorem shp_set {TY : TypeId} {w : World} {b n : Nat} (h : Shp TY w b n) (g i : Nat) (u : Value) : Shp TY (w.setCell ⟨g, i, none⟩ u) b n := by
  obtain ⟨c, h, hs⟩ := h
  by_cases e : b = g
  · subst e; exact ⟨_, set_obj h u, by simpa using hs⟩
  · exact ⟨c, (set_heap _ _ _ _ _ e).trans h, hs⟩
theorem row_shp {w : World} {TY : TypeId} {lo size g n c : Nat} {xs : List Value} (h : w.ownsRow lo TY size (.slice (some ⟨g, 0, none⟩) n c) n xs) : Shp TY w g (c * size) := by
  rcases h.2 with ⟨h0, _⟩ | ⟨g', cap', cur, hv, _, hh, _, _, hs, _⟩
  · cases h0
  · cases hv; exact ⟨cur, hh, hs⟩
theorem alloc_below' (w : World) (o : Obj) : Below w.heap.size w (w.alloc o) := (Below.refl _ _).alloc (Nat.le_refl _) _
theorem todos_length (g k : Nat) : (todos g k).length = k * 3 := by
  induction k with
  | zero => rfl
  | succ k ih => simp only [todos, List.length_append, ih, todoC, List.length_cons, List.length_nil]; omega
end ScoT
namespace Go.Proofs.YtfpjleabmemieaaGreat
open Go.Instr Go.RowKit ScoT
set_option linter.unusedVariables false
theorem Tryz.infoTask : (Tryz.prog.info? 155).map (fun i => (i.zero, i.size, i.bytes)) = some (some (.agg #[.pointer none, .pointer none, .int .i64 0]), 3, 24) := by kernel_rfl
/-- What apart leaves. -/
structure ApartPost (w : World) (b o m : Nat) (t : Ty) (rb ro : Nat) (ks : List (Nat × Nat × Nat)) (e : Ending) (w' : World) : Prop where
  ex : ∃ (v : Value) (g c' : Nat) (es' : Array MapEntry) (cl : Nat), e = .returned v ∧ w'.ownsRow w.heap.size 155 3 v (t.els.length + 1) (doneC (rb, ro, t.els.length) ++ todos g t.els.length) ∧
    w'.heap[m]? = some (.map es' cl) ∧ KeysAre es'.toList (ks ++ [(rb, ro, t.els.length)]) ∧
    w'.cell? ⟨b, o + 1, none⟩ = some (.string t.name) ∧ w'.cell? ⟨b, o + 2, none⟩ = some (.slice (some ⟨g, 0, none⟩) t.els.length c') ∧
    w.heap.size ≤ g ∧ g < w'.heap.size ∧ Shp 26 w' g (c' * 3) ∧ t.els.length ≤ c' ∧ c' ≤ maxLen ∧ (∀ (i : Nat) (u : Ty), t.els[i]? = some u → CsAt w' (g, i * 3) u.cs) ∧ (∀ x, w'.frozen? ⟨g, x, none⟩ = false)
  size : w.heap.size ≤ w'.heap.size
  calm : w'.os = w.os ∧ w'.tape = w.tape ∧ w'.output = w.output
  out : ∀ k, k < w.heap.size → k ≠ m → k ≠ b → w'.heap[k]? = w.heap[k]?
  cell : ∀ x, x ≠ o + 1 → x ≠ o + 2 → w'.cell? ⟨b, x, none⟩ = w.cell? ⟨b, x, none⟩
  frozen : ∀ x, w'.frozen? ⟨b, x, none⟩ = w.frozen? ⟨b, x, none⟩
  plain : Plain w b → Plain w' b
  shp : ∀ n, Shp 26 w b n → Shp 26 w' b n
set_option maxHeartbeats 4000000 in
theorem apart_any (b o m : Nat) (t : Ty) (rb ro : Nat) (S : Nat → Prop) (w : World) (es : Array MapEntry) (cl : Nat) (ks : List (Nat × Nat × Nat)) (h0 : w.cell? ⟨b, o, none⟩ = some (.int .u8 t.kind)) (h1 : w.cell? ⟨b, o + 1, none⟩ = some (.string t.name)) (h2 : w.cell? ⟨b, o + 2, none⟩ = some (.slice (some ⟨rb, ro, none⟩) t.els.length t.cap)) (hf : ∀ x, w.frozen? ⟨b, o + x, none⟩ = false)
    (hin : In w S t) (ha : t.addr = some ⟨rb, ro, none⟩) (hS : ∀ k, S k → k < w.heap.size ∧ k ≠ b ∧ k ≠ m) (hn : 0 < t.els.length) (hl : t.els.length ≤ 1000000)
    (hmb : m ≠ b) (hrb : rb < w.heap.size ∧ rb ≠ b ∧ rb ≠ m) (hm : w.heap[m]? = some (.map es cl)) (hk : KeysAre es.toList ks) (hp : ∀ k ∈ ks, Plain w k.1 ∧ k.1 ≠ b ∧ k.1 < w.heap.size) (hr : Plain w rb) (hq : (rb, ro, t.els.length) ∉ ks) :
    Calls Tryz.prog 85 #[.pointer (some ⟨b, o, none⟩), .map (some m)] w (ApartPost w b o m t rb ro ks) := by
  have hbl := World.block_lt_of_cell? _ _ h0
  have HL := Lib.hid (And.intro hn hl)
  have HIN := Lib.hid (And.intro hin (And.intro ha hS))
  have HMB := Lib.hid (And.intro hmb hrb)
  have HM := Lib.hid (And.intro hm (And.intro hk (And.intro hp (And.intro hr hq))))
  have H := Lib.hid (And.intro h0 (And.intro h1 (And.intro h2 hf)))
  have k1 : (0 : Int) < (t.els.length : Int) := by omega
  have k0 : 0 < t.els.length := hn
  have k2 : ((t.els.length : Int) == 0) = false := by rw [← Bool.not_eq_true]; simp; intro e; rw [e] at hn; simp at hn
  clear h0 h2 hf hin ha hS hn hl hm hk hp hr hq hmb hrb
  go_enter Tryz.func85, Tryz.ntmps85
  go_wp2_with (go_at_call 50; refine (Clone_any t.name _ HIN.out.1.fits.name).mono ?_; rintro e w1 ⟨rfl, hb1⟩
               have d1 : w1.cell? ⟨b, o + 1, none⟩ = some (.string t.name) := (hb1.cell (p := ⟨b, o + 1, none⟩) hbl).trans H.out.2.1
               have d2 : w1.cell? ⟨b, o + 2, none⟩ = some (.slice (some ⟨rb, ro, none⟩) t.els.length t.cap) := (hb1.cell (p := ⟨b, o + 2, none⟩) hbl).trans H.out.2.2.1
               have df : ∀ x, w1.frozen? ⟨b, o + x, none⟩ = false := fun x => (hb1.frozen (p := ⟨b, o + x, none⟩) hbl).trans (H.out.2.2.2 x)
               have f1 := df 1
               have f2 := df 2
               have HB1 := Lib.hid hb1; clear hb1)
  have hb1 := Lib.hid HB1.out.size
  obtain ⟨X, hX⟩ : ∃ X, X = w1.setCell ⟨b, o + 1, none⟩ (.string t.name) := ⟨_, rfl⟩
  have m2 : X.cell? ⟨b, o + 2, none⟩ = some (.slice (some ⟨rb, ro, none⟩) t.els.length t.cap) := by rw [hX, World.cell?_setCell_other _ _ _ _ (fun e => by injection e with _ e _; omega)]; exact d2
  have mf : X.frozen? ⟨b, o + 2, none⟩ = false := by rw [hX, World.frozen?_setCell]; exact f2
  have hbx : b < X.heap.size := World.block_lt_of_cell? _ _ m2
  rw [← hX]
  have HX := Lib.hid hX
  clear hX d1 d2 df f1 f2 h1
  go_region_held3 (fun V => V.cell? ⟨b, o + 2, none⟩ = some (.slice (some ⟨rb, ro, none⟩) t.els.length t.cap)) (first | exact m2 | (rw [World.cell?_alloc_lt _ _ _ (show b < X.drew.heap.size from hbx)]; exact m2) | go_keep) (first | fail)
  all_goals
    obtain ⟨Y, hY⟩ : ∃ Y, Y = (X.alloc (.cells #[.pointer (some ⟨rb, ro, none⟩), .int .i64 (t.els.length : Int)] 153)).drew := ⟨_, rfl⟩
    rw [← hY]
    have hYX : Below X.heap.size X Y := by rw [hY]; exact (alloc_below' X _).drew
    have yb := World.alloc_heap_new X (.cells #[.pointer (some ⟨rb, ro, none⟩), .int .i64 (t.els.length : Int)] 153)
    have y0 : Y.cell? ⟨X.heap.size, 0, none⟩ = some (.pointer (some ⟨rb, ro, none⟩)) := by rw [hY]; show World.cell? (X.alloc _) _ = _; unfold World.cell?; rw [yb]; rfl
    have y1 : Y.cell? ⟨X.heap.size, 1, none⟩ = some (.int .i64 (t.els.length : Int)) := by rw [hY]; show World.cell? (X.alloc _) _ = _; unfold World.cell?; rw [yb]; rfl
    have y2 : Y.cell? ⟨b, o + 2, none⟩ = some (.slice (some ⟨rb, ro, none⟩) t.els.length t.cap) := (hYX.cell (p := ⟨b, o + 2, none⟩) hbx).trans m2
    have hxw : X.heap.size = w1.heap.size := by rw [HX.out, set_size]
    have hold : ∀ k, k < w.heap.size → k ≠ b → Y.heap[k]? = w.heap[k]? := fun k hk hne => by
      rw [hYX.block k (by have := hb1.out; omega), HX.out, set_heap _ _ _ _ _ hne, HB1.out.block k hk]
    have hmlt : m < w.heap.size := (Array.getElem?_eq_some_iff.1 HM.out.1).1
    have hmY : Y.heap[m]? = some (.map es cl) := (hold m hmlt HMB.out.1).trans HM.out.1
    have hrY : Plain Y rb := HM.out.2.2.2.1.keep (hold rb HMB.out.2.1 HMB.out.2.2.1)
    have hpY : ∀ k ∈ ks, Plain Y k.1 := fun k hk => (HM.out.2.2.1 k hk).1.keep (hold k.1 (HM.out.2.2.1 k hk).2.2 (HM.out.2.2.1 k hk).2.1)
    have hlk : (lookup 150 (.map (some m)) (.agg #[.pointer (some ⟨rb, ro, none⟩), .int .i64 (t.els.length : Int)]) true).run Tryz.prog Y = .ok (.tuple #[.slice none 0 0, .bool false]) Y :=
      run_lookup_row Tryz.rowTy 150 24 Tryz.underlying150 Y m es cl (rb, ro, t.els.length) (.slice none 0 0) ks hmY (Tryz.zeroValue24 _) hrY HM.out.2.1 hpY HM.out.2.2.2.2
    have hlies : Lies Y S (some ⟨rb, ro, none⟩) t.els := by
      have := HIN.out.1.rows
      rw [HIN.out.2.1] at this
      exact this.keep (fun _ hb => hb) (fun p hp => World.cell?_of_block (hold p.block (HIN.out.2.2 _ hp).1 (HIN.out.2.2 _ hp).2.1))
    have HSC := Lib.hid (slClone_any t.els rb ro t.cap Y S hlies HL.out.1 HL.out.2)
    have yf : Y.frozen? ⟨b, o + 2, none⟩ = false := (hYX.frozen (p := ⟨b, o + 2, none⟩) hbx).trans mf
    have hbY : b < Y.heap.size := World.block_lt_of_cell? _ _ y2
    have HY := Lib.hid (And.intro hYX (And.intro hold (And.intro hmY (And.intro hrY hpY))))
    have HXW := Lib.hid hxw
    clear hY hYX yb hold hmY hrY hpY hlies hxw
    go_wp2_with (go_at_call 130; refine HSC.out.mono ?_; rintro e w5 ⟨g, c', rfl, ho5, hb5⟩
                 have z2 : w5.cell? ⟨b, o + 2, none⟩ = some (.slice (some ⟨rb, ro, none⟩) t.els.length t.cap) := (hb5.cell (p := ⟨b, o + 2, none⟩) hbY).trans y2
                 have zf : w5.frozen? ⟨b, o + 2, none⟩ = false := (hb5.frozen (p := ⟨b, o + 2, none⟩) hbY).trans yf
                 have hX5 : X.heap.size < w5.heap.size := Nat.lt_of_lt_of_le (World.block_lt_of_cell? _ _ y0) hb5.size
                 have z0 : w5.cell? ⟨X.heap.size, 0, none⟩ = some (.pointer (some ⟨rb, ro, none⟩)) := (hb5.cell (World.block_lt_of_cell? _ _ y0)).trans y0
                 have z1 : w5.cell? ⟨X.heap.size, 1, none⟩ = some (.int .i64 (t.els.length : Int)) := (hb5.cell (World.block_lt_of_cell? _ _ y1)).trans y1
                 have H5 := Lib.hid (And.intro ho5 hb5); clear ho5 hb5)
    obtain ⟨Z, hZ⟩ : ∃ Z, Z = w5.setCell ⟨b, o + 2, none⟩ (.slice (some ⟨g, 0, none⟩) t.els.length c') := ⟨_, rfl⟩
    rw [← hZ]
    have hbX : ¬ X.heap.size = b := by omega
    have e0 : Z.cell? ⟨X.heap.size, 0, none⟩ = some (.pointer (some ⟨rb, ro, none⟩)) := by rw [hZ]; exact (World.cell?_of_block (a := ⟨X.heap.size, 0, none⟩) (set_heap _ _ _ _ _ hbX)).trans z0
    have e1 : Z.cell? ⟨X.heap.size, 1, none⟩ = some (.int .i64 (t.els.length : Int)) := by rw [hZ]; exact (World.cell?_of_block (a := ⟨X.heap.size, 1, none⟩) (set_heap _ _ _ _ _ hbX)).trans z1
    have e2 : Z.cell? ⟨b, o + 2, none⟩ = some (.slice (some ⟨g, 0, none⟩) t.els.length c') := by rw [hZ]; exact World.cell?_setCell_same' _ _ _ (by rw [z2]; rfl)
    have hmX : m ≠ X.heap.size := by have := HXW.out; have := hb1.out; omega
    have hZold : ∀ k, k < w.heap.size → k ≠ b → Z.heap[k]? = w.heap[k]? := fun k hk hne => by
      rw [hZ, set_heap _ _ _ _ _ hne, H5.out.2.block k (by have := HY.out.1.size; have := HXW.out; have := hb1.out; omega)]
      exact HY.out.2.1 k hk hne
    have hup : (mapUpdate 150 (.map (some m)) (.agg #[.pointer (some ⟨rb, ro, none⟩), .int .i64 (t.els.length : Int)]) (.slice (some ⟨g, 0, none⟩) t.els.length c')).run Tryz.prog Z.drew = .ok () (Z.drew.putObj m (.map (es.push { key := keyV (rb, ro, t.els.length), val := .slice (some ⟨g, 0, none⟩) t.els.length c', born := cl }) (cl + 1))) :=
      run_update_row Tryz.rowTy 150 24 Tryz.underlying150 Z.drew m es cl (rb, ro, t.els.length) _ ks ((hZold m hmlt HMB.out.1).trans HM.out.1) (HM.out.2.2.2.1.keep (hZold rb HMB.out.2.1 HMB.out.2.2.1)) HM.out.2.1 (fun k hk => (HM.out.2.2.1 k hk).1.keep (hZold k.1 (HM.out.2.2.1 k hk).2.2 (HM.out.2.2.1 k hk).2.1)) HM.out.2.2.2.2
    have zsz : Z.heap.size = w5.heap.size := by rw [hZ, set_size]
    have HZ := Lib.hid (And.intro hZ (And.intro hZold zsz))
    clear hZ hZold zsz z0 z1 z2 zf y0 y1 y2 yf hlk m2 mf
    have q0 := fun o' => (put_cell Z.drew m o' (p := ⟨X.heap.size, 0, none⟩) (fun e => hmX e.symm)).trans e0
    have q1 := fun o' => (put_cell Z.drew m o' (p := ⟨X.heap.size, 1, none⟩) (fun e => hmX e.symm)).trans e1
    have q2 := fun o' => (put_cell Z.drew m o' (p := ⟨b, o + 2, none⟩) (fun e => HMB.out.1 e.symm)).trans e2
    go_region_held3 (fun V => V.cell? ⟨X.heap.size, 0, none⟩ = some (.pointer (some ⟨rb, ro, none⟩)) ∧ V.cell? ⟨X.heap.size, 1, none⟩ = some (.int .i64 (t.els.length : Int)) ∧ V.cell? ⟨b, o + 2, none⟩ = some (.slice (some ⟨g, 0, none⟩) t.els.length c'))
      (first | exact ⟨e0, e1, e2⟩ | exact ⟨q0 _, q1 _, q2 _⟩) (first | fail)
    obtain ⟨V, hV⟩ : ∃ V, V = Z.drew.putObj m (.map (es.push { key := keyV (rb, ro, t.els.length), val := .slice (some ⟨g, 0, none⟩) t.els.length c', born := cl }) (cl + 1)) := ⟨_, rfl⟩
    have v0 : V.cell? ⟨X.heap.size, 0, none⟩ = some (.pointer (some ⟨rb, ro, none⟩)) := by rw [hV]; exact q0 _
    have v1 : V.cell? ⟨X.heap.size, 1, none⟩ = some (.int .i64 (t.els.length : Int)) := by rw [hV]; exact q1 _
    have v2 : V.cell? ⟨b, o + 2, none⟩ = some (.slice (some ⟨g, 0, none⟩) t.els.length c') := by rw [hV]; exact q2 _
    rw [← hV]
    have HV := Lib.hid hV
    clear hV q0 q1 q2 e0 e1 e2 hup hmX
    have hbV : b < V.heap.size := World.block_lt_of_cell? _ _ v2
    have v2' : (V.alloc (.cells #[.pointer none, .pointer (some ⟨rb, ro, none⟩), .int .i64 (t.els.length : Int)] 155)).cell? ⟨b, o + 2, none⟩ = some (.slice (some ⟨g, 0, none⟩) t.els.length c') := by rw [World.cell?_alloc_lt _ _ _ (show b < V.heap.size from hbV)]; exact v2
    go_wp2_with fail
    obtain ⟨i1, hi, hz0, hz1, hz2⟩ := info_parts Tryz.infoTask
    have HI := Lib.hid hi
    have HIZ := Lib.hid (And.intro hz0 (And.intro hz1 hz2))
    clear hi hz0 hz1 hz2
    have hle : t.els.length ≤ 1000000 := HL.out.2
    have h8 := own_task V (rb, ro, t.els.length) (T := 155)
    have HO8 := Lib.hid h8
    clear h8
    go_loopg [8, 71] t.els.length (fun gg v i wr => ∃ k : Nat, k ≤ t.els.length ∧ gg = t.els.length - k ∧ i = .int .i64 k ∧ Below V.heap.size V wr ∧ wr.ownsRow V.heap.size 155 3 v (k + 1) (doneC (rb, ro, t.els.length) ++ todos g k))
    case atStart => exact ⟨0, by omega, rfl, rfl, alloc_below' _ _, by simpa [todos] using HO8.out⟩
    case round =>
      obtain ⟨k, hk, hgk, rfl, hbl', hown⟩ := hrel
      have HGK := Lib.hid hgk
      have HBL := Lib.hid hbl'
      have HOW := Lib.hid hown
      clear hgk hbl' hown
      by_cases hlt : k < t.els.length
      · have t1 : decide ((k : Int) < (t.els.length : Int)) = true := decide_eq_true (by omega)
        have x2 : wr.cell? ⟨b, o + 2, none⟩ = some (.slice (some ⟨g, 0, none⟩) t.els.length c') := (HBL.out.cell (p := ⟨b, o + 2, none⟩) hbV).trans v2
        have j0 : (0 : Int) ≤ (k : Int) := by omega
        have j1 : (k : Int) < (t.els.length : Int) := by omega
        go_wp2_with (at_builtin; refine wpList_append_far rfl (.tmp 74) (.tmp 82) 156 rfl V.heap.size 155 i1 _ 3 24 Tryz.underlying156 HI.out HIZ.out.1 HIZ.out.2.1 HIZ.out.2.2 rfl (by decide) _ (k + 1) _ rfl (HOW.out.alloc _) (some ⟨wr.heap.size, 0, none⟩) 1 1 rfl (fun e => by cases e) (todoC g (k * 3)) rfl ?c1 ?c2 ?c3 ?c4 ?c5 ?next)
        case c1 =>
          exact fun j u h => h
        case c2 => intro u hu; simp only [todoC, List.mem_cons, List.not_mem_nil, or_false] at hu; rcases hu with rfl | rfl | rfl <;> rfl
        case c3 => unfold maxLen; omega
        case c4 => omega
        case c5 => have := HBL.out.size; simp; omega
        case next =>
          intro v' w9 ho hg hf
          have HO9 := Lib.hid (And.intro ho hg)
          clear ho hg hf
          go_wp2_with fail
          go_roundg (t.els.length - (k + 1))
          case rel =>
            refine ⟨k + 1, by omega, rfl, by go_num, ?_, ?_⟩
            · exact (HBL.out.alloc HBL.out.size _).grown HO9.out.2 (by have := HBL.out.size; simp; omega) (fun x hx => (HOW.out.lt x hx).1)
            · have := HO9.out.1
              simpa [todos, List.append_assoc] using this
          case measure => rw [HGK.out]; omega
      · have t1 : decide ((k : Int) < (t.els.length : Int)) = false := decide_eq_false (by omega)
        obtain rfl : k = t.els.length := by omega
        go_wp2_with fail
        go_ret
        have hVZ : ∀ x, x ≠ m → V.heap[x]? = Z.heap[x]? := fun x hx => by rw [HV.out]; exact World.putObj_heap_other hx
        have hVs : V.heap.size = Z.heap.size := by rw [HV.out, World.putObj_size]; rfl
        have s1 := HXW.out
        have s2 := hb1.out
        have s3 := HY.out.1.size
        have s4 := H5.out.2.size
        have s5 := HZ.out.2.2
        have s6 := HBL.out.size
        obtain ⟨gp, gl, gs⟩ := row_plain H5.out.1
        have gm : g ≠ m := by omega
        have gb : g ≠ b := by omega
        have gV : V.heap[g]? = w5.heap[g]? := by rw [hVZ g gm, HZ.out.1, set_heap _ _ _ _ _ gb]
        have gW : wr.heap[g]? = w5.heap[g]? := by rw [HBL.out.block g (by omega), gV]
        have bV : ∀ o', V.cell? ⟨b, o', none⟩ = Z.cell? ⟨b, o', none⟩ := fun o' => World.cell?_of_block (a := ⟨b, o', none⟩) (hVZ b (fun e => HMB.out.1 e.symm))
        have bW : ∀ o', wr.cell? ⟨b, o', none⟩ = Z.cell? ⟨b, o', none⟩ := fun o' => (HBL.out.cell (p := ⟨b, o', none⟩) hbV).trans (bV o')
        have bF : ∀ o', wr.frozen? ⟨b, o', none⟩ = w.frozen? ⟨b, o', none⟩ := fun o' => by
          rw [HBL.out.frozen (p := ⟨b, o', none⟩) hbV, World.frozen?_of_block (a := ⟨b, o', none⟩) (hVZ b (fun e => HMB.out.1 e.symm)), HZ.out.1, World.frozen?_setCell, H5.out.2.frozen (p := ⟨b, o', none⟩) (by show b < _; omega), HY.out.1.frozen (p := ⟨b, o', none⟩) hbx, HX.out, World.frozen?_setCell]
          exact HB1.out.frozen (p := ⟨b, o', none⟩) hbl
        have z5 : ∀ o', o' ≠ o + 2 → Z.cell? ⟨b, o', none⟩ = X.cell? ⟨b, o', none⟩ := fun o' ho' => by
          rw [HZ.out.1, World.cell?_setCell_other _ _ _ _ (fun e => ho' (by injection e with _ e _; exact e.symm)), H5.out.2.cell (p := ⟨b, o', none⟩) (by show b < _; omega), HY.out.1.cell (p := ⟨b, o', none⟩) hbx]
        have x1 : X.cell? ⟨b, o + 1, none⟩ = some (.string t.name) := by
          rw [HX.out]; exact World.cell?_setCell_same' _ _ _ (by rw [HB1.out.cell (p := ⟨b, o + 1, none⟩) hbl, H.out.2.1]; rfl)
        have hmV : V.heap[m]? = some (.map (es.push { key := keyV (rb, ro, t.els.length), val := .slice (some ⟨g, 0, none⟩) t.els.length c', born := cl }) (cl + 1)) := by
          rw [HV.out]; exact World.putObj_heap_same (by show m < Z.heap.size; omega)
        refine ⟨⟨_, g, c', _, _, rfl, HOW.out.mono (by omega), (HBL.out.block m (by omega)).trans hmV, keys_push HM.out.2.1, ?_, ?_, by omega, by omega, (row_shp H5.out.1).keep gW, (row_cap H5.out.1).1, (row_cap H5.out.1).2, ?_, ?_⟩, by omega, ?_, ?_, ?_, bF, ?_, ?_⟩
        · rw [bW, z5 _ (by omega)]; exact x1
        · exact (HBL.out.cell (p := ⟨b, o + 2, none⟩) hbV).trans v2
        · intro i u hi j v hv
          exact (World.cell?_of_block (a := ⟨g, i * 3 + j, none⟩) gW).trans (row_cs H5.out.1 i u hi j v hv)
        · intro x
          rw [World.frozen?_of_block (a := ⟨g, x, none⟩) gW]
          exact row_frozen H5.out.1 x
        · have hx := HX.out
          have hz := HZ.out.1
          have hv := HV.out
          subst hv
          subst hz
          subst hx
          exact ⟨HBL.out.os.trans (H5.out.2.os.trans (HY.out.1.os.trans HB1.out.os)), HBL.out.tape.trans (H5.out.2.tape.trans (HY.out.1.tape.trans HB1.out.tape)), HBL.out.output.trans (H5.out.2.output.trans (HY.out.1.output.trans HB1.out.output))⟩
        · intro x hx hxm hxb
          rw [HBL.out.block x (by omega), hVZ x hxm]
          exact HZ.out.2.1 x hx hxb
        · intro x hx1 hx2
          rw [bW, z5 x hx2, HX.out, World.cell?_setCell_other _ _ _ _ (fun e => hx1 (by injection e with _ e _; exact e.symm))]
          exact HB1.out.cell (p := ⟨b, x, none⟩) hbl
        · intro hpl
          have p1 : Plain w1 b := hpl.keep (HB1.out.block b hbl)
          have p2 : Plain X b := by rw [HX.out]; exact plain_set p1 _ _ _
          have p3 : Plain w5 b := p2.keep ((H5.out.2.block b (by omega)).trans (HY.out.1.block b hbx))
          have p4 : Plain Z b := by rw [HZ.out.1]; exact plain_set p3 _ _ _
          exact p4.keep ((HBL.out.block b hbV).trans (hVZ b (fun e => HMB.out.1 e.symm)))
        · intro n hpl
          have p1 : Shp 26 w1 b n := hpl.keep (HB1.out.block b hbl)
          have p2 : Shp 26 X b n := by rw [HX.out]; exact shp_set p1 _ _ _
          have p3 : Shp 26 w5 b n := p2.keep ((H5.out.2.block b (by omega)).trans (HY.out.1.block b hbx))
          have p4 : Shp 26 Z b n := by rw [HZ.out.1]; exact shp_set p3 _ _ _
          exact p4.keep ((HBL.out.block b hbV).trans (hVZ b (fun e => HMB.out.1 e.symm)))
end Go.Proofs.YtfpjleabmemieaaGreat
