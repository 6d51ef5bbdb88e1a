/- copied: a copy of any type. -/
import Derived.Test.YtfpjleabmemieaaGreatScoV
import Derived.Test.YtfpjleabmemieaaGreatScoRd
set_option maxRecDepth 100000
namespace Go.Proofs.YtfpjleabmemieaaGreat
open Go.Instr Go.RowKit ScoT
set_option linter.unusedVariables false
theorem apart_leaf2 (b o m : Nat) (v0 : Value) (s : ByteArray) (A : Option Addr) (c : Nat) (w : World) (h0 : w.cell? ⟨b, o, none⟩ = some v0) (h1 : w.cell? ⟨b, o + 1, none⟩ = some (.string s)) (h2 : w.cell? ⟨b, o + 2, none⟩ = some (.slice A 0 c)) (hf : ∀ x, w.frozen? ⟨b, o + x, none⟩ = false) (hl : s.size ≤ 281474976710656) :
    Calls Tryz.prog 85 #[.pointer (some ⟨b, o, none⟩), .map (some m)] w fun e w' => e = .returned (.slice none 0 0) ∧ w'.cell? ⟨b, o + 1, none⟩ = some (.string s) ∧ w'.cell? ⟨b, o + 2, none⟩ = some (.slice none 0 0) ∧ (∀ x, x ≠ o + 1 → x ≠ o + 2 → w'.cell? ⟨b, x, none⟩ = w.cell? ⟨b, x, none⟩) ∧ (∀ x, w'.frozen? ⟨b, x, none⟩ = w.frozen? ⟨b, x, none⟩) ∧ (Plain w b → Plain w' b) ∧ (∀ n, Shp 26 w b n → Shp 26 w' b n) ∧ w.grownBy w' (some b) := by
  have hb := World.block_lt_of_cell? _ _ h0
  have H := Lib.hid (And.intro h0 (And.intro h1 (And.intro h2 hf)))
  have HL := Lib.hid hl
  clear h2 hl hf h0
  go_enter Tryz.func85, Tryz.ntmps85
  go_wp2_with (go_at_call 50; refine (Clone_any s _ HL.out).mono ?_; rintro e w1 ⟨rfl, hb1⟩
               have d1 : w1.cell? ⟨b, o + 1, none⟩ = some (.string s) := (hb1.cell (p := ⟨b, o + 1, none⟩) hb).trans H.out.2.1
               have d2 : w1.cell? ⟨b, o + 2, none⟩ = some (.slice A 0 c) := (hb1.cell (p := ⟨b, o + 2, none⟩) hb).trans H.out.2.2.1
               have f1 : w1.frozen? ⟨b, o + 1, none⟩ = false := (hb1.frozen (p := ⟨b, o + 1, none⟩) hb).trans (H.out.2.2.2 1)
               have f2 : w1.frozen? ⟨b, o + 2, none⟩ = false := (hb1.frozen (p := ⟨b, o + 2, none⟩) hb).trans (H.out.2.2.2 2)
               have HB1 := Lib.hid hb1; clear hb1)
  go_ret
  refine ⟨rfl, ?_, ?_, fun x hx1 hx2 => ?_, fun x => ?_, fun hpl => ?_, fun n hpl => ?_, ?_⟩
  · rw [World.cell?_setCell_other _ _ _ _ (fun e => by injection e with _ e _; omega)]; exact World.cell?_setCell_same' _ _ _ (by rw [d1]; rfl)
  · exact World.cell?_setCell_same' _ _ _ (by rw [World.cell?_setCell_other _ _ _ _ (fun e => by injection e with _ e _; omega), d2]; rfl)
  · rw [World.cell?_setCell_other _ _ _ _ (fun e => hx2 (by injection e with _ e _; exact e.symm)), World.cell?_setCell_other _ _ _ _ (fun e => hx1 (by injection e with _ e _; exact e.symm))]
    exact HB1.out.cell (p := ⟨b, x, none⟩) hb
  · rw [World.frozen?_setCell, World.frozen?_setCell]; exact HB1.out.frozen (p := ⟨b, x, none⟩) hb
  · exact plain_set (plain_set (hpl.keep (HB1.out.block b hb)) _ _ _) _ _ _
  · exact shp_set (shp_set (hpl.keep (HB1.out.block b hb)) _ _ _) _ _ _
  · obtain ⟨q1, q2, q3, q4, q5⟩ := HB1.out
    refine ⟨q1, q2, q3, by rw [set_size, set_size]; exact q4, fun k hk hne => ?_⟩
    have hkb : k ≠ b := fun e => hne (by rw [e])
    rw [set_heap _ _ _ _ _ hkb, set_heap _ _ _ _ _ hkb]; exact q5 k hk
theorem len_wsum (ts : List Ty) : ts.length ≤ wsum ts := by
  induction ts with
  | nil => exact Nat.le_refl _
  | cons t ts ih => simp only [wsum, List.length_cons]; have := weight_eq t; omega
theorem start_any (t : Ty) (w : World) (S : Nat → Prop) (hin : In w S t) (hS : ∀ b, S b → b < w.heap.size) :
    Cp 155 26 t w S [.spot ((w.heap.size, 0), t)] [((w.heap.size, 0), t)] (w.heap.size + 3) 1 #[] 0 ((((w.alloc (.cells #[.int .u8 t.kind, .string t.name, .slice t.addr t.els.length t.cap] 26)).alloc (.cells #[.int .u8 0, .string ⟨#[]⟩, .slice none 0 0] 26)).alloc (.map #[] 0)).alloc (.cells #[.pointer (some ⟨w.heap.size, 0, none⟩), .pointer none, .int .i64 0] 155)) := by
  obtain ⟨W, hW⟩ : ∃ W, W = ((((w.alloc (.cells #[.int .u8 t.kind, .string t.name, .slice t.addr t.els.length t.cap] 26)).alloc (.cells #[.int .u8 0, .string ⟨#[]⟩, .slice none 0 0] 26)).alloc (.map #[] 0)).alloc (.cells #[.pointer (some ⟨w.heap.size, 0, none⟩), .pointer none, .int .i64 0] 155)) := ⟨_, rfl⟩
  have ha := alloc4 w (.cells #[.int .u8 t.kind, .string t.name, .slice t.addr t.els.length t.cap] 26) (.cells #[.int .u8 0, .string ⟨#[]⟩, .slice none 0 0] 26) (.map #[] 0) (.cells #[.pointer (some ⟨w.heap.size, 0, none⟩), .pointer none, .int .i64 0] 155)
  have ha' : W.heap[w.heap.size + 2]? = some (.map #[] 0) := by
    rw [hW, Below.heap_alloc _ _ _ (by simp)]
    have := World.alloc_heap_new ((w.alloc (.cells #[.int .u8 t.kind, .string t.name, .slice t.addr t.els.length t.cap] 26)).alloc (.cells #[.int .u8 0, .string ⟨#[]⟩, .slice none 0 0] 26)) (.map #[] 0)
    simpa using this
  have hb : Below w.heap.size w W := by rw [hW]; exact ((((Below.refl _ w).alloc (Nat.le_refl _) _).alloc (by simp) _).alloc (by simp; omega) _).alloc (by simp; omega) _
  have hs : W.heap.size = w.heap.size + 4 := by rw [hW]; simp
  rw [← hW] at ha ⊢
  obtain ⟨⟨c0, c1, c2⟩, cf⟩ := cs3_of ha.1
  refine ⟨⟨by simp, by simp [pendOf], by simp [pendOf], fun e he => ?_, fun e he => ?_, fun e he => ?_, fun e he => ?_, fun e he hn => ?_, fun _ => (0, 0), fun e he hn => absurd he (by simpa [pendOf] using hn)⟩, by simp, ?_, fun x hx => ?_, Nat.le_refl _, fun x hx => ?_, ha', rfl, ha.2.1, hb, fun q el hq => by simp at hq, trivial, by simp [work], by simp [keysOf]⟩
  · obtain rfl := List.mem_singleton.1 he
    exact ⟨Nat.le_refl _, by show w.heap.size < _; omega, rfl⟩
  · obtain rfl := List.mem_singleton.1 he
    exact ⟨_, _, ha.1⟩
  · obtain rfl := List.mem_singleton.1 he
    exact hin.keep (fun _ hb => hb) (fun p hp => hb.cell (hS _ hp))
  · simp only [pendOf, List.mem_singleton] at he
    subst he
    refine ⟨fun j v hv => ?_, fun j => cf _⟩
    have hj : j < 3 := (List.getElem?_eq_some_iff.1 hv).1
    match j, hj, hv with
    | 0, _, hv => rw [← hv]; exact c0
    | 1, _, hv => rw [← hv]; exact c1
    | 2, _, hv => rw [← hv]; exact c2
  · simp only [pendOf, List.mem_singleton] at hn
    exact absurd (List.mem_singleton.1 he) hn
  · exact ⟨rfl, .inr ⟨w.heap.size + 3, 1, _, rfl, by omega, ha.2.2, Nat.le_refl _, by decide, rfl, rfl⟩⟩
  · obtain rfl := List.mem_singleton.1 hx
    show w.heap.size ≠ _; omega
  · obtain rfl := List.mem_singleton.1 hx
    exact ⟨by show w.heap.size ≠ _; omega, by show w.heap.size ≠ _; omega⟩
set_option maxHeartbeats 4000000 in
theorem copied_any (t : Ty) (w : World) (S : Nat → Prop) (hin : In w S t) (hS : ∀ b, S b → b < w.heap.size ∧ Plain w b) (hw : weight t ≤ 100000) : Calls Tryz.prog 49 #[t.val] w (Copied t w) := by
  have hc := start_any t w S hin (fun b hb => (hS b hb).1)
  have HC := Lib.hid hc
  have HIN := Lib.hid (And.intro hin hS)
  have HWT := Lib.hid hw
  clear hc hin hS hw
  obtain ⟨i0, hi, hz0, hz1, hz2⟩ := info_parts Tryz.infoTask
  have HI := Lib.hid hi
  have HZ := Lib.hid (And.intro hz0 (And.intro hz1 hz2))
  clear hi hz0 hz1 hz2
  have hmm := @run_makeMap Tryz.prog
  unfold Ty.val Ty.row
  go_enter Tryz.func49, Tryz.ntmps49
  go_wp2_with fail
  clear hmm
  go_loopg [4] (2 * weight t) (fun gg v wr => ∃ stk T gs c es cl, gg = work stk ∧ v = .slice (some ⟨gs, 0, none⟩) stk.length c ∧ Cp 155 26 t w S stk T gs c es cl wr)
  case atStart => exact ⟨_, _, _, _, _, _, by simp [work], rfl, HC.out⟩
  case round =>
    obtain ⟨stk, T, gs, c, es, cl, hg, rfl, hcp⟩ := hrel
    have HCP := Lib.hid hcp
    have HG := Lib.hid hg
    clear hcp hg
    have hlw := len_work stk
    have hwk := HCP.out.wk
    have hwt := HWT.out
    rcases List.eq_nil_or_concat stk with rfl | ⟨r, x, hrx⟩
    · clear hlw hwk hwt
      obtain ⟨par, hwhole⟩ := HCP.out.bg.whole2
      obtain ⟨t', q0, q1, q2, q3, q4⟩ := hwhole t (w.heap.size, 0) HCP.out.root
      have d0 : wr.cell? ⟨w.heap.size, 0, none⟩ = some (.int .u8 t'.kind) := q0 0 _ rfl
      have d1 : wr.cell? ⟨w.heap.size, 1, none⟩ = some (.string t'.name) := q0 1 _ rfl
      have d2 : wr.cell? ⟨w.heap.size, 2, none⟩ = some (.slice t'.addr t'.els.length t'.cap) := q0 2 _ rfl
      obtain ⟨⟨r0, r1, r2⟩, rf⟩ := cs3_of HCP.out.res
      have HQ := Lib.hid (And.intro q1 (And.intro q2 (q3.nd)))
      have HR : Hid (∀ u ∈ subs t', wr.ownsRow w.heap.size 26 3 u.row u.els.length (tcells u.els) ∧ ∀ b, u.row.ownBlock = some b → b ≠ w.heap.size + 1) := Lib.hid fun u hu => ⟨q3.own u hu, fun b hb => by
        obtain ⟨_, y, hy, hyb⟩ := q4 b (mem_rowBs.2 ⟨u, hu, hb⟩)
        rw [← hyb]
        exact (HCP.out.apT y hy).1⟩
      clear q0 q1 q2 q3 q4 hwhole
      go_wp2_with fail
      refine bodyPost_ret (v := t'.val) (by unfold Ty.val Ty.row; simp [results, Tryz.results49, go_sem, r0, r1, r2]) rfl ?_
      have sh : ∀ b, b ≠ w.heap.size + 1 → (((wr.setCell ⟨w.heap.size + 1, 0, none⟩ (.int .u8 t'.kind)).setCell ⟨w.heap.size + 1, 1, none⟩ (.string t'.name)).setCell ⟨w.heap.size + 1, 2, none⟩ (.slice t'.addr t'.els.length t'.cap)).heap[b]? = wr.heap[b]? := fun b hb => by
        rw [set_heap _ _ _ _ _ hb, set_heap _ _ _ _ _ hb, set_heap _ _ _ _ _ hb]
      refine ⟨t', rfl, HQ.out.2.1, ⟨HQ.out.1.keep (fun b hb => ?_) (fun p hp => ?_), ⟨fun u hu => row_keep (HR.out u hu).1 fun b hb => sh b ((HR.out u hu).2 b hb), HQ.out.2.2⟩⟩, ?_⟩
      · obtain ⟨y, hy, rfl⟩ := hb
        have h1 := HCP.out.bg.spot y hy
        exact ⟨h1.1, by simp only [set_size]; exact h1.2.1, (HCP.out.bg.plain y hy).keep (sh _ (HCP.out.apT y hy).1)⟩
      · obtain ⟨y, hy, hyp⟩ := hp
        exact World.cell?_of_block (sh _ (by rw [← hyp]; exact (HCP.out.apT y hy).1))
      · exact ((HCP.out.bel.setCell (p := ⟨w.heap.size + 1, 0, none⟩) (by show w.heap.size ≤ w.heap.size + 1; omega) _).setCell (p := ⟨w.heap.size + 1, 1, none⟩) (by show w.heap.size ≤ w.heap.size + 1; omega) _).setCell (p := ⟨w.heap.size + 1, 2, none⟩) (by show w.heap.size ≤ w.heap.size + 1; omega) _
    · rw [List.concat_eq_append] at hrx
      subst hrx
      rw [List.length_append, List.length_singleton] at hlw ⊢
      have e0 : IntKind.i64.wrap (((r.length + 1 : Nat) : Int) - 1) = (r.length : Int) := by rw [IntWalk.i64_in _ (by omega)]; omega
      have k1 : (r.length : Int) < ((r.length + 1 : Nat) : Int) := by omega
      have k2 : (0 : Int) ≤ (r.length : Int) := by omega
      have hcap := row_cap HCP.out.own
      rw [List.length_append, List.length_singleton] at hcap
      have k3 : r.length ≤ c := by omega
      have k4 : (0 : Int) < ((r.length + 1 : Nat) : Int) := by omega
      have htop := HCP.out.top
      cases x with
      | row q el =>
        have c0 : wr.cell? ⟨gs, r.length * 3, none⟩ = some (.pointer none) := htop 0 _ rfl
        have c1 : wr.cell? ⟨gs, r.length * 3 + 1, none⟩ = some (.pointer (some ⟨q.1, q.2.1, none⟩)) := htop 1 _ rfl
        have c2 : wr.cell? ⟨gs, r.length * 3 + 2, none⟩ = some (.int .i64 (q.2.2 : Int)) := htop 2 _ rfl
        clear htop
        have hkeys := HCP.out.keys
        have hnd := HCP.out.nd
        rw [keysOf_append] at hkeys hnd
        have hmap := HCP.out.map
        have hml : w.heap.size + 1 + 1 < wr.heap.size := (Array.getElem?_eq_some_iff.1 hmap).1
        have hpl : ∀ k el', Task.row k el' ∈ r ++ [Task.row q el] → Plain (wr.alloc (.cells #[.pointer none, .pointer (some ⟨q.1, q.2.1, none⟩), .int .i64 (q.2.2 : Int)] 155)) k.1 := fun k el' hk => by
          have h1 := HIN.out.2 _ (HCP.out.rows k el' hk).1
          exact h1.2.keep ((Below.heap_alloc _ _ _ (by have := HCP.out.bel.size; omega)).trans (HCP.out.bel.block _ h1.1))
        have hdel : (Builtin.delete_ #[150, 153] 0 #[.map (some (w.heap.size + 1 + 1)), .agg #[.pointer (some ⟨q.1, q.2.1, none⟩), .int .i64 (q.2.2 : Int)]]).run Tryz.prog (wr.alloc (.cells #[.pointer none, .pointer (some ⟨q.1, q.2.1, none⟩), .int .i64 (q.2.2 : Int)] 155)) = .ok (.tuple #[]) ((wr.alloc (.cells #[.pointer none, .pointer (some ⟨q.1, q.2.1, none⟩), .int .i64 (q.2.2 : Int)] 155)).putObj (w.heap.size + 1 + 1) (.map (es.eraseIdxIfInBounds (keysOf r).length) cl)) :=
          run_delete_row Tryz.rowTy 150 24 0 Tryz.underlying150 _ (w.heap.size + 1 + 1) es cl q (keysOf r) (by rw [Below.heap_alloc _ _ _ hml]; exact hmap) (hpl q el (by simp)) hkeys
            (fun k hk => by obtain ⟨el', h1⟩ := mem_keys.1 hk; exact hpl k el' (by simp [h1])) (fun hh => (List.nodup_append.1 hnd).2.2 q hh q (by simp [keysOf]) rfl)
        have HK := Lib.hid hkeys
        clear hkeys hnd hmap hpl
        go_wp2_with fail
        go_roundg (work r)
        case rel => exact ⟨r, T, gs, c, _, cl, rfl, rfl, HCP.out.popRow (keys_pop HK.out) (fun b hb => (HIN.out.2 b hb).1)⟩
        case measure => rw [HG.out, work_append]; simp only [work]; omega
      | spot e =>
        have c0 : wr.cell? ⟨gs, r.length * 3, none⟩ = some (.pointer (some ⟨e.1.1, e.1.2, none⟩)) := htop 0 _ rfl
        have c1 : wr.cell? ⟨gs, r.length * 3 + 1, none⟩ = some (.pointer none) := htop 1 _ rfl
        have c2 : wr.cell? ⟨gs, r.length * 3 + 2, none⟩ = some (.int .i64 0) := htop 2 _ rfl
        clear htop
        have heT : e ∈ T := HCP.out.bg.sub e (by rw [pendOf_append]; simp [pendOf])
        obtain ⟨t1, t2⟩ := HCP.out.bg.todo e (by rw [pendOf_append]; simp [pendOf])
        have hsp := HCP.out.bg.spot e heT
        have hgt := HCP.out.gsT e heT
        have hap := HCP.out.apT e heT
        have hml : w.heap.size + 2 < wr.heap.size := (Array.getElem?_eq_some_iff.1 HCP.out.map).1
        have hgl : gs < wr.heap.size := (HCP.out.own.lt gs rfl).2
        have hg3 := HCP.out.gs3
        have hbs := HCP.out.bel.size
        have hfits := (HCP.out.bg.tree e heT).fits
        obtain ⟨Y, hY⟩ : ∃ Y, Y = wr.alloc (.cells #[.pointer (some ⟨e.1.1, e.1.2, none⟩), .pointer none, .int .i64 0] 155) := ⟨_, rfl⟩
        have yb : ∀ b, b < wr.heap.size → Y.heap[b]? = wr.heap[b]? := fun b hb => by rw [hY]; exact Below.heap_alloc _ _ _ hb
        have ys : Y.heap.size = wr.heap.size + 1 := by rw [hY]; simp
        have ec := yb e.1.1 hsp.2.1
        have y0 : Y.cell? ⟨e.1.1, e.1.2, none⟩ = some (.int .u8 e.2.kind) := (World.cell?_of_block (a := ⟨e.1.1, e.1.2, none⟩) ec).trans (t1 0 _ rfl)
        have y1 : Y.cell? ⟨e.1.1, e.1.2 + 1, none⟩ = some (.string e.2.name) := (World.cell?_of_block (a := ⟨e.1.1, e.1.2 + 1, none⟩) ec).trans (t1 1 _ rfl)
        have y2 : Y.cell? ⟨e.1.1, e.1.2 + 2, none⟩ = some (.slice e.2.addr e.2.els.length e.2.cap) := (World.cell?_of_block (a := ⟨e.1.1, e.1.2 + 2, none⟩) ec).trans (t1 2 _ rfl)
        have yf : ∀ x, Y.frozen? ⟨e.1.1, e.1.2 + x, none⟩ = false := fun x => (World.frozen?_of_block (a := ⟨e.1.1, e.1.2 + x, none⟩) ec).trans (t2 x)
        have hown : wr.ownsRow w.heap.size 155 3 (.slice (some ⟨gs, 0, none⟩) r.length c) r.length (tasksC r) := by
          have := HCP.out.own
          rw [List.length_append, List.length_singleton, tasksC_append] at this
          exact ownsRow_pop (tasksC_len r) this
        have HOWN := Lib.hid hown
        by_cases hle : e.2.els = []
        · rw [hle] at y2
          have HA := Lib.hid (apart_leaf2 e.1.1 e.1.2 (w.heap.size + 1 + 1) (.int .u8 e.2.kind) e.2.name e.2.addr e.2.cap Y y0 y1 y2 yf hfits.name)
          have HY := Lib.hid (And.intro hY (And.intro yb ys))
          clear y0 y1 y2 yf yb ys t1 t2 hown ec hY
          go_wp2_with (go_at_call 85; rw [← HY.out.1]; refine HA.out.mono ?_; rintro en w2 ⟨rfl, p1, p2, p3, p4, p5, p7, p6⟩; have HP := Lib.hid (And.intro p1 (And.intro p2 (And.intro p3 (And.intro p4 (And.intro p5 (And.intro p7 p6)))))); clear p1 p2 p3 p4 p5 p6 p7)
          go_roundg (work r)
          case rel =>
            obtain ⟨p1, p2, p3, p4, p5, p7, p6⟩ := HP.out
            obtain ⟨hY, yb, ys⟩ := HY.out
            have hout : ∀ k, k < wr.heap.size → k ≠ e.1.1 → w2.heap[k]? = wr.heap[k]? := fun k hk hne => (p6.block k (by omega) (fun h => hne (by injection h))).trans (yb k hk)
            have hrk : w2.ownsRow w.heap.size 155 3 (.slice (some ⟨gs, 0, none⟩) r.length c) r.length (tasksC r) := row_keep HOWN.out fun b hb => by
              obtain rfl : gs = b := by simpa [Value.ownBlock] using hb
              exact hout gs hgl (fun h => hgt h.symm)
            have hd := HCP.out.spotDone (W' := w2) (fun b hb => (HIN.out.2 b hb).1) (g := 0) (c' := 0) (gs' := gs) (c2 := c) (cl' := cl) (A' := none) (es' := es) (new := []) (.inl ⟨rfl, hle⟩) (by have := p6.size; omega) (by rw [p6.os, p6.tape, p6.output, hY]; exact ⟨rfl, rfl, rfl⟩)
              (fun k hk h1 h2 h3 => hout k hk h2) (fun x h1 h2 => (p3 x h1 h2).trans (World.cell?_of_block (a := ⟨e.1.1, x, none⟩) (yb e.1.1 hsp.2.1))) (fun x => (p4 x).trans (World.frozen?_of_block (a := ⟨e.1.1, x, none⟩) (yb e.1.1 hsp.2.1))) (fun h => p5 (h.keep (yb e.1.1 hsp.2.1))) (fun n h => p7 n (h.keep (yb e.1.1 hsp.2.1)))
              p1 (by rw [hle]; exact p2) (by rw [hle]; exact ⟨Nat.zero_le _, Nat.zero_le _⟩) (fun _ => by rw [hle]; exact ⟨rfl, rfl⟩) (fun _ => ⟨rfl, rfl⟩) (fun h => by rw [hle] at h; exact absurd h (Nat.lt_irrefl _)) ((hout _ hml (fun h => hap.2 h.symm)).trans HCP.out.map)
              (by have := HCP.out.keys; rw [keysOf_append] at this ⊢; exact this) (by rw [List.append_nil]; exact hrk) (.inl rfl) (fun h => by rw [hle] at h; exact absurd h (Nat.lt_irrefl _))
            rw [List.append_nil] at hd
            exact ⟨r, _, gs, c, es, cl, rfl, rfl, hd⟩
          case measure => rw [HG.out, work_append]; simp only [work]; have := weight_eq e.2; omega
        · have hn : 0 < e.2.els.length := List.length_pos_iff.2 hle
          obtain ⟨rb, ro, ha, hSb, _⟩ := (HCP.out.bg.tree e heT).rows hn
          rw [ha] at y2
          have hwe : e.2.els.length ≤ 1000000 := by
            have h1 := len_wsum e.2.els
            have h2 := weight_eq e.2
            rw [work_append] at hwk
            simp only [work] at hwk
            omega
          have hrow : ∀ k ∈ keysOf r, Plain Y k.1 ∧ k.1 ≠ e.1.1 ∧ k.1 < Y.heap.size := fun k hk => by
            obtain ⟨el, hel⟩ := mem_keys.1 hk
            have h1 := HIN.out.2 _ (HCP.out.rows k el (List.mem_append_left _ hel)).1
            have h2 := h1.1
            exact ⟨h1.2.keep ((yb _ (by omega)).trans (HCP.out.bel.block _ h1.1)), by omega, by omega⟩
          have hkeys := HCP.out.keys
          rw [keysOf_append] at hkeys
          simp only [keysOf, List.append_nil] at hkeys
          have hrb := HIN.out.2 rb hSb
          have HA := Lib.hid (apart_any e.1.1 e.1.2 (w.heap.size + 1 + 1) e.2 rb ro S Y es cl (keysOf r) y0 y1 y2 yf
            ((HCP.out.bg.tree e heT).keep (fun _ hb => hb) (fun p hp => World.cell?_of_block (yb _ (by have := (HIN.out.2 _ hp).1; omega)))) ha
            (fun k hk => by have := (HIN.out.2 _ hk).1; exact ⟨by omega, by omega, by omega⟩) hn hwe (fun h => hap.2 h.symm) (by have := hrb.1; exact ⟨by omega, by omega, by omega⟩) ((yb _ hml).trans HCP.out.map) hkeys hrow
            (hrb.2.keep ((yb _ (by have := hrb.1; omega)).trans (HCP.out.bel.block _ hrb.1))) (HCP.out.fresh (fun b hb => (HIN.out.2 b hb).1) ha))
          have HY := Lib.hid (And.intro hY (And.intro yb ys))
          have HR := Lib.hid (And.intro ha (And.intro hkeys hwe))
          clear y0 y1 y2 yf yb ys t1 t2 hown ec hY hrow hkeys hrb ha hwe
          go_wp2_with (first
            | (go_at_call 85; rw [← HY.out.1]; refine HA.out.mono ?_; rintro en w2 ⟨⟨v, g, c', es', cl', rfl, hov, hrest⟩, hsz, hcalm, hout, hcell, hfro, hpl, hsp2⟩
               obtain ⟨gv, cv, rfl⟩ := own_slice hov (by omega)
               have hout' : ∀ k, k < wr.heap.size → k ≠ w.heap.size + 2 → k ≠ e.1.1 → w2.heap[k]? = wr.heap[k]? := fun k hk h1 h2 => (hout k (by have := HY.out.2.2; omega) h1 h2).trans (HY.out.2.1 k hk)
               have HO2 : Hid (w2.ownsRow w.heap.size 155 3 (.slice (some ⟨gs, 0, none⟩) r.length c) r.length (tasksC r)) := Lib.hid (row_keep HOWN.out fun b hb => by
                 obtain rfl : gs = b := by simpa [Value.ownBlock] using hb
                 exact hout' gs hgl (by omega) (fun h => hgt h.symm))
               have HP := Lib.hid (And.intro hov (And.intro hrest (And.intro hsz (And.intro hcalm (And.intro hout' (And.intro hcell (And.intro hfro (And.intro hpl hsp2))))))))
               clear hov hrest hsz hcalm hout hout' hcell hfro hpl hsp2)
            | (at_builtin; refine wpList_append_far rfl (.tmp 29) (.tmp 33) 156 rfl w.heap.size 155 i0 _ 3 24 Tryz.underlying156 HI.out HZ.out.1 HZ.out.2.1 HZ.out.2.2 rfl (by decide) _ r.length (tasksC r) rfl HO2.out (some ⟨gv, 0, none⟩) (e.2.els.length + 1) cv rfl (fun e => by cases e) (doneC (rb, ro, e.2.els.length) ++ todos g e.2.els.length) ?c0 ?c1 ?c2 ?c3 ?c4 ?c5 ?next))
          case c0 => simp [todos_length, doneC]; omega
          case c1 =>
            intro ad had j u hu
            cases had
            exact HP.out.1.cells (g := gv) rfl j u hu
          case c2 =>
            intro u hu
            have h1 := tasksC_one (.row (rb, ro, e.2.els.length) e.2.els :: kidsT g 0 e.2.els) u
            have h2 : tasksC (.row (rb, ro, e.2.els.length) e.2.els :: kidsT g 0 e.2.els) = doneC (rb, ro, e.2.els.length) ++ todos g e.2.els.length := by rw [← kidsT_cells]; rfl
            rw [h2] at h1
            exact h1 hu
          case c3 => have := HR.out.2.2; unfold maxLen; omega
          case c4 => have := HR.out.2.2; omega
          case c5 => have := HP.out.2.2.1; have := HY.out.2.2; omega
          case next =>
            intro v' w9 ho hg hf
            obtain ⟨gs', c2, rfl⟩ := own_slice ho (by omega)
            have HO9 := Lib.hid (And.intro ho (And.intro hg hf))
            clear ho hg hf
            go_wp2_with fail
            go_roundg (work (r ++ (.row (rb, ro, e.2.els.length) e.2.els :: kidsT g 0 e.2.els)))
            case rel =>
              obtain ⟨ha, hkeys, hwe⟩ := HR.out
              obtain ⟨hov, ⟨hmap, hky, q1, q2, g1, g2, gp, gc1, gc2, gcs, gfr⟩, hsz, hcalm, hout', hcell, hfro, hpl, hsp2⟩ := HP.out
              obtain ⟨hY, yb, ys⟩ := HY.out
              obtain ⟨ho, hg, hf⟩ := HO9.out
              have hcells : tasksC (r ++ (.row (rb, ro, e.2.els.length) e.2.els :: kidsT g 0 e.2.els)) = tasksC r ++ (doneC (rb, ro, e.2.els.length) ++ todos g e.2.els.length) := by rw [tasksC_append, ← kidsT_cells]; rfl
              have hlen : (r ++ (Task.row (rb, ro, e.2.els.length) e.2.els :: kidsT g 0 e.2.els)).length = r.length + (e.2.els.length + 1) := by simp [kidsT_len]
              have h9 : ∀ k, k < w2.heap.size → k ≠ gs → w9.heap[k]? = w2.heap[k]? := fun k hk hne => hg.block k hk (fun h => hne (by simpa [Value.ownBlock] using h))
              have hbgs : e.1.1 ≠ gs := hgt
              have hb2 : e.1.1 < w2.heap.size := by omega
              have e9 := h9 e.1.1 hb2 hbgs
              have eY := yb e.1.1 hsp.2.1
              have hgg : g ≠ gs := by omega
              have hd := HCP.out.spotDone (W' := w9) (fun b hb => (HIN.out.2 b hb).1) (g := g) (c' := c') (gs' := gs') (c2 := c2) (cl' := cl') (A' := some ⟨g, 0, none⟩) (es' := es') (new := .row (rb, ro, e.2.els.length) e.2.els :: kidsT g 0 e.2.els) (.inr ⟨hn, rb, ro, ha, rfl⟩)
                (by have := hg.size; omega) (by have h1 := hg.os; have h2 := hg.tape; have h3 := hg.output; rw [h1, h2, h3, hcalm.1, hcalm.2.1, hcalm.2.2, hY]; exact ⟨rfl, rfl, rfl⟩)
                (fun k hk h1 h2 h3 => (h9 k (by omega) h3).trans (hout' k hk h1 h2))
                (fun x h1 h2 => (World.cell?_of_block (a := ⟨e.1.1, x, none⟩) e9).trans ((hcell x h1 h2).trans (World.cell?_of_block (a := ⟨e.1.1, x, none⟩) eY)))
                (fun x => (World.frozen?_of_block (a := ⟨e.1.1, x, none⟩) e9).trans ((hfro x).trans (World.frozen?_of_block (a := ⟨e.1.1, x, none⟩) eY)))
                (fun h => (hpl (h.keep eY)).keep e9) (fun n h => (hsp2 n (h.keep eY)).keep e9)
                ((World.cell?_of_block (a := ⟨e.1.1, e.1.2 + 1, none⟩) e9).trans q1) ((World.cell?_of_block (a := ⟨e.1.1, e.1.2 + 2, none⟩) e9).trans q2) ⟨gc1, gc2⟩ (fun h => by cases h) (fun h => absurd hn (by omega))
                (fun _ => ⟨rfl, by omega, by have := hg.size; omega, gp.keep (h9 g g2 hgg), fun i u hi => ⟨(gcs i u hi).keep fun j _ => World.cell?_of_block (a := ⟨g, i * 3 + j, none⟩) (h9 g g2 hgg), fun j => (World.frozen?_of_block (a := ⟨g, i * 3 + j, none⟩) (h9 g g2 hgg)).trans (gfr _)⟩⟩)
                ((h9 _ (by omega) (by omega)).trans hmap) (by
                  rw [keysOf_append]
                  simpa [keysOf, kidsT_keys] using hky)
                (by rw [hlen, hcells]; exact ho) ((hf gs' rfl).imp (fun h => by simpa [Value.ownBlock] using h.symm) (fun h => by omega)) (fun _ => by
                  rcases hf gs' rfl with h | h
                  · have : gs = gs' := by simpa [Value.ownBlock] using h
                    omega
                  · omega)
              exact ⟨_, _, gs', c2, es', cl', rfl, by rw [hlen], hd⟩
            case measure =>
              rw [HG.out, work_append, work_append]
              simp only [work, kidsT_work]
              have := weight_eq e.2
              omega
end Go.Proofs.YtfpjleabmemieaaGreat
