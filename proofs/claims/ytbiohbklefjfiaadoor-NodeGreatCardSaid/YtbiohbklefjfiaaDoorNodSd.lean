/- NodeSame: the walk. -/
/- NodeSame: the walk, all trees. -/
import Derived.Test.YtbiohbklefjfiaaDoorNodSb
set_option maxRecDepth 100000
namespace NodT
open Go Go.RowKit
open ShapeR (Has availOf afters wpOp_of put_size put_same put_defers)
set_option linter.unusedVariables false
theorem wp_store_zero {P : Program} {tn ts : TypeId} (hF : NodeFacts P tn ts) {ops : Array Oper} {i : Nat} {o : Oper} (ho : ops[i]? = some o) (hg : o.guard = none) (hd : o.dst = none) {d x : Tmp} (hop : o.op = .store tn (.tmp d) (.tmp x)) {a : Act} {w : World} {g : Nat} {tt : Nd}
    (hs : a.tmps[d]? = some (.pointer (some ⟨g, 0, none⟩))) (hz : w.heap[g]? = some (.cells zero5 tn)) (hv : a.tmps[x]? = some tt.val) {K : Act → World → Prop} {Q : Exit → Act → World → Prop} (hK : ∀ w1, Stored w w1 g (.cells tt.cs.toArray tn) → K a w1) : wpOp P ops Q i K a w := by
  obtain ⟨i0, hi, hz'⟩ := Option.map_eq_some_iff.1 hF.info
  have hz1 : i0.size = 5 := (Prod.mk.inj hz').2
  refine wpOp_of ho ?_
  rw [show Region.wanted o (yielded ops a.tmps) = true by unfold Region.wanted; rw [hg], if_pos rfl]
  refine wp_store_mid tn (.tmp d) (.tmp x) hop g 0 tt.cs.toArray (eval_of hs) (eval_of hv) (fun j hj => ?_) (by simp [hi, hz1, Nd.cs]) (all_oneCell_toArray (fun v hv => ?_)) ?_
  · have hj5 : j < 5 := by simpa [Nd.cs] using hj
    have h5 : zero5.size = 5 := rfl
    refine ⟨?_, Lib.frozen_of_heap hz _⟩
    rw [zero_cell hz, Nat.zero_add, Array.getElem?_eq_getElem (by omega)]
    rfl
  · simp only [Nd.cs, List.mem_cons, List.not_mem_nil, or_false] at hv
    rcases hv with rfl | rfl | rfl | rfl | rfl <;> rfl
  · rw [hd]
    exact hK _ (setCells_stored w g tn tt hz)
def gVal (tn tb : TypeId) (ext : FuncId → List Sg → Option Sg) (ops : Array Oper) (env : List (Nat × Sg)) (n d : Nat) : Option Sg :=
  match gL tn tb ext ops env n, ops[n]? with
  | some shs, some st => match st.guard, st.op with
    | none, .assign x => if st.dst = some d then gArg (env ++ availOf ops shs (List.range n)) x else none
    | _, _ => none
  | _, _ => none
theorem gRegion_value {tn tb : TypeId} {base : Nat} {T : Nat → Nd → World → Prop} {P : Program} {Inv : World → Prop} {ext : FuncId → List Sg → Option Sg}
    (hm : P.follows .mixedOrders = true) (hT : ∀ i x w w', T i x w → Below w.heap.size w w' → T i x w') (hbase : ∀ w, Inv w → base ≤ w.heap.size) (hF : ∃ ts, NodeFacts P tn ts) (htb : P.underlying tb = some .bool) (hE : GExtOK tn base T P Inv ext) (hinvm : ∀ w w', Inv w → Below w.heap.size w w' → Inv w')
    {id n n0 d : Nat} {ops : Array Oper} {env : List (Nat × Sg)} {v : Value} {df : List Deferred} (hN : ops.size = n + 1) (hchk : gCheck ops env n0 n = true) (hval : gVal tn tb ext ops env n d = some (.lit v)) {a : Act} {w : World} {Q : Exit → Act → World → Prop}
    (h0 : ShapeP.Came (Dg tn base T) Inv env n0 df w a w)
    (hQ : ∀ a' w', a'.tmps.size = n0 → a'.tmps[d]? = some v → a'.defers = df → Below w.heap.size w w' → Q .normal a' w') :
    (Code.region id ops true).wp P Q a w := by
  unfold gVal at hval
  split at hval
  · rename_i shs st hL ho
    split at hval
    · rename_i x hg hop
      split at hval
      · rename_i hd
        refine gRegion hm hT hbase hF htb hE hinvm (N := n + 1) (by omega) hN hchk hL h0 ?_
        intro a' w' hb hst
        have hh : Has (Dg tn base T) (env ++ availOf ops shs (List.range n)) a' w' := hst.all (js := List.range n) (fun j hj => List.mem_range.1 hj)
        have hv : a'.eval x = v := gArg_den hh hval
        rw [show n + 1 - n = 1 from by omega, show List.range' n 1 = [n] from rfl, wpOps_cons]
        refine wpOp_of ho ?_
        rw [show Region.wanted st (yielded ops a'.tmps) = true by unfold Region.wanted; rw [hg], if_pos rfl]
        unfold Oper.wp
        simp only [execOp, hop, Sem.run_pure, Oper.upon_value, hv, hd]
        refine hQ _ _ ((put_size _ _ _).trans hst.size) (put_same _ _ _ ?_) ((put_defers _ _ _).trans hst.defers) hb
        rw [hst.size]
        exact ((gCheck_ok hchk).1.low n st d ho hd).1
      · cases hval
    · cases hval
  · cases hval
end NodT
namespace Go.Proofs.YtbiohbklefjfiaaDoor
open Go.Instr Go.RowKit NodT
set_option linter.unusedVariables false
theorem nodeFactsE : ∃ ts, NodeFacts Tryd.prog 25 ts := ⟨_, nodeFacts⟩
theorem box_cells {w : World} {g : Nat} {x : Nd} {tn : TypeId} (h : w.heap[g]? = some (.cells x.cs.toArray tn)) : w.cell? ⟨g, 0, none⟩ = some (.int .u8 x.kind) ∧ w.cell? ⟨g, 1, none⟩ = some (.string x.text) ∧ w.cell? ⟨g, 2, none⟩ = some (.int .i64 x.num) ∧ w.cell? ⟨g, 3, none⟩ = some (.int .i64 x.place) ∧ w.cell? ⟨g, 4, none⟩ = some (.slice x.addr x.kids.length x.cap) := cell_at h
/-- The state ahead of the copies. -/
structure Pre (t u : Nd) (w w2 : World) : Prop where
  b : Below w.heap.size w w2
  t : w2.heap[w.heap.size]? = some (.cells t.cs.toArray 25)
  u : w2.heap[w.heap.size + 1]? = some (.cells u.cs.toArray 25)
def genv0 : List (Nat × Sg) := [(2, .vr 0), (3, .vr 1)]
def genv1 : List (Nat × Sg) := [(2, .vr 0), (3, .vr 1), (5, .vr 2), (6, .vr 3)]
set_option maxHeartbeats 4000000 in
theorem NodeSame_both (t u : Nd) (w : World) (h1 : In w w.heap.size t) (h2 : In w w.heap.size u) (ho : OpsAt 1 w) (hw1 : weigh t ≤ 40000) (hw2 : weigh u ≤ 40000) : Calls Tryd.prog 3 #[t.val, u.val] w fun e w' => e = .returned (.bool true) ∧ Below w.heap.size w w' := by
  have hmt : many t ≤ 1000000 := by have := many_le_weigh t; omega
  have hmu : many u ≤ 1000000 := by have := many_le_weigh u; omega
  have hb0 : Below w.heap.size w ((w.alloc (.cells #[.int .u8 t.kind, .string t.text, .int .i64 t.num, .int .i64 t.place, .slice t.addr t.kids.length t.cap] 25)).alloc (.cells #[.int .u8 u.kind, .string u.text, .int .i64 u.num, .int .i64 u.place, .slice u.addr u.kids.length u.cap] 25)) := ((Below.refl _ _).alloc (Nat.le_refl _) _).alloc (by simp) _
  have hs0 : ((w.alloc (.cells #[.int .u8 t.kind, .string t.text, .int .i64 t.num, .int .i64 t.place, .slice t.addr t.kids.length t.cap] 25)).alloc (.cells #[.int .u8 u.kind, .string u.text, .int .i64 u.num, .int .i64 u.place, .slice u.addr u.kids.length u.cap] 25)).heap.size = w.heap.size + 2 := by simp
  have hp0 : Pre t u w ((w.alloc (.cells #[.int .u8 t.kind, .string t.text, .int .i64 t.num, .int .i64 t.place, .slice t.addr t.kids.length t.cap] 25)).alloc (.cells #[.int .u8 u.kind, .string u.text, .int .i64 u.num, .int .i64 u.place, .slice u.addr u.kids.length u.cap] 25)) := by
    refine ⟨hb0, ?_, ?_⟩
    · rw [heap_alloc_old _ _ (by simp), heap_alloc_new]; rfl
    · have := heap_alloc_new (w.alloc (.cells #[.int .u8 t.kind, .string t.text, .int .i64 t.num, .int .i64 t.place, .slice t.addr t.kids.length t.cap] 25)) (.cells #[.int .u8 u.kind, .string u.text, .int .i64 u.num, .int .i64 u.place, .slice u.addr u.kids.length u.cap] 25)
      rw [show (w.alloc (.cells #[.int .u8 t.kind, .string t.text, .int .i64 t.num, .int .i64 t.place, .slice t.addr t.kids.length t.cap] 25)).heap.size = w.heap.size + 1 from by simp] at this
      exact this
  obtain ⟨m, hm⟩ : ∃ m : Int, (min (weigh t) (40000+1) : Int) = m := ⟨_, rfl⟩
  obtain ⟨m', hm'⟩ : ∃ m : Int, (min (weigh u) (40000+1) : Int) = m := ⟨_, rfl⟩
  have g1 : decide ((40000 : Int) < m) = false := by simp; omega
  have g2 : decide ((40000 : Int) < m') = false := by simp; omega
  have HN1 := Lib.hid (fun ww (hb : Below w.heap.size w ww) => NodesOf_any t 40000 ww w.heap.size (by decide) (by decide) (h1.under hb) hb.size)
  have HN2 := Lib.hid (fun ww (hb : Below w.heap.size w ww) => NodesOf_any u 40000 ww w.heap.size (by decide) (by decide) (h2.under hb) hb.size)
  rw [hm] at HN1
  rw [hm'] at HN2
  have HP := Lib.hid hp0
  have HS := Lib.hid hs0
  have HO := Lib.hid ho
  have HT := Lib.hid (And.intro h1 h2)
  have HM := Lib.hid (And.intro hmt hmu)
  clear hb0 hp0 hs0 hm hm' ho h1 h2 hmt hmu hw1 hw2
  unfold Nd.val Nd.row at HN1 HN2
  unfold Nd.val Nd.row
  go_enter Tryd.func3, Tryd.ntmps3
  go_upto_region 3 with fail
  refine (HN1.out _ HP.out.b).mono ?_
  rintro e w1 ⟨rfl, hb1⟩
  have HP1 : Hid (Pre t u w w1 ∧ w.heap.size + 2 ≤ w1.heap.size) := ⟨⟨HP.out.b.trans (hb1.mono HP.out.b.size), (hb1.block _ (by rw [HS.out]; omega)).trans HP.out.t, (hb1.block _ (by rw [HS.out]; omega)).trans HP.out.u⟩, by have := hb1.size; rw [HS.out] at this; exact this⟩
  obtain ⟨c0, c1, c2, c3, c4⟩ := box_cells HP1.out.1.u
  clear hb1 HP
  go_upto_region 3 with fail
  refine (HN2.out _ HP1.out.1.b).mono ?_
  rintro e w2 ⟨rfl, hb2⟩
  have HP2 : Hid (Pre t u w w2 ∧ w.heap.size + 2 ≤ w2.heap.size) := ⟨⟨HP1.out.1.b.trans (hb2.mono HP1.out.1.b.size), (hb2.block _ (by have := HP1.out.2; omega)).trans HP1.out.1.t, (hb2.block _ (by have := HP1.out.2; omega)).trans HP1.out.1.u⟩, by have := hb2.size; have := HP1.out.2; omega⟩
  clear hb2 c0 c1 c2 c3 c4 HP1
  go_upto_region 3 with fail
  rename_i K hK
  have p2 := HP2.out.1
  have z2 := HP2.out.2
  have hI : ∀ w' : World, (w2.heap.size ≤ w'.heap.size ∧ OpsAt 1 w') → OpsAt 1 w' := fun _ h => h.2
  have hbs : ∀ w' : World, (w2.heap.size ≤ w'.heap.size ∧ OpsAt 1 w') → w2.heap.size ≤ w'.heap.size := fun _ h => h.1
  have hmn : ∀ w1 w2' : World, (w2.heap.size ≤ w1.heap.size ∧ OpsAt 1 w1) → Below w1.heap.size w1 w2' → (w2.heap.size ≤ w2'.heap.size ∧ OpsAt 1 w2') := fun w1 w2 h hb => ⟨Nat.le_trans h.1 hb.size, h.2.under hb⟩
  have hE := gExt_ok t u w.heap.size w2.heap.size (fun w' => w2.heap.size ≤ w'.heap.size ∧ OpsAt 1 w') hI HM.out.1 HM.out.2
  have ho2 : OpsAt 1 w2 := HO.out.under p2.b
  refine gRegion (base := w2.heap.size) (T := TF t u w.heap.size) (Inv := fun w' => w2.heap.size ≤ w'.heap.size ∧ OpsAt 1 w') (tb := 4) (env := genv0) (n := 6) (N := 8) (n0 := 51) (df := []) (shs := [.nd 0, .nd 2, .nd 1, .nd 3, .fresh, .fresh]) (by kernel_rfl) (TF.mono t u _) hbs nodeFactsE Tryd.underlying4 hE hmn (by omega) rfl ?chk ?hl ⟨⟨Nat.le_refl _, ho2⟩, rfl, rfl, ?_, Below.refl _ _⟩ ?_
  case chk => kernel_rfl
  case hl => kernel_rfl
  · intro p hp
    simp only [genv0, List.mem_cons, List.not_mem_nil, or_false] at hp
    rcases hp with rfl | rfl
    · exact ⟨_, rfl, _, t, rfl, fun _ => by omega, p2.t, rfl, HT.out.1.under p2.b, p2.b.size⟩
    · exact ⟨_, rfl, _, u, rfl, fun _ => by omega, p2.u, rfl, HT.out.2.under p2.b, p2.b.size⟩
  intro a3 w3 hb3 hst
  obtain ⟨v17, s17, x, rfl, hx⟩ := hst.done 1 _ _ 17 rfl rfl (by omega) rfl
  obtain ⟨v19, s19, y, rfl, hy⟩ := hst.done 3 _ _ 19 rfl rfl (by omega) rfl
  obtain ⟨v5, s5, g5, rfl, hg5, hz5⟩ := hst.done 4 _ _ 5 rfl rfl (by omega) rfl
  obtain ⟨v6, s6, g6, rfl, hg6, hz6⟩ := hst.done 5 _ _ 6 rfl rfl (by omega) rfl
  have hne : g5 ≠ g6 := fun e => hst.pair 4 5 _ _ _ _ 5 6 _ _ (by omega) rfl rfl rfl rfl (by omega) (by omega) rfl rfl s5 s6 rfl rfl (by rw [e])
  obtain ⟨v2, s2, gt, xt, rfl, lt, hgt, hxt⟩ := hst.out (2, .vr 0) (by simp [genv0])
  obtain ⟨v3, s3, gu, xu, rfl, lu, hgu, hxu⟩ := hst.out (3, .vr 1) (by simp [genv0])
  have lt' := lt (by decide)
  have lu' := lu (by decide)
  have hB5 : w.heap.size ≤ g5 := by omega
  have hB6 : w.heap.size ≤ g6 := by omega
  rw [show List.range' 6 (8 - 6) = [6, 7] from rfl, wpOps_cons]
  refine wp_store_zero nodeFacts rfl rfl rfl rfl s5 hz5 s17 fun w4 st4 => ?_
  rw [wpOps_cons]
  have hz6' : w4.heap[g6]? = some (.cells zero5 25) := (st4.else_ g6 (Ne.symm hne)).trans hz6
  refine wp_store_zero nodeFacts rfl rfl rfl rfl s6 hz6' s19 fun w5 st5 => ?_
  have kt : w5.heap[gt]? = some (.cells xt.cs.toArray 25) := (st5.else_ gt (by omega)).trans ((st4.else_ gt (by omega)).trans hgt)
  have ku : w5.heap[gu]? = some (.cells xu.cs.toArray 25) := (st5.else_ gu (by omega)).trans ((st4.else_ gu (by omega)).trans hgu)
  have k5 : w5.heap[g5]? = some (.cells x.cs.toArray 25) := (st5.else_ g5 hne).trans st4.here
  have k6 := st5.here
  have T0 : TF t u w.heap.size 0 xt w5 := TF.stored (TF.stored hxt (by decide) hz5 hB5 st4) (by decide) hz6' hB6 st5
  have T1 : TF t u w.heap.size 1 xu w5 := TF.stored (TF.stored hxu (by decide) hz5 hB5 st4) (by decide) hz6' hB6 st5
  have T2 : TF t u w.heap.size 2 x w5 := TF.stored (TF.stored hx (by decide) hz5 hB5 st4) (by decide) hz6' hB6 st5
  have T3 : TF t u w.heap.size 3 y w5 := TF.stored (TF.stored hy (by decide) hz5 hB5 st4) (by decide) hz6' hB6 st5
  have hb5 : Below w2.heap.size w2 w5 := (hb3.trans (st4.below hg5)).trans (st5.below hg6)
  have hbw : Below w.heap.size w w5 := p2.b.trans (hb5.mono (by omega))
  have hsz := hst.size
  have hdf := hst.defers
  clear hst
  refine hK _ _ ?_
  refine wp_seq_k fun K hK => ?_
  have hfin : ∀ a' w', a'.tmps.size = 51 → a'.tmps[4]? = some (.bool true) → a'.defers = [] → Below w5.heap.size w5 w' → Exit.then K (bodyPost Tryd.prog Tryd.f3 fun e w' => e = .returned (.bool true) ∧ Below w.heap.size w w') .normal a' w' := by
    intro a' w' h1 h2 h3 h4
    refine hK _ _ ?_
    exact wp_ret (bodyPost_ret (v := .bool true) (by simp [results, Tryd.results3, h2]) h3 ⟨rfl, hbw.trans (h4.mono hbw.size)⟩)
  have hcame : ShapeP.Came (Dg 25 w2.heap.size (TF t u w.heap.size)) (fun w' => w2.heap.size ≤ w'.heap.size ∧ OpsAt 1 w') genv1 51 [] w5 a3 w5 := by
    refine ⟨⟨hb5.size, HO.out.under hbw⟩, hsz, hdf, ?_, Below.refl _ _⟩
    intro p hp
    simp only [genv1, List.mem_cons, List.not_mem_nil, or_false] at hp
    rcases hp with rfl | rfl | rfl | rfl
    · exact ⟨_, s2, gt, xt, rfl, fun _ => lt', kt, T0⟩
    · exact ⟨_, s3, gu, xu, rfl, fun _ => lu', ku, T1⟩
    · exact ⟨_, s5, g5, x, rfl, fun h => absurd h (by decide), k5, T2⟩
    · exact ⟨_, s6, g6, y, rfl, fun h => absurd h (by decide), k6, T3⟩
  cases hsv : same t u with
  | true =>
    rw [hsv] at hE
    refine gRegion_value (base := w2.heap.size) (T := TF t u w.heap.size) (Inv := fun w' => w2.heap.size ≤ w'.heap.size ∧ OpsAt 1 w') (tb := 4) (env := genv1) (n := 31) (n0 := 51) (d := 4) (df := []) (v := .bool true) (by kernel_rfl) (TF.mono t u _) hbs nodeFactsE Tryd.underlying4 hE hmn rfl ?chk ?val hcame hfin
    case chk => kernel_rfl
    case val => kernel_rfl
  | false =>
    rw [hsv] at hE
    refine gRegion_value (base := w2.heap.size) (T := TF t u w.heap.size) (Inv := fun w' => w2.heap.size ≤ w'.heap.size ∧ OpsAt 1 w') (tb := 4) (env := genv1) (n := 31) (n0 := 51) (d := 4) (df := []) (v := .bool true) (by kernel_rfl) (TF.mono t u _) hbs nodeFactsE Tryd.underlying4 hE hmn rfl ?chk ?val hcame hfin
    case chk => kernel_rfl
    case val => kernel_rfl
end Go.Proofs.YtbiohbklefjfiaaDoor
namespace Go.Proofs.YtbiohbklefjfiaaDoor
open Go.Instr Go.RowKit NodT
set_option linter.unusedVariables false
theorem pre_boxes (t u : Nd) (w : World) : Pre t u w ((w.alloc (.cells #[.int .u8 t.kind, .string t.text, .int .i64 t.num, .int .i64 t.place, .slice t.addr t.kids.length t.cap] 25)).alloc (.cells #[.int .u8 u.kind, .string u.text, .int .i64 u.num, .int .i64 u.place, .slice u.addr u.kids.length u.cap] 25)) := by
  refine ⟨((Below.refl _ _).alloc (Nat.le_refl _) _).alloc (by simp) _, ?_, ?_⟩
  · rw [heap_alloc_old _ _ (by simp), heap_alloc_new]; rfl
  · have := heap_alloc_new (w.alloc (.cells #[.int .u8 t.kind, .string t.text, .int .i64 t.num, .int .i64 t.place, .slice t.addr t.kids.length t.cap] 25)) (.cells #[.int .u8 u.kind, .string u.text, .int .i64 u.num, .int .i64 u.place, .slice u.addr u.kids.length u.cap] 25)
    rw [show (w.alloc (.cells #[.int .u8 t.kind, .string t.text, .int .i64 t.num, .int .i64 t.place, .slice t.addr t.kids.length t.cap] 25)).heap.size = w.heap.size + 1 from by simp] at this
    exact this
set_option maxHeartbeats 2000000 in
theorem NodeSame_first (t u : Nd) (w : World) (h1 : In w w.heap.size t) (ho : OpsAt 1 w) (hw1 : 40000 < weigh t) : Calls Tryd.prog 3 #[t.val, u.val] w fun e w' => e = .returned (.bool true) ∧ Below w.heap.size w w' := by
  obtain ⟨m, hm⟩ : ∃ m : Int, (min (weigh t) (40000+1) : Int) = m := ⟨_, rfl⟩
  have g1 : decide ((40000 : Int) < m) = true := by simp; omega
  have HN1 := Lib.hid (fun ww (hb : Below w.heap.size w ww) => NodesOf_any t 40000 ww w.heap.size (by decide) (by decide) (h1.under hb) hb.size)
  rw [hm] at HN1
  have HP := Lib.hid (pre_boxes t u w)
  have HO := Lib.hid ho
  clear hm ho h1 hw1
  unfold Nd.val Nd.row at HN1
  unfold Nd.val Nd.row
  go_enter Tryd.func3, Tryd.ntmps3
  go_wp2_with fail
  refine (HN1.out _ HP.out.b).mono ?_
  rintro e w1 ⟨rfl, hb1⟩
  have HB := Lib.hid (HP.out.b.trans (hb1.mono HP.out.b.size))
  clear hb1 HP
  go_wp2_with fail
  refine (awake_any w1 (HO.out.under HB.out)).mono ?_
  rintro e w2 ⟨rfl, hb2⟩
  have HB2 := Lib.hid (HB.out.trans (hb2.mono HB.out.size))
  clear hb2
  go_wp2_with fail
  go_ret
  exact ⟨rfl, HB2.out⟩
set_option maxHeartbeats 2000000 in
theorem NodeSame_second (t u : Nd) (w : World) (h1 : In w w.heap.size t) (h2 : In w w.heap.size u) (ho : OpsAt 1 w) (hw1 : weigh t ≤ 40000) (hw2 : 40000 < weigh u) : Calls Tryd.prog 3 #[t.val, u.val] w fun e w' => e = .returned (.bool true) ∧ Below w.heap.size w w' := by
  obtain ⟨m, hm⟩ : ∃ m : Int, (min (weigh t) (40000+1) : Int) = m := ⟨_, rfl⟩
  obtain ⟨m', hm'⟩ : ∃ m : Int, (min (weigh u) (40000+1) : Int) = m := ⟨_, rfl⟩
  have g1 : decide ((40000 : Int) < m) = false := by simp; omega
  have g2 : decide ((40000 : Int) < m') = true := by simp; omega
  have hs0 : ((w.alloc (.cells #[.int .u8 t.kind, .string t.text, .int .i64 t.num, .int .i64 t.place, .slice t.addr t.kids.length t.cap] 25)).alloc (.cells #[.int .u8 u.kind, .string u.text, .int .i64 u.num, .int .i64 u.place, .slice u.addr u.kids.length u.cap] 25)).heap.size = w.heap.size + 2 := by simp
  have HN1 := Lib.hid (fun ww (hb : Below w.heap.size w ww) => NodesOf_any t 40000 ww w.heap.size (by decide) (by decide) (h1.under hb) hb.size)
  have HN2 := Lib.hid (fun ww (hb : Below w.heap.size w ww) => NodesOf_any u 40000 ww w.heap.size (by decide) (by decide) (h2.under hb) hb.size)
  rw [hm] at HN1
  rw [hm'] at HN2
  have HP := Lib.hid (pre_boxes t u w)
  have HS := Lib.hid hs0
  have HO := Lib.hid ho
  clear hm hm' ho h1 h2 hw1 hw2 hs0
  unfold Nd.val Nd.row at HN1 HN2
  unfold Nd.val Nd.row
  go_enter Tryd.func3, Tryd.ntmps3
  go_wp2_with fail
  refine (HN1.out _ HP.out.b).mono ?_
  rintro e w1 ⟨rfl, hb1⟩
  have HB := Lib.hid (HP.out.b.trans (hb1.mono HP.out.b.size))
  have hu : w1.heap[w.heap.size + 1]? = some (.cells u.cs.toArray 25) := (hb1.block _ (by rw [HS.out]; omega)).trans HP.out.u
  obtain ⟨c0, c1, c2, c3, c4⟩ := box_cells hu
  clear hb1 HP hu
  go_wp2_with fail
  refine (HN2.out _ HB.out).mono ?_
  rintro e w2 ⟨rfl, hb2⟩
  have HB2 := Lib.hid (HB.out.trans (hb2.mono HB.out.size))
  clear hb2 c0 c1 c2 c3 c4
  go_wp2_with fail
  refine (awake_any w2 (HO.out.under HB2.out)).mono ?_
  rintro e w3 ⟨rfl, hb3⟩
  have HB3 := Lib.hid (HB2.out.trans (hb3.mono HB2.out.size))
  clear hb3
  go_wp2_with fail
  go_ret
  exact ⟨rfl, HB3.out⟩
theorem NodeSame_any (t u : Nd) (w : World) (h1 : In w w.heap.size t) (h2 : In w w.heap.size u) (ho : OpsAt 1 w) : Calls Tryd.prog 3 #[t.val, u.val] w fun e w' => e = .returned (.bool true) ∧ Below w.heap.size w w' := by
  by_cases hw1 : weigh t ≤ 40000
  · by_cases hw2 : weigh u ≤ 40000
    · exact NodeSame_both t u w h1 h2 ho hw1 hw2
    · exact NodeSame_second t u w h1 h2 ho hw1 (by omega)
  · exact NodeSame_first t u w h1 ho (by omega)
end Go.Proofs.YtbiohbklefjfiaaDoor
