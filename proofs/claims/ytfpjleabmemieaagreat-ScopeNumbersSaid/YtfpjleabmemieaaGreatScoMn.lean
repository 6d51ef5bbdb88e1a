/- The law ScopeNumbers: its walk. -/
import Derived.Test.YtfpjleabmemieaaGreatScoMk
import Derived.Test.YtfpjleabmemieaaGreatFlD
import Derived.Laws.OwnMore
set_option maxRecDepth 100000
namespace Go.Proofs.YtfpjleabmemieaaGreat
open Go.Instr Go.RowKit ScoT
set_option linter.unusedVariables false
set_option linter.unusedSimpArgs false
/-- A step whose type has no elements: number, name, kind. -/
structure Q3 where
  op : Int
  name : ByteArray
  k : Nat
structure Q3.Ok (q : Q3) : Prop where
  op : -9223372036854775808 ≤ q.op ∧ q.op ≤ 9223372036854775807
  nm : q.name.size ≤ 281474976710656
  k : q.k < 256
def Q3.dn (q : Q3) : Dn2 := ⟨q.op, q.name, .mk q.k ⟨#[]⟩ none 0 []⟩
def Q3.cs (q : Q3) : List Value := [.int .i64 q.op, .string q.name, .int .u8 q.k, .string ⟨#[]⟩, .slice none 0 0]
def qcells (l : List Q3) : List Value := l.flatMap Q3.cs
theorem qcells_length (l : List Q3) : (qcells l).length = l.length * 5 := by
  induction l with
  | nil => rfl
  | cons t ts ih => simp only [qcells, List.flatMap_cons, List.length_append, List.length_cons] at ih ⊢; rw [ih]; simp [Q3.cs]; omega
theorem qcells_append (a b : List Q3) : qcells (a ++ b) = qcells a ++ qcells b := by simp [qcells]
theorem qcells_at (l : List Q3) (i j : Nat) (q : Q3) (v : Value) (hi : l[i]? = some q) (hj : q.cs[j]? = some v) : (qcells l)[i * 5 + j]? = some v := by
  induction l generalizing i with
  | nil => simp at hi
  | cons u us ih =>
    have hl : u.cs.length = 5 := rfl
    have hjl : j < 5 := (List.getElem?_eq_some_iff.1 hj).1
    show (u.cs ++ qcells us)[i * 5 + j]? = _
    cases i with
    | zero =>
      simp only [List.getElem?_cons_zero, Option.some.injEq] at hi
      subst hi
      rw [List.getElem?_append_left (by omega)]
      simpa using hj
    | succ i =>
      rw [List.getElem?_append_right (by omega), hl]
      have : (i + 1) * 5 + j - 5 = i * 5 + j := by omega
      rw [this]
      exact ih i (by simpa using hi)
theorem dos_of_own {W : World} {lo : Nat} {v : Value} {qs : List Q3} (h : W.ownsRow lo 28 5 v qs.length (qcells qs)) (hq : ∀ q ∈ qs, q.Ok) : ∃ (L : List Dn2) (A : Option Addr) (c : Nat), v = .slice A L.length c ∧ L.length = qs.length ∧ Dos2 W A L := by
  refine ⟨qs.map Q3.dn, ?_⟩
  rcases h.2 with ⟨rfl, hx⟩ | ⟨g, c, cur, rfl, _, _, _, _, _, _⟩
  · refine ⟨none, 0, by rw [List.length_map, hx], by simp, fun i d hi => ?_⟩
    have := (List.getElem?_eq_some_iff.1 hi).1
    rw [List.length_map] at this
    omega
  · refine ⟨_, c, by rw [List.length_map], by simp, fun i d hi => ?_⟩
    rw [List.getElem?_map] at hi
    obtain ⟨q, hqi, rfl⟩ := Option.map_eq_some_iff.1 hi
    have hl := (List.getElem?_eq_some_iff.1 hqi).1
    have hok := hq q (List.mem_of_getElem? hqi)
    have hc : ∀ (j : Nat) (u : Value), q.cs[j]? = some u → W.cell? ⟨g, 0 + i * 5 + j, none⟩ = some u := fun j u hj => by
      have hj5 : j < 5 := (List.getElem?_eq_some_iff.1 hj).1
      rw [Nat.zero_add, h.cellAt (i * 5 + j) (by omega)]
      exact qcells_at qs i j q u hqi hj
    refine ⟨g, 0, rfl, hc 0 _ rfl, hc 1 _ rfl, hc 2 _ rfl, hc 3 _ rfl, hc 4 _ rfl, hok.op, hok.nm, .mk _ ⟨hok.k, by show (0 : Nat) ≤ _; omega, Nat.le_refl _, Nat.zero_le _, fun _ => ⟨rfl, rfl⟩⟩ (fun h => by simp [Q3.dn, Ty.els] at h) (fun i u h => by simp [Q3.dn, Ty.els] at h)⟩
theorem Tryz.infoDo : (Tryz.prog.info? 28).map (fun i => (i.zero, i.size, i.bytes)) = some (some (.agg #[.int .i64 0, .string ⟨#[]⟩, .int .u8 0, .string ⟨#[]⟩, .slice none 0 0]), 5, 72) := by kernel_rfl
/-- The row of the five numbers. -/
def opsO : Obj := .cells #[.int .i64 0, .int .i64 2, .int .i64 3, .int .i64 5, .int .i64 6] 3
theorem ops_at {W : World} {b : Nat} (h : W.heap[b]? = some opsO) {i : Nat} (hi : i < 5) : ∃ u : Int, W.cell? ⟨b, i, none⟩ = some (.int .i64 u) ∧ -9223372036854775808 ≤ u ∧ u ≤ 9223372036854775807 := by
  have hc : ∀ j, W.cell? ⟨b, j, none⟩ = (#[Value.int .i64 0, .int .i64 2, .int .i64 3, .int .i64 5, .int .i64 6] : Array Value)[j]? := fun j => cell_of_row W b j _ 3 (0, 0) h
  match i, hi with
  | 0, _ => exact ⟨0, hc 0, by decide, by decide⟩
  | 1, _ => exact ⟨2, hc 1, by decide, by decide⟩
  | 2, _ => exact ⟨3, hc 2, by decide, by decide⟩
  | 3, _ => exact ⟨5, hc 3, by decide, by decide⟩
  | 4, _ => exact ⟨6, hc 4, by decide, by decide⟩
theorem qs_snoc {qs : List Q3} {q : Q3} (h : ∀ q ∈ qs, q.Ok) (hq : q.Ok) : ∀ x ∈ qs ++ [q], x.Ok := fun x hx => by
  rcases List.mem_append.1 hx with hx | hx
  · exact h x hx
  · rw [List.mem_singleton.1 hx]; exact hq
/-- The steps so far. -/
structure QS (lo : Nat) (W0 : World) (v : Value) (qs : List Q3) (W : World) : Prop where
  own : W.ownsRow lo 28 5 v qs.length (qcells qs)
  ok : ∀ q ∈ qs, q.Ok
  bel : Below W0.heap.size W0 W
theorem QS.grow {lo : Nat} {W0 W X W' : World} {v v' : Value} {qs : List Q3} {q : Q3} (h : QS lo W0 v qs W) (hlo : W0.heap.size = lo) (hX : Below W.heap.size W X) (hq : q.Ok) (ho : X.ownsRow lo 28 5 v qs.length (qcells qs)) (hG : FlT.Grown 28 lo 5 v qs.length (qcells qs) 1 q.cs v' X W') : QS lo W0 v' (qs ++ [q]) W' := by
  have hs := h.bel.size
  have hsx := hX.size
  refine ⟨?_, qs_snoc h.ok hq, ?_⟩
  · rw [qcells_append, List.length_append, List.length_singleton]
    have : qcells [q] = q.cs := by simp [qcells]
    rw [this]
    exact hG.1
  · have hb := hG.below ho (by omega)
    rw [← hlo] at hb
    exact (h.bel.trans (hX.mono hs)).trans hb
theorem QS.grows {lo : Nat} {W0 W X W' : World} {v v' : Value} {qs rs : List Q3} (h : QS lo W0 v qs W) (hlo : W0.heap.size = lo) (hX : Below W.heap.size W X) (hq : ∀ q ∈ rs, q.Ok) (ho : X.ownsRow lo 28 5 v qs.length (qcells qs)) (hG : FlT.Grown 28 lo 5 v qs.length (qcells qs) rs.length (qcells rs) v' X W') : QS lo W0 v' (qs ++ rs) W' := by
  have hs := h.bel.size
  have hsx := hX.size
  refine ⟨?_, fun q hm => ?_, ?_⟩
  · rw [qcells_append, List.length_append]
    exact hG.1
  · rcases List.mem_append.1 hm with hm | hm
    · exact h.ok q hm
    · exact hq q hm
  · have hb := hG.below ho (by omega)
    rw [← hlo] at hb
    exact (h.bel.trans (hX.mono hs)).trans hb
theorem one_byte (V : World) (g n : Nat) (hn : n < 256) (hc : V.cell? ⟨g, 0, none⟩ = some (.int .u8 (n : Int))) : (convert 32 9 (.slice (some ⟨g, 0, none⟩) 1 1)).run Tryz.prog V = .ok (.string ⟨#[UInt8.ofNat n]⟩) V := by
  refine run_convert_bytes_back _ _ _ _ ⟨g, 0, none⟩ 1 [UInt8.ofNat n] Tryz.underlying32 Tryz.underlying5 Tryz.underlying9 fun j hj => ?_
  have hj0 : j = 0 := by simpa using hj
  subst hj0
  have e0 : (UInt8.ofNat n).toNat = n := by simp; omega
  have e1 : (([UInt8.ofNat n][0]'hj).toNat : Int) = (n : Int) := by show ((UInt8.ofNat n).toNat : Int) = n; rw [e0]
  rw [e1]
  simpa [Addr.add] using hc
theorem ScopeLives_own {V : World} {lo : Nat} {v : Value} {qs : List Q3} (h : V.ownsRow lo 28 5 v qs.length (qcells qs)) (hq : ∀ q ∈ qs, q.Ok) (hl : qs.length ≤ 10000000000000) : Calls Tryz.prog 4 #[v] V fun e w' => e = .returned (.bool true) ∧ Below V.heap.size V w' := by
  obtain ⟨L, A, c, rfl, hLl, hdos⟩ := dos_of_own h hq
  exact ScopeLives_any L A c V (by omega) hdos
theorem cellA {V : World} {g : Nat} {x : Value} (T : TypeId) (h : V.heap[g]? = some (.cells #[x] T)) : V.cell? ⟨g, 0, none⟩ = some x := by
  rw [cell_of_row V g 0 _ T (0, 0) h]; rfl
theorem nh1 (V : World) (o : Obj) : (V.alloc o).heap[V.heap.size]? = some o := World.alloc_heap_new _ _
theorem nh2 (V : World) (o o' : Obj) : ((V.alloc o).alloc o').heap[V.heap.size]? = some o := (Below.heap_alloc _ _ _ (by simp)).trans (World.alloc_heap_new _ _)
theorem nh3 (V : World) (o o' : Obj) : ((V.alloc o).alloc o').heap[V.heap.size + 1]? = some o' := by
  have h := World.alloc_heap_new (V.alloc o) o'
  rw [World.size_alloc] at h
  exact h
def lit4 : Obj := .cells #[.int .i64 0, .string ⟨#[]⟩, .int .u8 0, .string ⟨#[]⟩, .slice none 0 0, .int .i64 3, .string ⟨#[]⟩, .int .u8 0, .string ⟨#[]⟩, .slice none 0 0, .int .i64 5, .string ⟨#[]⟩, .int .u8 0, .string ⟨#[]⟩, .slice none 0 0, .int .i64 3, .string ⟨#[]⟩, .int .u8 0, .string ⟨#[]⟩, .slice none 0 0] 28
theorem ScopeLives_lit (V : World) : Calls Tryz.prog 4 #[.slice (some ⟨V.heap.size, 0, none⟩) 4 4] (V.alloc lit4) fun e w' => e = .returned (.bool true) ∧ Below V.heap.size V w' := by
  refine (ScopeLives_own (V := V.alloc lit4) (lo := V.heap.size) (qs := [⟨0, ⟨#[]⟩, 0⟩, ⟨3, ⟨#[]⟩, 0⟩, ⟨5, ⟨#[]⟩, 0⟩, ⟨3, ⟨#[]⟩, 0⟩]) (World.ownsRow_lit V _ 4 (Nat.le_refl _) (by unfold maxLen; omega) rfl) (fun q hq => ?_) (by decide)).mono fun e w' ⟨h1, h2⟩ => ⟨h1, (below_alloc V lit4).trans (h2.mono (by simp))⟩
  simp only [List.mem_cons, List.not_mem_nil, or_false] at hq
  rcases hq with rfl | rfl | rfl | rfl <;> exact ⟨⟨by decide, by decide⟩, by decide, by decide⟩
theorem ScopeLives_nil (V : World) : Calls Tryz.prog 4 #[.slice none 0 0] V fun e w' => e = .returned (.bool true) ∧ Below V.heap.size V w' :=
  ScopeLives_any [] none 0 V (by decide) fun i d hi => by simp at hi
set_option maxHeartbeats 16000000 in
theorem ScopeNumbers_any (w : World) : Calls Tryz.prog 3 #[] w fun e w' => e = .returned (.bool true) ∧ Below w.heap.size w w' := by
  obtain ⟨i0, hi, hz0, hz1, hz2⟩ := info_parts Tryz.infoDo
  have HI := Lib.hid (And.intro hi (And.intro hz0 (And.intro hz1 hz2)))
  clear hi hz0 hz1 hz2
  go_enter Tryz.func3, Tryz.ntmps3
  go_wp2_with fail
  go_loopg [2] 3125 (fun gg v wr => ∃ k : Nat, k ≤ 3125 ∧ gg = 3125 - k ∧ v = .int .i64 k ∧ Below w.heap.size w wr ∧ wr.heap[w.heap.size]? = some opsO)
  case atStart => exact ⟨0, by omega, rfl, rfl, (Below.refl _ _).alloc (Nat.le_refl _) _, World.alloc_heap_new _ _⟩
  case round =>
    obtain ⟨n, hn, hgn, rfl, hb, hops⟩ := hrel
    obtain ⟨W0, hW0⟩ : ∃ W0, W0 = wr := ⟨_, rfl⟩
    subst hW0
    have HGN := Lib.hid hgn
    have HB := Lib.hid (And.intro hb hops)
    clear hgn hb hops
    by_cases hlt : n < 3125
    · have t1 : decide ((n : Int) < 3125) = true := decide_eq_true (by omega)
      go_wp2_with (go_at_call 5; refine (kind_any 1 (by decide) _).mono ?_; rintro e w2 ⟨rfl, hb2⟩; have HB2 := Lib.hid hb2; clear hb2)
      go_loopg [3, 4, 5] 5 (fun gg l i k wr2 => ∃ (m kk : Nat) (qs : List Q3), m ≤ 5 ∧ gg = 5 - m ∧ i = .int .i64 m ∧ k = .int .i64 kk ∧ kk ≤ 3125 ∧ qs.length = 2 + m ∧ QS W0.heap.size W0 l qs wr2)
      case atStart =>
        refine ⟨0, n, [⟨0, ⟨#[]⟩, 0⟩, ⟨3, ⟨#[97]⟩, 1⟩], by omega, rfl, rfl, rfl, hn, rfl, World.ownsRow_lit w2 _ 2 HB2.out.size (by unfold maxLen; omega) rfl, fun q hq => ?_, HB2.out.trans ((below_alloc w2 _).mono HB2.out.size)⟩
        simp only [List.mem_cons, List.not_mem_nil, or_false] at hq
        rcases hq with rfl | rfl
        · exact ⟨⟨by decide, by decide⟩, by decide, by decide⟩
        · exact ⟨⟨by decide, by decide⟩, by decide, by decide⟩
      case round =>
        obtain ⟨m, kk, qs, hm, hgm, rfl, rfl, hkk, hql, hqs⟩ := hrel
        have HGM := Lib.hid hgm
        have HQ := Lib.hid hqs
        have HQL := Lib.hid hql
        clear hgm hqs hql HB2
        by_cases hml : m < 5
        · have t2 : decide ((m : Int) < 5) = true := decide_eq_true (by omega)
          obtain ⟨r, hr⟩ : ∃ r : Nat, r = kk % 5 := ⟨_, rfl⟩
          have ht : Int.tmod (kk : Int) 5 = (r : Int) := by rw [Int.tmod_eq_emod_of_nonneg (by omega)]; omega
          have hd : Int.tdiv (kk : Int) 5 = ((kk / 5 : Nat) : Int) := by rw [Int.tdiv_eq_ediv_of_nonneg (by omega)]; omega
          obtain ⟨j, hj⟩ : ∃ j : Nat, j = 2 + m := ⟨_, rfl⟩
          have hj0 : (2 : Int) + (m : Int) = (j : Int) := by omega
          have hj1 : IntKind.i64.wrap (2 + (m : Int)) = (j : Int) := by rw [IntKind.wrap_i64]; omega
          have hj2 : IntKind.u8.wrap (j : Int) = (j : Int) := by rw [IntKind.wrap_u8]; omega
          have r0 : (0 : Int) ≤ (r : Int) := by omega
          have r1 : (r : Int) < 5 := by omega
          obtain ⟨u, hu, hu1, hu2⟩ := ops_at (b := w.heap.size) ((HQ.out.bel.block _ (Array.getElem?_eq_some_iff.1 HB.out.2).1).trans HB.out.2) (i := r) (by omega)
          obtain ⟨A1, cc, hv1, _, _, _, _⟩ := FlT.own_shape HQ.out.own
          subst hv1
          have HE := Lib.hid (And.intro hr (And.intro hj (And.intro hu1 hu2)))
          clear hr hj hu1 hu2 hj0
          go_upto_region 9 with fail
          have HK := Lib.hid (kind_any j (by have := HE.out.2.1; omega) wr.drew)
          go_region_law (first
            | (go_simp; go_at_call 5; refine HK.out.mono ?_; rintro e w3 ⟨rfl, hb3⟩
               have hx3 : w3.cell? ⟨w.heap.size, r, none⟩ = some (.int .i64 u) := (hb3.cell (World.block_lt_of_cell? _ _ hu)).trans hu
               have ho3 : w3.ownsRow W0.heap.size 28 5 _ qs.length (qcells qs) := row_keep HQ.out.own fun b hb => hb3.block b (HQ.out.own.lt b hb).2
               have HO3 := Lib.hid (And.intro hb3 ho3)
               have hz3 : W0.heap.size ≤ w3.heap.size := Nat.le_trans HQ.out.bel.size hb3.size
               clear hb3 ho3)
            | (refine step_append_two rfl (.tmp 24) (.tmp 35) 30 rfl W0.heap.size 28 i0 _ 5 72 Tryz.underlying30 HI.out.1 HI.out.2.1 HI.out.2.2.1 HI.out.2.2.2 rfl (by decide) _ qs.length _ rfl (HO3.out.2.alloc (.cells #[.int .i64 u, .string ⟨#[97]⟩, .int .u8 j, .string ⟨#[]⟩, .slice none 0 0] 28)) ⟨w3.heap.size, 0, none⟩ 1 1 (by decide) rfl [.int .i64 u, .string ⟨#[97]⟩, .int .u8 j, .string ⟨#[]⟩, .slice none 0 0] rfl (FlT.cells_new w3 [.int .i64 u, .string ⟨#[97]⟩, .int .u8 j, .string ⟨#[]⟩, .slice none 0 0] 28) (by intro x hx; simp only [List.mem_cons, List.not_mem_nil, or_false] at hx; rcases hx with rfl | rfl | rfl | rfl | rfl <;> rfl) (by have := HQL.out; unfold maxLen; omega) (by have := HQL.out; omega) (by simp; omega) ?_; intro v' w4 hG
               have HG := Lib.hid hG
               clear hG))
          all_goals
            have HN : Hid (QS W0.heap.size W0 v' (qs ++ [⟨u, ⟨#[97]⟩, j⟩]) w4) := Lib.hid (HQ.out.grow (q := ⟨u, ⟨#[97]⟩, j⟩) rfl (((below_drew wr).trans HO3.out.1).trans ((below_alloc w3 (.cells #[.int .i64 u, .string ⟨#[97]⟩, .int .u8 j, .string ⟨#[]⟩, .slice none 0 0] 28)).mono HO3.out.1.size)) ⟨HE.out.2.2, by show (1 : Nat) ≤ 281474976710656; omega, by have := HE.out.2.1; show j < 256; omega⟩ (HO3.out.2.alloc _) HG.out)
            clear HO3 HG HK
            go_wp2_with fail
            go_roundg (5 - (m + 1))
            case rel =>
              refine ⟨m + 1, kk / 5, qs ++ [⟨u, ⟨#[97]⟩, j⟩], by omega, rfl, by go_num, congrArg (Value.int .i64) (by omega), by omega, by have := HQL.out; simp; omega, HN.out⟩
            case measure => rw [HGM.out]; omega
        · have hme : m = 5 := by omega
          have t2 : decide ((m : Int) < 5) = false := decide_eq_false (by omega)
          obtain ⟨L, A, c, hv, hLl, hdos⟩ := dos_of_own HQ.out.own HQ.out.ok
          subst hv
          have hL5 : L.length ≤ 10000000000000 := by have := HQL.out; omega
          have HSL := Lib.hid (ScopeLives_any L A c _ hL5 hdos)
          have HBQ := Lib.hid HQ.out.bel
          clear hme hml hLl hdos HQ HQL
          go_wp2_with (go_at_call 4; refine HSL.out.mono ?_; rintro e w5 ⟨rfl, hb5⟩; have HB5 := Lib.hid (HBQ.out.trans (hb5.mono HBQ.out.size)); clear hb5)
          go_roundg (3125 - (n + 1))
          case rel => exact ⟨n + 1, by omega, rfl, by go_num, HB.out.1.trans (HB5.out.mono HB.out.1.size), (HB5.out.block _ (Array.getElem?_eq_some_iff.1 HB.out.2).1).trans HB.out.2⟩
          case measure => rw [HGN.out]; omega
    · have t1 : decide ((n : Int) < 3125) = false := decide_eq_false (by omega)
      go_wp2_with fail
      go_loopg [6, 7] 60 (fun gg l i wr2 => ∃ (m : Nat) (qs : List Q3), m ≤ 60 ∧ gg = 60 - m ∧ i = .int .i64 m ∧ qs.length = 3 * m ∧ QS W0.heap.size W0 l qs wr2)
      case atStart => exact ⟨0, [], by omega, rfl, rfl, rfl, World.ownsRow_nil _ _ _ _, fun q hq => by simp at hq, Below.refl _ _⟩
      case round =>
        obtain ⟨m, qs, hm, hgm, rfl, hql, hqs⟩ := hrel
        have HGM := Lib.hid hgm
        have HQ := Lib.hid hqs
        have HQL := Lib.hid hql
        clear hgm hqs hql
        by_cases hml : m < 60
        · have t2 : decide ((m : Int) < 60) = true := decide_eq_true (by omega)
          obtain ⟨a, ha⟩ : ∃ a : Nat, a = m % 7 := ⟨_, rfl⟩
          obtain ⟨b, hb⟩ : ∃ b : Nat, b = m % 5 := ⟨_, rfl⟩
          have ta : Int.tmod (m : Int) 7 = (a : Int) := by rw [Int.tmod_eq_emod_of_nonneg (by omega)]; omega
          have tb : Int.tmod (m : Int) 5 = (b : Int) := by rw [Int.tmod_eq_emod_of_nonneg (by omega)]; omega
          have wa : IntKind.u8.wrap (a : Int) = (a : Int) := by rw [IntKind.wrap_u8]; omega
          have wb : IntKind.u8.wrap (b : Int) = (b : Int) := by rw [IntKind.wrap_u8]; omega
          have wm : IntKind.u8.wrap (m : Int) = (m : Int) := by rw [IntKind.wrap_u8]; omega
          have HE := Lib.hid (And.intro ha hb)
          obtain ⟨A1, cc, hv1, _, _, _, _⟩ := FlT.own_shape HQ.out.own
          subst hv1
          have HKD := Lib.hid (fun W => kind_any m (by omega) W)
          obtain ⟨xa, hxa⟩ : ∃ xa : ByteArray, xa = ⟨#[UInt8.ofNat a]⟩ := ⟨_, rfl⟩
          obtain ⟨xb, hxb⟩ : ∃ xb : ByteArray, xb = ⟨#[UInt8.ofNat b]⟩ := ⟨_, rfl⟩
          have hcv1 : ∀ (V : World) (g : Nat), V.cell? ⟨g, 0, none⟩ = some (.int .u8 (a : Int)) → (convert 32 9 (.slice (some ⟨g, 0, none⟩) 1 1)).run Tryz.prog V = .ok (.string xa) V := fun V g hc => by
            rw [hxa]
            exact one_byte V g a (by omega) hc
          have hcv2 : ∀ (V : World) (g : Nat), V.cell? ⟨g, 0, none⟩ = some (.int .u8 (b : Int)) → (convert 32 9 (.slice (some ⟨g, 0, none⟩) 1 1)).run Tryz.prog V = .ok (.string xb) V := fun V g hc => by
            rw [hxb]
            exact one_byte V g b (by omega) hc
          have HXA := Lib.hid (And.intro hxa hxb)
          have hal := fun (V : World) (o : Obj) (g : Nat) (hg : g < V.heap.size) => (below_alloc V o).cell (p := ⟨g, 0, none⟩) hg
          have HOWN : Hid (∀ X, Below wr.heap.size wr X → X.ownsRow W0.heap.size 28 5 (.slice A1 qs.length cc) qs.length (qcells qs)) := Lib.hid fun X hb => row_keep HQ.out.own fun b' hb' => hb.block b' (HQ.out.own.lt b' hb').2
          have HZ0 : Hid (W0.heap.size ≤ wr.heap.size) := Lib.hid HQ.out.bel.size
          have HBW : Hid (Below wr.heap.size wr wr) := Lib.hid (Below.refl _ _)
          have HOK : Hid (∀ q ∈ ([⟨0, ⟨#[]⟩, 0⟩, ⟨3, xa, m⟩, ⟨5, xb, 0⟩] : List Q3), q.Ok) := Lib.hid (by
            intro q hq
            simp only [List.mem_cons, List.not_mem_nil, or_false] at hq
            rcases hq with rfl | rfl | rfl
            · exact ⟨⟨by show (-9223372036854775808 : Int) ≤ 0; omega, by show (0 : Int) ≤ 9223372036854775807; omega⟩, by show (0 : Nat) ≤ 281474976710656; omega, by show (0 : Nat) < 256; omega⟩
            · exact ⟨⟨by show (-9223372036854775808 : Int) ≤ 3; omega, by show (3 : Int) ≤ 9223372036854775807; omega⟩, by rw [hxa]; show (1 : Nat) ≤ 281474976710656; omega, by show m < 256; omega⟩
            · exact ⟨⟨by show (-9223372036854775808 : Int) ≤ 5; omega, by show (5 : Int) ≤ 9223372036854775807; omega⟩, by rw [hxb]; show (1 : Nat) ≤ 281474976710656; omega, by show (0 : Nat) < 256; omega⟩)
          clear ha hb hxa hxb
          go_upto_region 16 with fail
          go_region_law (first
            | (go_simp; go_at_call 5; refine (HKD.out _).mono ?_; rintro e w3 ⟨rfl, hb3⟩
               have hk3 := fun (g : Nat) (hg : g < _) => hb3.cell (p := ⟨g, 0, none⟩) hg
               have hk4 := fun (g : Nat) (hg : g < _) (o : Obj) => ((below_alloc w3 o).cell (p := ⟨g, 0, none⟩) (Nat.lt_of_lt_of_le hg hb3.size)).trans (hb3.cell (p := ⟨g, 0, none⟩) hg)
               have HBN : Hid (Below wr.heap.size wr w3) := Lib.hid (Below.trans (by repeat' (first | exact HBW.out | exact Below.refl _ _ | refine Below.drew ?_ | refine Below.alloc ?_ (by first | omega | (simp; done) | (simp; omega)) _)) (hb3.mono (by first | omega | (simp; done) | (simp; omega))))
               have hz3 : wr.heap.size ≤ w3.heap.size := HBN.out.size
               try have hq1 : w3.cell? ⟨wr.heap.size, 0, none⟩ = some (.int .u8 (a : Int)) := (hb3.cell (p := ⟨wr.heap.size, 0, none⟩) (by first | (simp; done) | (simp; omega))).trans (cellA 5 (by first | exact nh1 _ _ | exact nh2 _ _ _ | exact nh3 _ _ _))
               try have hq2 : w3.cell? ⟨wr.heap.size, 0, none⟩ = some (.int .u8 (b : Int)) := (hb3.cell (p := ⟨wr.heap.size, 0, none⟩) (by first | (simp; done) | (simp; omega))).trans (cellA 5 (by first | exact nh1 _ _ | exact nh2 _ _ _ | exact nh3 _ _ _))
               try have hq3 : w3.cell? ⟨wr.heap.size + 1, 0, none⟩ = some (.int .u8 (a : Int)) := (hb3.cell (p := ⟨wr.heap.size + 1, 0, none⟩) (by first | (simp; done) | (simp; omega))).trans (cellA 5 (by first | exact nh1 _ _ | exact nh2 _ _ _ | exact nh3 _ _ _))
               try have hq4 : w3.cell? ⟨wr.heap.size + 1, 0, none⟩ = some (.int .u8 (b : Int)) := (hb3.cell (p := ⟨wr.heap.size + 1, 0, none⟩) (by first | (simp; done) | (simp; omega))).trans (cellA 5 (by first | exact nh1 _ _ | exact nh2 _ _ _ | exact nh3 _ _ _))
               try have hA1 : wr.heap.size < w3.heap.size := (by have hs3 := hb3.size; simp at hs3; omega)
               try have hA2 : wr.heap.size + 1 < w3.heap.size := (by have hs3 := hb3.size; simp at hs3; omega)
               have HBW := HBN
               clear HBN hb3)
            | (refine step_append_two rfl (.tmp 44) (.tmp 61) 30 rfl W0.heap.size 28 i0 _ 5 72 Tryz.underlying30 HI.out.1 HI.out.2.1 HI.out.2.2.1 HI.out.2.2.2 rfl (by decide) _ qs.length _ rfl (HOWN.out _ (by repeat' (first | exact HBW.out | exact Below.refl _ _ | refine Below.drew ?_ | refine Below.alloc ?_ (by first | omega | (simp; done) | (simp; omega)) _))) _ 3 3 (by decide) rfl [.int .i64 0, .string ⟨#[]⟩, .int .u8 0, .string ⟨#[]⟩, .slice none 0 0, .int .i64 3, .string xa, .int .u8 m, .string ⟨#[]⟩, .slice none 0 0, .int .i64 5, .string xb, .int .u8 0, .string ⟨#[]⟩, .slice none 0 0] rfl (cells_new _ [.int .i64 0, .string ⟨#[]⟩, .int .u8 0, .string ⟨#[]⟩, .slice none 0 0, .int .i64 3, .string xa, .int .u8 m, .string ⟨#[]⟩, .slice none 0 0, .int .i64 5, .string xb, .int .u8 0, .string ⟨#[]⟩, .slice none 0 0] 28 _ (by simp)) (by intro x hx; simp only [List.mem_cons, List.not_mem_nil, or_false] at hx; rcases hx with rfl | rfl | rfl | rfl | rfl | rfl | rfl | rfl | rfl | rfl | rfl | rfl | rfl | rfl | rfl <;> rfl) (by have := HQL.out; unfold maxLen; omega) (by have := HQL.out; omega) (by have := HZ0.out; simp; omega) ?_; intro v' w4 hG
               have HN := Lib.hid (QS.grows (rs := [⟨0, ⟨#[]⟩, 0⟩, ⟨3, xa, m⟩, ⟨5, xb, 0⟩]) HQ.out rfl (by repeat' (first | exact HBW.out | exact Below.refl _ _ | refine Below.drew ?_ | refine Below.alloc ?_ (by first | omega | (simp; done) | (simp; omega)) _)) HOK.out (HOWN.out _ (by repeat' (first | exact HBW.out | exact Below.refl _ _ | refine Below.drew ?_ | refine Below.alloc ?_ (by first | omega | (simp; done) | (simp; omega)) _))) hG)
               clear hG))
          all_goals
            clear HOWN HBW HKD HOK
            go_wp2_with fail
            go_roundg (60 - (m + 1))
            case rel => exact ⟨m + 1, _, by omega, rfl, by go_num, by have := HQL.out; simp; omega, HN.out⟩
            case measure => rw [HGM.out]; omega
        · have hme : m = 60 := by omega
          have t2 : decide ((m : Int) < 60) = false := decide_eq_false (by omega)
          have HSL := Lib.hid (ScopeLives_own HQ.out.own HQ.out.ok (by have := HQL.out; omega))
          have HBQ := Lib.hid (HB.out.1.trans (HQ.out.bel.mono HB.out.1.size))
          obtain ⟨A1, cc, hv1, _, _, _, _⟩ := FlT.own_shape HQ.out.own
          subst hv1
          have m1 := trivial
          have m2 := trivial
          clear hme hml HQ HQL
          go_wp2_with (first
            | (go_at_call 4; clear m1; refine HSL.out.mono ?_; rintro e w5 ⟨rfl, hb5⟩; have HB5 := Lib.hid (HBQ.out.trans (hb5.mono HBQ.out.size)); have HL4 := Lib.hid (ScopeLives_lit w5); unfold lit4 at HL4; clear hb5)
            | (go_at_call 4; clear m2; refine HL4.out.mono ?_; rintro e w6 ⟨rfl, hb6⟩; have HB6 := Lib.hid (HB5.out.trans (hb6.mono HB5.out.size)); clear hb6)
            | (go_at_call 4; refine (ScopeLives_nil _).mono ?_; rintro e w7 ⟨rfl, hb7⟩; have HB7 := Lib.hid (HB6.out.trans (hb7.mono HB6.out.size)); clear hb7)
            | (go_at_call 6; refine (awake_any _).mono ?_; rintro e w8 ⟨rfl, hb8⟩; have HB8 := Lib.hid (HB7.out.trans (hb8.mono HB7.out.size)); clear hb8))
          go_ret
          exact ⟨rfl, HB8.out⟩
end Go.Proofs.YtfpjleabmemieaaGreat
