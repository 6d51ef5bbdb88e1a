/- Deep: each over its own visitor. -/
import Derived.Test.YtldedhfbpongmaaDoorNodAq
set_option maxRecDepth 100000
namespace NodT
open Go Go.RowKit
set_option linter.unusedVariables false
/-- How deep what is on the stack goes. -/
def dS : List Lk → Nat | [] => 0 | x :: s => max (x.2 + deep x.1 - 1) (dS s)
theorem dS_append (a b : List Lk) : dS (a ++ b) = max (dS a) (dS b) := by
  induction a with
  | nil => simp [dS]
  | cons x a ih => simp only [List.cons_append, dS, ih]; omega
theorem dS_put (d : Nat) (ts : List Nd) : max d (dS (put6 (d + 1) ts)) = d + deepL ts := by
  induction ts with
  | nil => simp [put6, dS, deepL]
  | cons t ts ih =>
    have h1 := deep_eq t
    simp only [put6, List.map_cons, dS, deepL] at ih ⊢
    omega
theorem deep_le_many : ∀ t : Nd, deep t ≤ many t := by
  refine Nd.rose fun t ih => ?_
  rw [deep_eq, many_eq]
  have : deepL t.kids ≤ manyL t.kids := by
    generalize t.kids = ts at ih
    induction ts with
    | nil => simp [deepL]
    | cons u us ih2 =>
      have h1 := ih u (by simp)
      have h2 := ih2 (fun v hv => ih v (by simp [hv]))
      simp only [deepL, manyL]
      omega
  omega
/-- What the visitor of Deep keeps. -/
structure DJ (t : Nd) (bm : Nat) (S : List Lk) (W : World) : Prop where
  m : ∃ m : Nat, W.cell? ⟨bm, 0, none⟩ = some (.int .i64 (m : Int)) ∧ max m (dS S) = deep t
  fm : W.frozen? ⟨bm, 0, none⟩ = false
theorem DJ.keep {t : Nd} {bm B : Nat} {S : List Lk} {W W' : World} (h : DJ t bm S W) (hb : Below B W W') (hm : bm < B) : DJ t bm S W' := by
  obtain ⟨⟨m, h4, h5⟩, h6⟩ := h
  exact ⟨⟨m, (hb.cell (by exact hm)).trans h4, h5⟩, (hb.frozen (by exact hm)).trans h6⟩
end NodT
namespace Go.Proofs.YtldedhfbpongmaaDoor
open Go.Instr Go.RowKit NodT
set_option linter.unusedVariables false
set_option maxHeartbeats 4000000 in
theorem each_deep (t : Nd) (w : World) (B bm : Nat) (J : List Lk → World → Prop) (Out : Prop) (h : In w B t) (hB : B ≤ w.heap.size) (hBm : B ≤ bm) (hbm : bm < w.heap.size) (hm : many t ≤ 1000000)
    (hj0 : J [(t, 1)] w) (hjk : ∀ S W W', J S W → Below w.heap.size W W' → w.heap.size ≤ W.heap.size → J S W')
    (hv : ∀ S x W, J (S ++ [x]) W → In W B x.1 → w.heap.size ≤ W.heap.size → x.2 ≤ 1000001 → x.1.kids.length ≤ 1000000 → Calls Tryd.prog 20 #[x.1.look (x.2 : Int), .pointer (some ⟨bm, 0, none⟩)] W fun e w' =>
      (e = .returned (.tuple #[]) ∧ W.grownBy w' (some bm) ∧ J (S ++ put6 (x.2 + 1) x.1.kids) w') ∨ (e = .panicked misfits ∧ W.grownBy w' (some bm) ∧ Out)) :
    Calls Tryd.prog 19 #[t.val, .func (.func 20) #[] #[.pointer (some ⟨bm, 0, none⟩)]] w fun e w' =>
      (e = .returned (.tuple #[]) ∧ w.grownBy w' (some bm) ∧ J [] w') ∨ (e = .panicked misfits ∧ w.grownBy w' (some bm) ∧ Out) := by
  obtain ⟨i0, hi, hz0, hz1, hz2⟩ := info_parts Tryd.infoLook
  have HI := Lib.hid hi
  have HZ := Lib.hid (And.intro hz0 (And.intro hz1 hz2))
  clear hi hz0 hz1 hz2
  have H1 := Lib.hid h
  have HV := Lib.hid hv
  have HJK := Lib.hid hjk
  have HJ0 := Lib.hid hj0
  clear h hv hjk hj0
  have hT : Goes t J [(t, 1)] B w bm 42 (w.heap.size + 1) 1 1 ((w.alloc (.cells #[.int .u8 t.kind, .string t.text, .int .i64 t.num, .int .i64 t.place, .slice t.addr t.kids.length t.cap] 25)).alloc (.cells #[.int .u8 t.kind, .string t.text, .int .i64 t.num, .int .i64 t.place, .slice t.addr t.kids.length t.cap, .int .i64 1] 42)) := by
    have hb : Below w.heap.size w ((w.alloc (.cells #[.int .u8 t.kind, .string t.text, .int .i64 t.num, .int .i64 t.place, .slice t.addr t.kids.length t.cap] 25)).alloc (.cells #[.int .u8 t.kind, .string t.text, .int .i64 t.num, .int .i64 t.place, .slice t.addr t.kids.length t.cap, .int .i64 1] 42)) := ((Below.refl _ _).alloc (Nat.le_refl _) _).alloc (by simp) _
    refine Goes.start hb H1.out hB (HJK.out _ _ _ HJ0.out hb (Nat.le_refl _)) ?_
    have := stack6_lit (w.alloc (.cells #[.int .u8 t.kind, .string t.text, .int .i64 t.num, .int .i64 t.place, .slice t.addr t.kids.length t.cap] 25)) w.heap.size 42 (t, 1) (by simp)
    rw [show (w.alloc (.cells #[.int .u8 t.kind, .string t.text, .int .i64 t.num, .int .i64 t.place, .slice t.addr t.kids.length t.cap] 25)).heap.size = w.heap.size + 1 from by simp] at this
    exact this
  unfold Nd.val Nd.row
  go_enter Tryd.func19, Tryd.ntmps19
  go_wp2_with fail
  generalize ((w.alloc (.cells #[.int .u8 t.kind, .string t.text, .int .i64 t.num, .int .i64 t.place, .slice t.addr t.kids.length t.cap] 25)).alloc (.cells #[.int .u8 t.kind, .string t.text, .int .i64 t.num, .int .i64 t.place, .slice t.addr t.kids.length t.cap, .int .i64 1] 42)) = W1 at *
  go_loopg [4] (many t) (fun gh v4 wr => ∃ (g c n : Nat) (S : List Lk), gh = manyL (S.map Prod.fst) ∧ v4 = .slice (some ⟨g, 0, none⟩) n c ∧ Goes t J S B w bm 42 g c n wr)
  case atStart => exact ⟨_, _, _, [(t, 1)], by simp [manyL], rfl, hT⟩
  case round =>
    clear hT
    obtain ⟨g, c, n, S, hgk, rfl, hT⟩ := hrel
    have HGK := Lib.hid hgk
    clear hgk
    cases n with
    | zero =>
      have hS : S = [] := List.eq_nil_of_length_eq_zero hT.s.2.2.symm
      subst hS
      have HT := Lib.hid hT
      clear hT
      go_wp2_with fail
      go_end0
      exact .inl ⟨rfl, HT.out.gr, HT.out.j⟩
    | succ n =>
      obtain ⟨S', x, hS, s5, b5, m5, e0, e1, e2, e3, e4, e5⟩ := hT.s.top
      have hle := hT.le
      have hman : manyL (S.map Prod.fst) = manyL (S'.map Prod.fst) + many x.1 := by rw [hS]; simp [manyL_append, manyL]
      have hnb : n ≤ 1000000 := by
        have h1 := length_le_manyL (S.map Prod.fst)
        have h2 := hT.s.2.2
        rw [List.length_map] at h1
        omega
      have HX := Lib.hid (hT.iS x (by rw [hS]; simp))
      have HIS : Hid (∀ y ∈ S', In wr B y.1 ∧ y.2 + many y.1 ≤ 1 + many t) := fun y hy => hT.iS y (by rw [hS]; simp [hy])
      have HJ : Hid (J (S' ++ [x]) wr) := by show J _ _; rw [← hS]; exact hT.j
      have HGR := Lib.hid hT.gr
      have HGK2 : Hid (gk = manyL (S'.map Prod.fst) + many x.1) := by show _ = _; rw [HGK.out, hman]
      have HLE : Hid (manyL (S'.map Prod.fst) + many x.1 ≤ many t) := by show _ ≤ _; rw [← hman]; exact hle
      have HS5 := Lib.hid s5
      have hsz := HGR.out.size
      have hlt := s5.lt
      have hgb := s5.1
      clear HGK hT hS hle hman s5
      unfold maxLen at m5
      have hng : ¬ g = wr.heap.size := by omega
      have hkl := length_lt_many x.1
      have hkl2 : x.1.kids.length ≤ 1000000 := by have := HLE.out; omega
      have hd2 : x.2 ≤ 1000001 := by have := HX.out.2; omega
      have hb0 : Below wr.heap.size wr (wr.alloc (.cells #[.int .u8 x.1.kind, .string x.1.text, .int .i64 x.1.num, .int .i64 x.1.place, .slice x.1.addr x.1.kids.length x.1.cap, .int .i64 x.2] 42)) := (Below.refl _ _).alloc (Nat.le_refl _) _
      have HC := Lib.hid (HV.out S' x _ (HJK.out _ _ _ HJ.out (hb0.mono hsz) hsz) (HX.out.1.under (hb0.mono (by omega))) (by simp; omega) hd2 hkl2)
      unfold Nd.look Nd.row at HC
      clear hb0
      go_wp2_with fail
      refine HC.out.mono ?_
      rintro e w1 (⟨rfl, hgr, hj⟩ | ⟨rfl, hgr, hout⟩)
      · have HP := Lib.hid (Puts.start (t := t) HS5.out HX.out.1 (fun y hy => (HIS.out y hy).1) HGR.out hbm hBm hgr hj)
        have hsl : wr.heap.size < w1.heap.size := by have := hgr.size; simp at this; omega
        have HD : Hid (∀ y ∈ S', y.2 + many y.1 ≤ 1 + many t) := fun y hy => (HIS.out y hy).2
        have HDX := Lib.hid HX.out.2
        have HGR0 := Lib.hid (show w.heap.size ≤ wr.heap.size from hsz)
        clear hgr hj HS5 HC HJ HX HIS HGR e0 e1 e2 e3 e4 e5
        obtain ⟨lb, hlb⟩ : ∃ lb, lb = wr.heap.size := ⟨_, rfl⟩
        rw [← hlb] at HP hsl hng hsz hlt ⊢
        have HLB := Lib.hid hlb
        clear hlb
        obtain ⟨q0, q1, q2, q3, q4, q5, _⟩ := HP.out.box
        go_wp2_with fail
        clear q0 q1 q2 q3 q4 q5
        go_loopg [4, 32] x.1.kids.length (fun gh v4 v32 w2 => ∃ (k g c : Nat), k ≤ x.1.kids.length ∧ gh = x.1.kids.length - k ∧ v4 = .slice (some ⟨g, 0, none⟩) (n + k) c ∧ v32 = .int .i64 k ∧ Puts t x J S' B w bm lb k g c n w2 ∧ lb < w2.heap.size)
        case atStart => exact ⟨0, g, c, by omega, by omega, rfl, rfl, HP.out, hsl⟩
        case round =>
          obtain ⟨k, g, c, hk, hgk, rfl, rfl, hP, hl2⟩ := hrel
          have HG2 := Lib.hid hgk
          clear hgk
          clear hgb hlt HP hng b5 m5
          by_cases hkk : k < x.1.kids.length
          · obtain ⟨y, hy⟩ : ∃ y, x.1.kids[k]? = some y := ⟨_, List.getElem?_eq_getElem hkk⟩
            obtain ⟨cb, co, hca, hcb, d0, d1, d2, d3, d4⟩ := hP.ix.list.at_ hy
            obtain ⟨q0, q1, q2, q3, q4, q5, _⟩ := hP.box
            have hlt2 := hP.s.lt
            have hgb2 := hP.s.1
            have hsz2 := hP.gr.size
            have HP := Lib.hid hP
            have HY := Lib.hid hy
            clear hP hy q0 q1 q2 q3 q4
            rw [hca]
            have n1 : ¬ lb = wr.heap.size := by omega
            have n2 : ¬ lb = wr.heap.size + 1 := by omega
            go_wp2_with (at_builtin; refine wpList_append_stack rfl (.tmp 36) (.tmp 42) 50 rfl w.heap.size 42 i0 _ 6 72 Tryd.underlying50 HI.out HZ.out.1 HZ.out.2.1 HZ.out.2.2 rfl (by decide) g (n + k) c (cells6 (S' ++ put6 (x.2 + 1) (x.1.kids.take k))) rfl (((HP.out.s.keep (heap_alloc_old _ _ hlt2)).keep (heap_alloc_old _ _ (by simp; omega))).2.1) (some ⟨wr.heap.size + 1, 0, none⟩) 1 1 rfl (fun h => by cases h) (cs6 (y, x.2 + 1)) rfl ?c1 (cs6_oneCell _) ?c2 ?c3 ?c4 ?next)
            case c1 =>
              intro ad had j u hju
              injection had with had
              subst had
              have hj6 : j < 6 := (List.getElem?_eq_some_iff.1 hju).1
              have hn := heap_alloc_new (wr.alloc (.cells #[.int .u8 y.kind, .string y.text, .int .i64 y.num, .int .i64 y.place, .slice y.addr y.kids.length y.cap] 25)) (.cells (cs6 (y, x.2 + 1)).toArray 42)
              have hs1 : (wr.alloc (.cells #[.int .u8 y.kind, .string y.text, .int .i64 y.num, .int .i64 y.place, .slice y.addr y.kids.length y.cap] 25)).heap.size = wr.heap.size + 1 := by simp
              rw [hs1] at hn
              have hadd : (⟨wr.heap.size + 1, 0, none⟩ : Addr).add j = ⟨wr.heap.size + 1, j, none⟩ := by unfold Addr.add; split <;> simp_all
              rw [hadd]
              have hcell : ((wr.alloc (.cells #[.int .u8 y.kind, .string y.text, .int .i64 y.num, .int .i64 y.place, .slice y.addr y.kids.length y.cap] 25)).alloc (.cells (cs6 (y, x.2 + 1)).toArray 42)).cell? ⟨wr.heap.size + 1, j, none⟩ = some u := by
                simp only [World.cell?, hn]
                simpa using hju
              exact hcell
            case c2 => unfold maxLen; omega
            case c3 => omega
            case c4 => simp; omega
            case next =>
              intro g' c' w3 ho hgr hp
              obtain ⟨hP', hb3⟩ := Puts.step HP.out HY.out hbm hBm HJK.out hl2 hsz ho hgr hp
              have hl3 : lb < w3.heap.size := by have := hb3.size; have := hgr.size; simp at this; omega
              clear ho hgr hp d0 d1 d2 d3 d4 q5
              go_wp2_with fail
              rw [← hca]
              go_roundg (x.1.kids.length - (k + 1))
              case rel => exact ⟨k + 1, g', c', by omega, rfl, rfl, by go_num, hP', hl3⟩
              case measure => rw [HG2.out]; omega
          · have hke : k = x.1.kids.length := by omega
            subst hke
            have HP := Lib.hid hP
            clear hP
            go_wp2_with fail
            have hput : x.1.kids.take x.1.kids.length = x.1.kids := List.take_length
            go_roundg (manyL (S'.map Prod.fst) + manyL x.1.kids)
            case rel =>
              refine ⟨g, c, n + x.1.kids.length, S' ++ put6 (x.2 + 1) x.1.kids, by rw [manyL_put], rfl, ?_⟩
              have hp := HP.out
              refine ⟨by have := hp.s; rw [hput] at this; exact this, fun z hz => ?_, ?_, hp.j, hp.gr⟩
              · rcases List.mem_append.1 hz with hz | hz
                · exact ⟨hp.iS z hz, HD.out z hz⟩
                · obtain ⟨y, hy, rfl⟩ := List.mem_map.1 hz
                  have h1 := manyL_mem hy
                  have h2 := HDX.out
                  rw [many_eq] at h2
                  exact ⟨hp.ix.list.each y hy, by simp only; omega⟩
              · rw [manyL_put]
                have := HLE.out
                rw [many_eq] at this
                omega
            case measure => rw [HGK2.out, many_eq]; omega
      · go_wp2_with fail
        refine ⟨rfl, ?_⟩
        exact .inr ⟨rfl, grown_trans (grown_trans HGR.out (grown_of_below ((Below.refl _ _).alloc (Nat.le_refl _) _) _)) hgr, hout⟩
set_option maxHeartbeats 1000000 in
theorem DeepS1_any (t : Nd) (d m : Nat) (bm : Nat) (w : World) (hd : d ≤ 1000001) (hm : m ≤ 10000000) (cm : w.cell? ⟨bm, 0, none⟩ = some (.int .i64 (m : Int))) (fm : w.frozen? ⟨bm, 0, none⟩ = false) :
    Calls Tryd.prog 20 #[t.look (d : Int), .pointer (some ⟨bm, 0, none⟩)] w fun e w' => e = .returned (.tuple #[]) ∧ w.grownBy w' (some bm) ∧ w'.cell? ⟨bm, 0, none⟩ = some (.int .i64 ((max m d : Nat) : Int)) ∧ w'.frozen? ⟨bm, 0, none⟩ = false := by
  have hbm : bm < w.heap.size := World.block_lt_of_cell? _ _ cm
  unfold Nd.look Nd.row
  go_enter Tryd.func20, Tryd.ntmps20
  go_wp2_with fail
  go_end0
  have hmx : (max (m : Int) (d : Int)) = ((max m d : Nat) : Int) := by omega
  rw [hmx]
  refine ⟨rfl, set_grown w bm _ _ hbm, ?_, ?_⟩ <;> simp [go_sem, cm, fm, hbm]
theorem Deep_each (t : Nd) (w : World) (B bm : Nat) (h : In w B t) (hB : B ≤ w.heap.size) (hBm : B ≤ bm) (hm : many t ≤ 1000000) (cm : w.cell? ⟨bm, 0, none⟩ = some (.int .i64 0)) (fm : w.frozen? ⟨bm, 0, none⟩ = false) :
    Calls Tryd.prog 19 #[t.val, .func (.func 20) #[] #[.pointer (some ⟨bm, 0, none⟩)]] w fun e w' =>
      e = .returned (.tuple #[]) ∧ w.grownBy w' (some bm) ∧ w'.cell? ⟨bm, 0, none⟩ = some (.int .i64 (deep t : Nat)) := by
  have hbm : bm < w.heap.size := World.block_lt_of_cell? _ _ cm
  have hdm : deep t ≤ 1000001 := by have := deep_le_many t; omega
  have hj0 : DJ t bm [(t, 1)] w := ⟨⟨0, cm, by simp [dS]⟩, fm⟩
  refine (each_deep t w B bm (DJ t bm) False h hB hBm hbm hm hj0 (fun S W W' hj hb _ => hj.keep hb hbm) ?_).mono ?_
  · intro S x W hj hx hsz hd hl
    obtain ⟨⟨m, h4, h5⟩, h6⟩ := hj
    refine (DeepS1_any x.1 x.2 m bm W hd (by omega) h4 h6).mono ?_
    rintro e w' ⟨rfl, hg, c1, c2⟩
    refine .inl ⟨rfl, hg, ⟨max m x.2, c1, ?_⟩, c2⟩
    have h7 := dS_put x.2 x.1.kids
    have h8 := deep_eq x.1
    rw [dS_append] at h5 ⊢
    simp only [dS] at h5
    omega
  · rintro e w' (⟨rfl, hg, ⟨m, h4, h5⟩, _⟩ | ⟨_, _, hf⟩)
    · refine ⟨rfl, hg, ?_⟩
      rw [h4]
      simp only [dS] at h5
      rw [← h5]
      simp
    · exact hf.elim
set_option maxHeartbeats 1000000 in
theorem Deep_any (t : Nd) (w : World) (B : Nat) (h : In w B t) (hB : B ≤ w.heap.size) (hm : many t ≤ 1000000) :
    Calls Tryd.prog 10 #[t.val] w fun e w' => e = .returned (.int .i64 (deep t : Nat)) ∧ Below w.heap.size w w' := by
  have hmf : ∀ (fn : Fn) (first cap : Array Value) (w : World), (Instr.makeFunc fn first cap).run Tryd.prog w = .ok (.func fn first cap) w := fun _ _ _ _ => rfl
  have hb : Below w.heap.size w ((w.alloc (.cells #[.int .u8 t.kind, .string t.text, .int .i64 t.num, .int .i64 t.place, .slice t.addr t.kids.length t.cap] 25)).alloc (.cells #[.int .i64 0] 3)) := ((Below.refl _ _).alloc (Nat.le_refl _) _).alloc (by simp) _
  have HB := Lib.hid hb
  have HE := Lib.hid (Deep_each t ((w.alloc (.cells #[.int .u8 t.kind, .string t.text, .int .i64 t.num, .int .i64 t.place, .slice t.addr t.kids.length t.cap] 25)).alloc (.cells #[.int .i64 0] 3)) B (w.heap.size + 1) (h.under (hb.mono hB)) (by simp; omega) (by omega) hm (by simp [go_sem]) (by simp [go_sem]))
  clear hb h
  unfold Nd.val Nd.row at HE ⊢
  go_enter Tryd.func10, Tryd.ntmps10
  go_wp2_with fail
  refine HE.out.mono ?_
  rintro e w5 ⟨rfl, hg, hc⟩
  have HG : Hid (Below w.heap.size w w5) := (HB.out).trans (below_of_grown hg (by simp; omega) (fun k hk => by injection hk; omega))
  clear hg
  go_wp2_with fail
  go_ret
  exact ⟨rfl, HG.out⟩
end Go.Proofs.YtldedhfbpongmaaDoor
