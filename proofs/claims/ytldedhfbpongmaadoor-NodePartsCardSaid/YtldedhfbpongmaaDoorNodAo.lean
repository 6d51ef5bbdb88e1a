/- each: the stack of looks over whatever a visitor keeps. -/
import Derived.Test.YtldedhfbpongmaaDoorNodAm
import Derived.Test.YtldedhfbpongmaaDoorNodAn
set_option maxRecDepth 100000
namespace NodT
open Go Go.RowKit
set_option linter.unusedVariables false
def put6 (d : Nat) (ts : List Nd) : List Lk := ts.map fun k => (k, d)
theorem put6_length (d : Nat) (ts : List Nd) : (put6 d ts).length = ts.length := by simp [put6]
theorem manyL_put (S : List Lk) (d : Nat) (ts : List Nd) : manyL ((S ++ put6 d ts).map Prod.fst) = manyL (S.map Prod.fst) + manyL ts := by
  rw [List.map_append, manyL_append]
  congr 1
  simp [put6, Function.comp_def]
theorem put6_take (d k : Nat) (ts : List Nd) (y : Nd) (hy : ts[k]? = some y) : put6 d (ts.take (k + 1)) = put6 d (ts.take k) ++ [(y, d)] := by
  rw [List.take_add_one, hy]
  simp [put6]
theorem manyL_take_le (ts : List Nd) (k : Nat) : manyL (ts.take k) ≤ manyL ts := by
  conv => rhs; rw [← List.take_append_drop k ts, manyL_append]
  omega
/-- The stack of looks after some rounds: J is what the visitor keeps. -/
structure Goes (t : Nd) (J : List Lk → World → Prop) (S : List Lk) (B : Nat) (w : World) (bm : Nat) (e : TypeId) (g c n : Nat) (wr : World) : Prop where
  s : Stack6 wr w.heap.size e g n c S
  iS : ∀ x ∈ S, In wr B x.1 ∧ x.2 + many x.1 ≤ 1 + many t
  le : manyL (S.map Prod.fst) ≤ many t
  j : J S wr
  gr : w.grownBy wr (some bm)
theorem Goes.start {t : Nd} {J : List Lk → World → Prop} {B : Nat} {w W : World} {bm : Nat} {e : TypeId} {g : Nat} (hW : Below w.heap.size w W) (h : In w B t) (hB : B ≤ w.heap.size) (hj : J [(t, 1)] W) (s : Stack6 W w.heap.size e g 1 1 [(t, 1)]) : Goes t J [(t, 1)] B w bm e g 1 1 W :=
  ⟨s, fun x hx => by obtain rfl := List.mem_singleton.1 hx; exact ⟨h.under (hW.mono hB), by simp⟩, by simp [manyL], hj, grown_of_below hW _⟩
theorem grown_trans {a b c : World} {r : Option Nat} (h : a.grownBy b r) (k : b.grownBy c r) : a.grownBy c r :=
  ⟨k.os.trans h.os, k.tape.trans h.tape, k.output.trans h.output, Nat.le_trans h.size k.size, fun i hi hne => (k.block i (Nat.lt_of_lt_of_le hi h.size) hne).trans (h.block i hi hne)⟩
theorem grown_low {a b c : World} {r : Option Nat} (h : a.grownBy b r) (k : Below a.heap.size b c) : a.grownBy c r :=
  ⟨k.os.trans h.os, k.tape.trans h.tape, k.output.trans h.output, Nat.le_trans h.size k.size, fun i hi hne => (k.block i hi).trans (h.block i hi hne)⟩
end NodT
namespace Go.Proofs.YtldedhfbpongmaaDoor
open Go.Instr Go.RowKit NodT
set_option linter.unusedVariables false
theorem Tryd.infoLook : (Tryd.prog.info? 42).map (fun i => (i.zero, i.size, i.bytes)) = some (some (.agg #[.int .u8 0, .string ⟨#[]⟩, .int .i64 0, .int .i64 0, .slice none 0 0, .int .i64 0]), 6, 72) := by kernel_rfl
/-- What lies there while a node's kids are put on the stack. -/
structure Puts (t : Nd) (x : Lk) (J : List Lk → World → Prop) (S : List Lk) (B : Nat) (w : World) (bm lb k : Nat) (g c n : Nat) (wr : World) : Prop where
  s : Stack6 wr w.heap.size 42 g (n + k) c (S ++ put6 (x.2 + 1) (x.1.kids.take k))
  box : LookBox wr lb x.1 (x.2 : Int) x.1.addr x.1.kids.length x.1.cap
  iS : ∀ y ∈ S, In wr B y.1
  ix : In wr B x.1
  j : J (S ++ put6 (x.2 + 1) x.1.kids) wr
  gr : w.grownBy wr (some bm)
  ne : g ≠ lb
theorem Puts.start {t : Nd} {x : Lk} {J : List Lk → World → Prop} {S : List Lk} {B : Nat} {w : World} {bm g c n : Nat} {wr w1 : World} (hs : Stack6 wr w.heap.size 42 g n c S) (hx : In wr B x.1) (hi : ∀ y ∈ S, In wr B y.1) (hg : w.grownBy wr (some bm)) (hbm : bm < w.heap.size) (hB : B ≤ bm)
    (hgr : (wr.alloc (.cells #[.int .u8 x.1.kind, .string x.1.text, .int .i64 x.1.num, .int .i64 x.1.place, .slice x.1.addr x.1.kids.length x.1.cap, .int .i64 x.2] 42)).grownBy w1 (some bm)) (hj : J (S ++ put6 (x.2 + 1) x.1.kids) w1) : Puts t x J S B w bm wr.heap.size 0 g c n w1 := by
  have hsz := hg.size
  have hlt := hs.lt
  have hgb := hs.1
  have hb : Below B wr w1 := (((Below.refl B wr).alloc (by omega) _).grown hgr (by simp; omega) (fun k hk => by injection hk; omega))
  have hsz2 : (wr.alloc (.cells #[.int .u8 x.1.kind, .string x.1.text, .int .i64 x.1.num, .int .i64 x.1.place, .slice x.1.addr x.1.kids.length x.1.cap, .int .i64 x.2] 42)).heap.size = wr.heap.size + 1 := by simp
  refine ⟨?_, ?_, fun y hy => (hi y hy).under hb, hx.under hb, hj, grown_trans (grown_trans hg (grown_of_below ((Below.refl _ _).alloc (Nat.le_refl _) _) _)) hgr, by omega⟩
  · have h1 : Stack6 w1 w.heap.size 42 g n c S := hs.keep ((hgr.block g (by omega) (by intro h; injection h; omega)).trans (heap_alloc_old _ _ hlt))
    simpa [put6] using h1
  · have h0 : LookBox (wr.alloc (.cells #[.int .u8 x.1.kind, .string x.1.text, .int .i64 x.1.num, .int .i64 x.1.place, .slice x.1.addr x.1.kids.length x.1.cap, .int .i64 x.2] 42)) wr.heap.size x.1 (x.2 : Int) x.1.addr x.1.kids.length x.1.cap := by constructor <;> simp [go_sem]
    exact h0.keep (hgr.block _ (by omega) (by intro h; injection h; omega))
theorem Puts.step {t : Nd} {x : Lk} {J : List Lk → World → Prop} {S : List Lk} {B : Nat} {w : World} {bm lb k g c n g' c' : Nat} {wr w1 : World} {o1 o2 : Obj} {y : Nd} (h : Puts t x J S B w bm lb k g c n wr) (hy : x.1.kids[k]? = some y) (hbm : bm < w.heap.size) (hB : B ≤ bm)
    (hjk : ∀ S W W', J S W → Below w.heap.size W W' → w.heap.size ≤ W.heap.size → J S W') (hlb : lb < wr.heap.size) (hlw : w.heap.size ≤ lb)
    (ho : w1.ownsRow w.heap.size 42 6 (.slice (some ⟨g', 0, none⟩) (n + k + 1) c') (n + k + 1) (cells6 (S ++ put6 (x.2 + 1) (x.1.kids.take k)) ++ cs6 (y, x.2 + 1))) (hgr : ((wr.alloc o1).alloc o2).grownBy w1 (some g)) (hp : g' = g ∨ wr.heap.size + 1 + 1 ≤ g') : Puts t x J S B w bm lb (k + 1) g' c' n w1 ∧ Below w.heap.size wr w1 := by
  have hsz := h.gr.size
  have hlt := h.s.lt
  have hgb := h.s.1
  have hb : Below w.heap.size wr w1 := (((Below.refl _ _).alloc hsz _).alloc (by simp; omega) _).grown hgr (by simp; omega) (fun k hk => by injection hk; omega)
  have hbB := hb.mono (show B ≤ w.heap.size by omega)
  have hs2 : ((wr.alloc o1).alloc o2).heap.size = wr.heap.size + 1 + 1 := by simp
  refine ⟨⟨⟨by rcases hp with rfl | hp <;> omega, ?_, ?_⟩, ?_, fun y hy => (h.iS y hy).under hbB, h.ix.under hbB, hjk _ _ _ h.j hb hsz, grown_low h.gr hb, ?_⟩, hb⟩
  · rw [put6_take _ _ _ _ hy, ← List.append_assoc, cells6_append, cells6_one]
    exact ho
  · have h2 := h.s.2.2
    have h3 : k < x.1.kids.length := (List.getElem?_eq_some_iff.1 hy).1
    simp only [List.length_append, put6_length, List.length_take] at h2 ⊢
    omega
  · refine h.box.keep ((hgr.block lb (by omega) (by have := h.ne; intro h; injection h; omega)).trans ?_)
    rw [heap_alloc_old _ _ (by simp; omega), heap_alloc_old _ _ hlb]
  · have := h.ne
    rcases hp with rfl | hp <;> omega
set_option maxHeartbeats 4000000 in
theorem each_right (t : Nd) (w : World) (B bm bn : Nat) (J : List Lk → World → Prop) (Out : Prop) (h : In w B t) (hB : B ≤ w.heap.size) (hBm : B ≤ bm) (hbm : bm < w.heap.size) (hm : many t ≤ 1000000)
    (hj0 : J [(t, 1)] w) (hjk : ∀ S W W', J S W → Below w.heap.size W W' → w.heap.size ≤ W.heap.size → J S W')
    (hv : ∀ S x W, J (S ++ [x]) W → In W B x.1 → w.heap.size ≤ W.heap.size → x.2 ≤ 1000001 → x.1.kids.length ≤ 1000000 → Calls Tryd.prog 25 #[x.1.look (x.2 : Int), .pointer (some ⟨bm, 0, none⟩), .pointer (some ⟨bn, 0, none⟩)] W fun e w' =>
      (e = .returned (.tuple #[]) ∧ W.grownBy w' (some bm) ∧ J (S ++ put6 (x.2 + 1) x.1.kids) w') ∨ (e = .panicked misfits ∧ W.grownBy w' (some bm) ∧ Out)) :
    Calls Tryd.prog 19 #[t.val, .func (.func 25) #[] #[.pointer (some ⟨bm, 0, none⟩), .pointer (some ⟨bn, 0, none⟩)]] w fun e w' =>
      (e = .returned (.tuple #[]) ∧ w.grownBy w' (some bm) ∧ J [] w') ∨ (e = .panicked misfits ∧ w.grownBy w' (some bm) ∧ Out) := by
  obtain ⟨i0, hi, hz0, hz1, hz2⟩ := info_parts Tryd.infoLook
  have HI := Lib.hid hi
  have HZ := Lib.hid (And.intro hz0 (And.intro hz1 hz2))
  clear hi hz0 hz1 hz2
  have H1 := Lib.hid h
  have HV := Lib.hid hv
  have HJK := Lib.hid hjk
  have HJ0 := Lib.hid hj0
  clear h hv hjk hj0
  have hT : Goes t J [(t, 1)] B w bm 42 (w.heap.size + 1) 1 1 ((w.alloc (.cells #[.int .u8 t.kind, .string t.text, .int .i64 t.num, .int .i64 t.place, .slice t.addr t.kids.length t.cap] 25)).alloc (.cells #[.int .u8 t.kind, .string t.text, .int .i64 t.num, .int .i64 t.place, .slice t.addr t.kids.length t.cap, .int .i64 1] 42)) := by
    have hb : Below w.heap.size w ((w.alloc (.cells #[.int .u8 t.kind, .string t.text, .int .i64 t.num, .int .i64 t.place, .slice t.addr t.kids.length t.cap] 25)).alloc (.cells #[.int .u8 t.kind, .string t.text, .int .i64 t.num, .int .i64 t.place, .slice t.addr t.kids.length t.cap, .int .i64 1] 42)) := ((Below.refl _ _).alloc (Nat.le_refl _) _).alloc (by simp) _
    refine Goes.start hb H1.out hB (HJK.out _ _ _ HJ0.out hb (Nat.le_refl _)) ?_
    have := stack6_lit (w.alloc (.cells #[.int .u8 t.kind, .string t.text, .int .i64 t.num, .int .i64 t.place, .slice t.addr t.kids.length t.cap] 25)) w.heap.size 42 (t, 1) (by simp)
    rw [show (w.alloc (.cells #[.int .u8 t.kind, .string t.text, .int .i64 t.num, .int .i64 t.place, .slice t.addr t.kids.length t.cap] 25)).heap.size = w.heap.size + 1 from by simp] at this
    exact this
  unfold Nd.val Nd.row
  go_enter Tryd.func19, Tryd.ntmps19
  go_wp2_with fail
  generalize ((w.alloc (.cells #[.int .u8 t.kind, .string t.text, .int .i64 t.num, .int .i64 t.place, .slice t.addr t.kids.length t.cap] 25)).alloc (.cells #[.int .u8 t.kind, .string t.text, .int .i64 t.num, .int .i64 t.place, .slice t.addr t.kids.length t.cap, .int .i64 1] 42)) = W1 at *
  go_loopg [4] (many t) (fun gh v4 wr => ∃ (g c n : Nat) (S : List Lk), gh = manyL (S.map Prod.fst) ∧ v4 = .slice (some ⟨g, 0, none⟩) n c ∧ Goes t J S B w bm 42 g c n wr)
  case atStart => exact ⟨_, _, _, [(t, 1)], by simp [manyL], rfl, hT⟩
  case round =>
    clear hT
    obtain ⟨g, c, n, S, hgk, rfl, hT⟩ := hrel
    have HGK := Lib.hid hgk
    clear hgk
    cases n with
    | zero =>
      have hS : S = [] := List.eq_nil_of_length_eq_zero hT.s.2.2.symm
      subst hS
      have HT := Lib.hid hT
      clear hT
      go_wp2_with fail
      go_end0
      exact .inl ⟨rfl, HT.out.gr, HT.out.j⟩
    | succ n =>
      obtain ⟨S', x, hS, s5, b5, m5, e0, e1, e2, e3, e4, e5⟩ := hT.s.top
      have hle := hT.le
      have hman : manyL (S.map Prod.fst) = manyL (S'.map Prod.fst) + many x.1 := by rw [hS]; simp [manyL_append, manyL]
      have hnb : n ≤ 1000000 := by
        have h1 := length_le_manyL (S.map Prod.fst)
        have h2 := hT.s.2.2
        rw [List.length_map] at h1
        omega
      have HX := Lib.hid (hT.iS x (by rw [hS]; simp))
      have HIS : Hid (∀ y ∈ S', In wr B y.1 ∧ y.2 + many y.1 ≤ 1 + many t) := fun y hy => hT.iS y (by rw [hS]; simp [hy])
      have HJ : Hid (J (S' ++ [x]) wr) := by show J _ _; rw [← hS]; exact hT.j
      have HGR := Lib.hid hT.gr
      have HGK2 : Hid (gk = manyL (S'.map Prod.fst) + many x.1) := by show _ = _; rw [HGK.out, hman]
      have HLE : Hid (manyL (S'.map Prod.fst) + many x.1 ≤ many t) := by show _ ≤ _; rw [← hman]; exact hle
      have HS5 := Lib.hid s5
      have hsz := HGR.out.size
      have hlt := s5.lt
      have hgb := s5.1
      clear HGK hT hS hle hman s5
      unfold maxLen at m5
      have hng : ¬ g = wr.heap.size := by omega
      have hkl := length_lt_many x.1
      have hkl2 : x.1.kids.length ≤ 1000000 := by have := HLE.out; omega
      have hd2 : x.2 ≤ 1000001 := by have := HX.out.2; omega
      have hb0 : Below wr.heap.size wr (wr.alloc (.cells #[.int .u8 x.1.kind, .string x.1.text, .int .i64 x.1.num, .int .i64 x.1.place, .slice x.1.addr x.1.kids.length x.1.cap, .int .i64 x.2] 42)) := (Below.refl _ _).alloc (Nat.le_refl _) _
      have HC := Lib.hid (HV.out S' x _ (HJK.out _ _ _ HJ.out (hb0.mono hsz) hsz) (HX.out.1.under (hb0.mono (by omega))) (by simp; omega) hd2 hkl2)
      unfold Nd.look Nd.row at HC
      clear hb0
      go_wp2_with fail
      refine HC.out.mono ?_
      rintro e w1 (⟨rfl, hgr, hj⟩ | ⟨rfl, hgr, hout⟩)
      · have HP := Lib.hid (Puts.start (t := t) HS5.out HX.out.1 (fun y hy => (HIS.out y hy).1) HGR.out hbm hBm hgr hj)
        have hsl : wr.heap.size < w1.heap.size := by have := hgr.size; simp at this; omega
        have HD : Hid (∀ y ∈ S', y.2 + many y.1 ≤ 1 + many t) := fun y hy => (HIS.out y hy).2
        have HDX := Lib.hid HX.out.2
        have HGR0 := Lib.hid (show w.heap.size ≤ wr.heap.size from hsz)
        clear hgr hj HS5 HC HJ HX HIS HGR e0 e1 e2 e3 e4 e5
        obtain ⟨lb, hlb⟩ : ∃ lb, lb = wr.heap.size := ⟨_, rfl⟩
        rw [← hlb] at HP hsl hng hsz hlt ⊢
        have HLB := Lib.hid hlb
        clear hlb
        obtain ⟨q0, q1, q2, q3, q4, q5, _⟩ := HP.out.box
        go_wp2_with fail
        clear q0 q1 q2 q3 q4 q5
        go_loopg [4, 32] x.1.kids.length (fun gh v4 v32 w2 => ∃ (k g c : Nat), k ≤ x.1.kids.length ∧ gh = x.1.kids.length - k ∧ v4 = .slice (some ⟨g, 0, none⟩) (n + k) c ∧ v32 = .int .i64 k ∧ Puts t x J S' B w bm lb k g c n w2 ∧ lb < w2.heap.size)
        case atStart => exact ⟨0, g, c, by omega, by omega, rfl, rfl, HP.out, hsl⟩
        case round =>
          obtain ⟨k, g, c, hk, hgk, rfl, rfl, hP, hl2⟩ := hrel
          have HG2 := Lib.hid hgk
          clear hgk
          clear hgb hlt HP hng b5 m5
          by_cases hkk : k < x.1.kids.length
          · obtain ⟨y, hy⟩ : ∃ y, x.1.kids[k]? = some y := ⟨_, List.getElem?_eq_getElem hkk⟩
            obtain ⟨cb, co, hca, hcb, d0, d1, d2, d3, d4⟩ := hP.ix.list.at_ hy
            obtain ⟨q0, q1, q2, q3, q4, q5, _⟩ := hP.box
            have hlt2 := hP.s.lt
            have hgb2 := hP.s.1
            have hsz2 := hP.gr.size
            have HP := Lib.hid hP
            have HY := Lib.hid hy
            clear hP hy q0 q1 q2 q3 q4
            rw [hca]
            have n1 : ¬ lb = wr.heap.size := by omega
            have n2 : ¬ lb = wr.heap.size + 1 := by omega
            go_wp2_with (at_builtin; refine wpList_append_stack rfl (.tmp 36) (.tmp 42) 50 rfl w.heap.size 42 i0 _ 6 72 Tryd.underlying50 HI.out HZ.out.1 HZ.out.2.1 HZ.out.2.2 rfl (by decide) g (n + k) c (cells6 (S' ++ put6 (x.2 + 1) (x.1.kids.take k))) rfl (((HP.out.s.keep (heap_alloc_old _ _ hlt2)).keep (heap_alloc_old _ _ (by simp; omega))).2.1) (some ⟨wr.heap.size + 1, 0, none⟩) 1 1 rfl (fun h => by cases h) (cs6 (y, x.2 + 1)) rfl ?c1 (cs6_oneCell _) ?c2 ?c3 ?c4 ?next)
            case c1 =>
              intro ad had j u hju
              injection had with had
              subst had
              have hj6 : j < 6 := (List.getElem?_eq_some_iff.1 hju).1
              have hn := heap_alloc_new (wr.alloc (.cells #[.int .u8 y.kind, .string y.text, .int .i64 y.num, .int .i64 y.place, .slice y.addr y.kids.length y.cap] 25)) (.cells (cs6 (y, x.2 + 1)).toArray 42)
              have hs1 : (wr.alloc (.cells #[.int .u8 y.kind, .string y.text, .int .i64 y.num, .int .i64 y.place, .slice y.addr y.kids.length y.cap] 25)).heap.size = wr.heap.size + 1 := by simp
              rw [hs1] at hn
              have hadd : (⟨wr.heap.size + 1, 0, none⟩ : Addr).add j = ⟨wr.heap.size + 1, j, none⟩ := by unfold Addr.add; split <;> simp_all
              rw [hadd]
              have hcell : ((wr.alloc (.cells #[.int .u8 y.kind, .string y.text, .int .i64 y.num, .int .i64 y.place, .slice y.addr y.kids.length y.cap] 25)).alloc (.cells (cs6 (y, x.2 + 1)).toArray 42)).cell? ⟨wr.heap.size + 1, j, none⟩ = some u := by
                simp only [World.cell?, hn]
                simpa using hju
              exact hcell
            case c2 => unfold maxLen; omega
            case c3 => omega
            case c4 => simp; omega
            case next =>
              intro g' c' w3 ho hgr hp
              obtain ⟨hP', hb3⟩ := Puts.step HP.out HY.out hbm hBm HJK.out hl2 hsz ho hgr hp
              have hl3 : lb < w3.heap.size := by have := hb3.size; have := hgr.size; simp at this; omega
              clear ho hgr hp d0 d1 d2 d3 d4 q5
              go_wp2_with fail
              rw [← hca]
              go_roundg (x.1.kids.length - (k + 1))
              case rel => exact ⟨k + 1, g', c', by omega, rfl, rfl, by go_num, hP', hl3⟩
              case measure => rw [HG2.out]; omega
          · have hke : k = x.1.kids.length := by omega
            subst hke
            have HP := Lib.hid hP
            clear hP
            go_wp2_with fail
            have hput : x.1.kids.take x.1.kids.length = x.1.kids := List.take_length
            go_roundg (manyL (S'.map Prod.fst) + manyL x.1.kids)
            case rel =>
              refine ⟨g, c, n + x.1.kids.length, S' ++ put6 (x.2 + 1) x.1.kids, by rw [manyL_put], rfl, ?_⟩
              have hp := HP.out
              refine ⟨by have := hp.s; rw [hput] at this; exact this, fun z hz => ?_, ?_, hp.j, hp.gr⟩
              · rcases List.mem_append.1 hz with hz | hz
                · exact ⟨hp.iS z hz, HD.out z hz⟩
                · obtain ⟨y, hy, rfl⟩ := List.mem_map.1 hz
                  have h1 := manyL_mem hy
                  have h2 := HDX.out
                  rw [many_eq] at h2
                  exact ⟨hp.ix.list.each y hy, by simp only; omega⟩
              · rw [manyL_put]
                have := HLE.out
                rw [many_eq] at this
                omega
            case measure => rw [HGK2.out, many_eq]; omega
      · go_wp2_with fail
        refine ⟨rfl, ?_⟩
        exact .inr ⟨rfl, grown_trans (grown_trans HGR.out (grown_of_below ((Below.refl _ _).alloc (Nat.le_refl _) _) _)) hgr, hout⟩
end Go.Proofs.YtldedhfbpongmaaDoor
