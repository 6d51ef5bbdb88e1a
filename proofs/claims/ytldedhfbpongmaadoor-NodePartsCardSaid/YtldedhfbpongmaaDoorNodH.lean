import Derived.Test.YtldedhfbpongmaaDoorNodC
import Derived.Test.YtldedhfbpongmaaDoorNodF
import Derived.Test.YtldedhfbpongmaaDoorNodQ
import Derived.Test.YtldedhfbpongmaaDoorNodP
set_option maxRecDepth 100000
namespace Go.Proofs.YtldedhfbpongmaaDoor
open Go.Instr Go.RowKit NodT
set_option linter.unusedVariables false

/-- The two stacks after some rounds. -/
structure Two (t u : Nd) (S U : List Nd) (B : Nat) (w : World) (g5 c5 g6 c6 n : Nat) (wr : World) : Prop where
  s5 : Stack wr w.heap.size 25 g5 n c5 S
  s6 : Stack wr w.heap.size 25 g6 n c6 U
  ne : g5 ≠ g6
  iS : ∀ x ∈ S, In wr B x
  iU : ∀ x ∈ U, In wr B x
  eq : sameL S U = same t u
  le : manyL S ≤ many t
  below : Below w.heap.size w wr

theorem Box.drew {w : World} {b : Nat} {t : Nd} (h : Box w b t) : Box w.drew b t := ⟨h.c0, h.c1, h.c2, h.c3, h.c4⟩
theorem Two.start {t u : Nd} {w W : World} {B g5 g6 : Nat} (hW : Below w.heap.size w W) (h1 : In w B t) (h2 : In w B u) (hB : B ≤ w.heap.size) (s5 : Stack W w.heap.size 25 g5 1 1 [t]) (s6 : Stack W w.heap.size 25 g6 1 1 [u]) (ne : g5 ≠ g6) : Two t u [t] [u] B w g5 1 g6 1 1 W :=
  ⟨s5, s6, ne, fun x hx => by obtain rfl := List.mem_singleton.1 hx; exact h1.under (hW.mono hB), fun x hx => by obtain rfl := List.mem_singleton.1 hx; exact h2.under (hW.mono hB), by simp [sameL], by simp [manyL], hW⟩
theorem Two.next {t u x y : Nd} {S U : List Nd} {B : Nat} {w wr W : World} {g5 c5 g6 c6 n : Nat} (hlen : S.length = U.length) (hkl : x.kids.length = y.kids.length) (hn : n = S.length) (h5 : w.heap.size ≤ g5) (h6 : w.heap.size ≤ g6)
    (o5 : W.ownsRow w.heap.size 25 5 (.slice (some ⟨g5, 0, none⟩) (n + x.kids.length) c5) (n + x.kids.length) (cells S ++ cells x.kids)) (o6 : W.ownsRow w.heap.size 25 5 (.slice (some ⟨g6, 0, none⟩) (n + y.kids.length) c6) (n + y.kids.length) (cells U ++ cells y.kids))
    (ne : g5 ≠ g6) (iS : ∀ z ∈ S, In wr B z) (iU : ∀ z ∈ U, In wr B z) (ix : In wr B x) (iy : In wr B y) (hB : B ≤ w.heap.size) (hb0 : Below w.heap.size w wr) (hb : Below w.heap.size wr W) (hs : same x y = sameL x.kids y.kids) (heq : (sameL S U && same x y) = same t u) (hle : manyL S + many x ≤ many t) :
    Two t u (S ++ x.kids) (U ++ y.kids) B w g5 c5 g6 c6 (n + x.kids.length) W := by
  have hbB : Below B wr W := hb.mono hB
  refine ⟨⟨h5, by rw [cells_append]; exact o5, by simp [hn]⟩, ⟨h6, by rw [cells_append, hkl]; exact o6, by simp [hn, hlen, hkl]⟩, ne, fun z hz => ?_, fun z hz => ?_, ?_, ?_, hb0.trans hb⟩
  · rcases List.mem_append.1 hz with h | h
    · exact (iS z h).under hbB
    · exact (ix.list.each z h).under hbB
  · rcases List.mem_append.1 hz with h | h
    · exact (iU z h).under hbB
    · exact (iy.list.each z h).under hbB
  · rw [sameL_append hlen, ← hs, heq]
  · rw [manyL_append]; rw [many_eq] at hle; omega
set_option maxHeartbeats 2000000 in
theorem Same_any (t u : Nd) (w : World) (B : Nat) (h1 : In w B t) (h2 : In w B u) (hB : B ≤ w.heap.size) (hm : many t ≤ 1000000) :
    Calls Tryd.prog 9 #[t.val, u.val] w fun e w' => e = .returned (.bool (same t u)) ∧ Below w.heap.size w w' := by
  obtain ⟨i0, hi, hz0, hz1, hz2⟩ := info_parts Tryd.infoNode
  have HI := Lib.hid hi
  have HZ := Lib.hid (And.intro hz0 (And.intro hz1 hz2))
  clear hi hz0 hz1 hz2
  have H1 := Lib.hid h1
  have H2 := Lib.hid h2
  clear h1 h2
  unfold Nd.val Nd.row
  go_enter Tryd.func9, Tryd.ntmps9
  go_upto_region 1 with fail
  go_cut [5, 6] (fun v5 v6 wr => ∃ (g5 c5 g6 c6 : Nat), v5 = .slice (some ⟨g5, 0, none⟩) 1 c5 ∧ v6 = .slice (some ⟨g6, 0, none⟩) 1 c6 ∧ Two t u [t] [u] B w g5 c5 g6 c6 1 wr)
  case first =>
    go_region
    · go_wp2_with fail
      go_meet
      obtain ⟨q1, q2, q3⟩ := two_lit w (.cells #[.int .u8 t.kind, .string t.text, .int .i64 t.num, .int .i64 t.place, .slice t.addr t.kids.length t.cap] 25) (.cells #[.int .u8 u.kind, .string u.text, .int .i64 u.num, .int .i64 u.place, .slice u.addr u.kids.length u.cap] 25) 25 t u
      exact ⟨_, _, _, _, rfl, rfl, Two.start q1 H1.out H2.out hB q2 q3 (by omega)⟩
    · go_wp2_with fail
      go_meet
      obtain ⟨q1, q2, q3⟩ := two_lit w (.cells #[.int .u8 t.kind, .string t.text, .int .i64 t.num, .int .i64 t.place, .slice t.addr t.kids.length t.cap] 25) (.cells #[.int .u8 u.kind, .string u.text, .int .i64 u.num, .int .i64 u.place, .slice u.addr u.kids.length u.cap] 25) 25 u t
      exact ⟨_, _, _, _, rfl, rfl, Two.start q1 H1.out H2.out hB q3 q2 (by omega)⟩
  case rest =>
    obtain ⟨g5, c5, g6, c6, rfl, rfl, hT⟩ := hcut
    go_wp2_with fail
    go_loopg [5, 6] (many t) (fun gh v5 v6 wr => ∃ (g5 c5 g6 c6 n : Nat) (S U : List Nd), gh = manyL S ∧ v5 = .slice (some ⟨g5, 0, none⟩) n c5 ∧ v6 = .slice (some ⟨g6, 0, none⟩) n c6 ∧ Two t u S U B w g5 c5 g6 c6 n wr)
    case atStart => exact ⟨g5, c5, g6, c6, 1, [t], [u], by simp [manyL], rfl, rfl, hT⟩
    case round =>
      clear hT
      obtain ⟨g5, c5, g6, c6, n, S, U, hgk, rfl, rfl, hT⟩ := hrel
      have HGK := Lib.hid hgk
      clear hgk
      cases n with
      | zero =>
        have hS : S = [] := List.eq_nil_of_length_eq_zero hT.s5.2.2.symm
        have hU : U = [] := List.eq_nil_of_length_eq_zero hT.s6.2.2.symm
        have he : same t u = true := by rw [← hT.eq, hS, hU]; rfl
        have HE := Lib.hid he
        clear he hS hU
        go_wp2_with fail
        go_ret
        rw [HE.out]
        exact ⟨rfl, hT.below⟩
      | succ n =>
        obtain ⟨S', x, hS, s5, b5, m5, e0, e1, e2, e3, e4⟩ := hT.s5.top
        obtain ⟨U', y, hU, s6, b6, m6, d0, d1, d2, d3, d4⟩ := hT.s6.top
        have hnb : n ≤ 1000000 := by
          have := length_le_manyL S
          have := hT.le
          have := hT.s5.2.2
          omega
        have hxi := hT.iS x (by rw [hS]; simp)
        have hyi := hT.iU y (by rw [hU]; simp)
        have hiS : ∀ z ∈ S', In wr B z := fun z hz => hT.iS z (by rw [hS]; simp [hz])
        have hiU : ∀ z ∈ U', In wr B z := fun z hz => hT.iU z (by rw [hU]; simp [hz])
        have hlen : S'.length = U'.length := by rw [← s5.2.2, ← s6.2.2]
        have heq : (sameL S' U' && same x y) = same t u := by
          rw [← hT.eq, hS, hU, sameL_append hlen]
          simp [sameL]
        have hman : manyL S = manyL S' + many x := by rw [hS, manyL_append]; simp [manyL]
        have hle := hT.le
        have hbel := hT.below
        have hne := hT.ne
        have l5 := s5.lt
        have l6 := s6.lt
        have hg5 := s5.1
        have hg6 := s6.1
        have HGK2 : Hid (gk = manyL S' + many x) := by show _ = _; rw [HGK.out, hman]
        have HLE : Hid (manyL S' + many x ≤ many t) := by show _ ≤ _; rw [← hman]; exact hle
        have HEQ := Lib.hid heq
        have HLEN := Lib.hid hlen
        have HX := Lib.hid hxi
        have HY := Lib.hid hyi
        have HS5 := Lib.hid s5
        have HS6 := Lib.hid s6
        have HIS := Lib.hid hiS
        have HIU := Lib.hid hiU
        have hbz := hbel.size
        have HBE := Lib.hid hbel
        clear hT HGK hman hle heq hlen hxi hyi hS hU s5 s6 hiS hiU hbel
        unfold maxLen at m5 m6
        go_upto_region 4 with fail
        go_cut [8, 9] (fun v8 v9 w1 => ∃ p8 p9 : Nat, v8 = .pointer (some ⟨p8, 0, none⟩) ∧ v9 = .pointer (some ⟨p9, 0, none⟩) ∧ Box w1 p8 x ∧ Box w1 p9 y ∧ wr.heap.size ≤ p8 ∧ wr.heap.size ≤ p9 ∧ Below wr.heap.size wr w1)
        case first =>
          have hi0 : (0 : Int) ≤ (n : Int) := by omega
          have hi1 : (n : Int) < ((n + 1 : Nat) : Int) := by omega
          have hi2 : (n : Int) < (n : Int) + 1 := by omega
          have hi3 : n < n + 1 := by omega
          have hn5 : ¬ g5 = wr.heap.size := by omega
          have hn6 : ¬ g6 = wr.heap.size := by omega
          have hn5' : ¬ g5 = wr.heap.size + 1 := by omega
          have hn6' : ¬ g6 = wr.heap.size + 1 := by omega
          go_region_held3 (fun W => W.cell? ⟨g5, n * 5, none⟩ = some (.int .u8 x.kind) ∧ W.cell? ⟨g5, n * 5 + 1, none⟩ = some (.string x.text) ∧ W.cell? ⟨g5, n * 5 + 2, none⟩ = some (.int .i64 x.num) ∧ W.cell? ⟨g5, n * 5 + 3, none⟩ = some (.int .i64 x.place) ∧ W.cell? ⟨g5, n * 5 + 4, none⟩ = some (.slice x.addr x.kids.length x.cap) ∧ W.cell? ⟨g6, n * 5, none⟩ = some (.int .u8 y.kind) ∧ W.cell? ⟨g6, n * 5 + 1, none⟩ = some (.string y.text) ∧ W.cell? ⟨g6, n * 5 + 2, none⟩ = some (.int .i64 y.num) ∧ W.cell? ⟨g6, n * 5 + 3, none⟩ = some (.int .i64 y.place) ∧ W.cell? ⟨g6, n * 5 + 4, none⟩ = some (.slice y.addr y.kids.length y.cap)) (go_keep) (first | (fail))
          · go_wp2_with fail
            go_meet
            exact ⟨_, _, rfl, rfl, (box2W_boxes wr x y).1.drew, (box2W_boxes wr x y).2.drew, by omega, by omega, (box2W_below wr x y).drew⟩
          · go_wp2_with fail
            go_meet
            exact ⟨_, _, rfl, rfl, (box2W_boxes wr y x).2.drew, (box2W_boxes wr y x).1.drew, by omega, by omega, (box2W_below wr y x).drew⟩
        case rest =>
          obtain ⟨p8, p9, rfl, rfl, ⟨k0, k1, k2, k3, k4⟩, ⟨j0, j1, j2, j3, j4⟩, l8, l9, hb1⟩ := hcut
          generalize wc = w1 at *
          clear e0 e1 e2 e3 e4 d0 d1 d2 d3 d4
          by_cases a1 : x.kind = y.kind
          · have n1 : ((x.kind : Int) != y.kind) = false := by simp [a1]
            by_cases a2 : x.text.toList = y.text.toList
            · have n2 : (x.text.toList == y.text.toList) = true := by simp [a2]
              by_cases a3 : x.num = y.num
              · have n3 : (x.num != y.num) = false := by simp [a3]
                by_cases a4 : x.kids.length = y.kids.length
                · have n4 : ((x.kids.length : Int) != y.kids.length) = false := by simp [a4]
                  have HSE : Hid (same x y = sameL x.kids y.kids) := by show _ = _; rw [same_eq]; simp [a1, a2, a3]
                  have HA4 := Lib.hid a4
                  clear a1 a2 a3 a4
                  have s5 := HS5.out.keep (grown_of_below hb1.drew none)
                  have s6 := HS6.out.keep (grown_of_below hb1.drew none)
                  have hsz1 := hb1.size
                  have hB1 : B ≤ w1.heap.size := by omega
                  have hxr : Lies w1.drew B x.addr x.kids := (HX.out.under (hb1.mono (by omega))).drew.rows
                  have hyr : Lies w1.drew B y.addr y.kids := (HY.out.under (hb1.mono (by omega))).drew.rows
                  have hxf := HX.out.fits
                  have hyf := HY.out.fits
                  have HS5' := Lib.hid s5
                  have HS6' := Lib.hid s6
                  have HXR := Lib.hid hxr
                  have HYR := Lib.hid hyr
                  have HXF := Lib.hid hxf
                  have HYF := Lib.hid hyf
                  have hlx : x.kids.length ≤ 1000000 := by have := length_lt_many x; have := HLE.out; omega
                  have hly : y.kids.length ≤ 1000000 := by have := HA4.out; omega
                  clear s5 s6 hxr hyr hxf hyf
                  go_upto_region 7 with fail
                  have hi0 : (0 : Int) ≤ (n : Int) := by omega
                  have hi2 : (n : Int) ≤ (c5 : Int) := by omega
                  have hi3 : (n : Int) ≤ (c6 : Int) := by omega
                  go_region_law (first
                    | (refine step_append_own rfl (.tmp 58) (.tmp 60) 23 rfl w.heap.size 25 i0 _ 5 64 Tryd.underlying23 HI.out HZ.out.1 HZ.out.2.1 HZ.out.2.2 rfl (by decide) g5 n c5 (cells S') rfl HS5'.out.2.1 x.addr x.kids.length x.cap rfl HXF.out.nil (cells x.kids) (cells_length _) (lies_news HXR.out) (fun v hv => by obtain ⟨z, _, hz⟩ := cells_mem hv; exact cs_oneCell z v hz) (by unfold maxLen; omega) (by omega) ?_ ?_
                       · show w.heap.size ≤ w1.heap.size; omega
                       intro g5' c5' W5 ho5 hgr5 hp5
                       have q9 : W5.cell? ⟨p9, 4, none⟩ = some (.slice y.addr y.kids.length y.cap) := hgr5.cell j4 (by simp; omega)
                       have HB5 := Lib.hid (And.intro ho5 (And.intro hgr5 hp5)); clear ho5 hgr5 hp5)
                    | (refine step_append_own rfl (.tmp 64) (.tmp 66) 23 rfl w.heap.size 25 i0 _ 5 64 Tryd.underlying23 HI.out HZ.out.1 HZ.out.2.1 HZ.out.2.2 rfl (by decide) g6 n c6 (cells U') rfl (HS6'.out.far HB5.out.2.1 (by intro h; injection h; omega)).2.1 y.addr y.kids.length y.cap rfl HYF.out.nil (cells y.kids) (cells_length _) (lies_news (HYR.out.keep fun p hp => World.cell?_of_block (HB5.out.2.1.block p.block (by show p.block < w1.heap.size; omega) (fun h => by injection h; omega)))) (fun v hv => by obtain ⟨z, _, hz⟩ := cells_mem hv; exact cs_oneCell z v hz) (by unfold maxLen; omega) (by omega) ?_ ?_
                       · have := HB5.out.2.1.size; (have : w1.heap.size ≤ W5.heap.size := this); omega
                       intro g6' c6' W7 ho6 hgr6 hp6
                       have HB6 := Lib.hid (And.intro ho6 (And.intro hgr6 hp6)); clear ho6 hgr6 hp6))
                  all_goals
                    obtain ⟨ho5, hgr5, hp5⟩ := HB5.out
                    obtain ⟨ho6, hgr6, hp6⟩ := HB6.out
                    obtain ⟨p1, p2, p3⟩ := push_two HS5'.out HS6'.out hne ho5 hgr5 hp5 hgr6 hp6
                    have hfin := Two.next HLEN.out HA4.out HS5.out.2.2 (by rcases hp5 with rfl | h <;> first | omega | (have : w1.heap.size ≤ g5' := h; omega)) (by rcases hp6 with rfl | h <;> first | omega | (have := hgr5.size; (have : w1.heap.size ≤ W5.heap.size := this); omega)) p1 ho6 p2 HIS.out HIU.out HX.out HY.out hB HBE.out ((hb1.mono hbz).drew.trans p3) HSE.out HEQ.out HLE.out
                    clear p1 p2 p3 ho5 hgr5 hp5 ho6 hgr6 hp6
                    go_wp2_with fail
                    go_roundg (manyL S' + manyL x.kids)
                    case rel => exact ⟨_, _, _, _, n + x.kids.length, _, _, by rw [manyL_append], rfl, by rw [HA4.out], hfin⟩
                    case measure => rw [HGK2.out, many_eq]; omega
                · have n4 : ((x.kids.length : Int) != y.kids.length) = true := by simp; omega
                  have HF : Hid (same t u = false) := by
                    show _ = _
                    rw [← HEQ.out, same_eq]
                    have : sameL x.kids y.kids = false := by rw [← Bool.not_eq_true, sameL_iff]; exact fun h => a4 h.1
                    simp [this]
                  clear a1 a2 a3 a4
                  go_wp2_with fail
                  go_ret
                  rw [HF.out]
                  exact ⟨rfl, below_step HBE.out hb1 HBE.out.size⟩
              · have n3 : (x.num != y.num) = true := by simp [a3]
                have HF : Hid (same t u = false) := by
                  show _ = _
                  rw [← HEQ.out, same_eq]
                  simp [a3]
                clear a1 a2 a3
                go_wp2_with fail
                go_ret
                rw [HF.out]
                exact ⟨rfl, below_step HBE.out hb1 HBE.out.size⟩
            · have n2 : (x.text.toList == y.text.toList) = false := by simp [a2]
              have HF : Hid (same t u = false) := by
                show _ = _
                rw [← HEQ.out, same_eq]
                simp [a2]
              clear a1 a2
              go_wp2_with fail
              go_ret
              rw [HF.out]
              exact ⟨rfl, below_step HBE.out hb1 HBE.out.size⟩
          · have n1 : ((x.kind : Int) != y.kind) = true := by simp; omega
            have HF : Hid (same t u = false) := by
              show _ = _
              rw [← HEQ.out, same_eq]
              simp [a1]
            clear a1
            go_wp2_with fail
            go_ret
            rw [HF.out]
            exact ⟨rfl, below_step HBE.out hb1 HBE.out.size⟩
end Go.Proofs.YtldedhfbpongmaaDoor
