/- LexBack: the walk. -/
import Derived.Test.YtaopbjdicpjfkaaLexQ
import Derived.Deep.CutBlock
import Derived.Lib.SmallJoins
import Derived.OwnWalk
import Derived.Lib.BufferRead
set_option maxRecDepth 100000
namespace LexT
open Go Go.RowKit
set_option linter.unusedVariables false
theorem strCells_mk (t : Bs) : Lib.strCells (mkS t) = Lib.byteCells t := by simp [Lib.strCells, Lib.byteCells, mkS]
theorem spell_len (k : Nat) (t : Bs) : (spell k t).length ≤ t.length + 2 := by unfold spell; split <;> (try split) <;> simp
theorem written_snoc (ts : List Tok) (k : Nat) (t : Tok) (h : ts[k]? = some t) : writtenB (ts.take (k + 1)) = writtenB (ts.take k) ++ spell t.kind t.text ++ [32] := by
  unfold writtenB
  rw [List.take_add_one, h]
  simp
theorem written_le (ts : List Tok) (h : ∀ t ∈ ts, t.text.length ≤ 65536) : (writtenB ts).length ≤ ts.length * 65539 := by
  induction ts with
  | nil => simp [writtenB]
  | cons t ts ih =>
    have h1 := ih fun x hx => h x (by simp [hx])
    have h2 := h t (by simp)
    have h3 := spell_len t.kind t.text
    unfold writtenB at h1 ⊢
    simp only [List.flatMap_cons, List.length_append, List.length_cons, List.length_nil]
    rw [Nat.add_mul]
    omega
theorem lies_cons {s : Bs} {b : Nat} {t : Tok} {ts : List Tok} (h : Lies s b (t :: ts)) : b ≤ t.place ∧ t.place + (spell t.kind t.text).length ≤ s.length ∧ (s.drop t.place).take (spell t.kind t.text).length = spell t.kind t.text ∧ Lies s (t.place + (spell t.kind t.text).length) ts := h
/-- The bytes so far. -/
structure Ws (W wr : World) (TE : TypeId) (v : Value) (acc : Bs) : Prop where
  own : wr.ownsRow W.heap.size TE 1 v acc.length (Lib.byteCells acc)
  bel : Below W.heap.size W wr
end LexT
namespace Go.Proofs.Ytaopbjdicpjfkaa
open Go.Instr Go.RowKit LexT
set_option linter.unusedVariables false
theorem nil_form {w : World} {base : Nat} {e : TypeId} {v : Value} {n : Nat} {xs : List Value} (h : w.ownsRow base e 1 v n xs) : (v = .slice none 0 0 ∧ n = 0) ∨ ∃ g c, v = .slice (some ⟨g, 0, none⟩) n c := by
  rcases h.2 with h0 | ⟨g, cap, cur, hv, _⟩
  · exact .inl h0
  · exact .inr ⟨g, cap, hv⟩
theorem Try.infoByte : (Try.prog.info? 5).map (fun i => (i.zero, i.size, i.bytes)) = some (some (.int .u8 0), 1, 1) := by kernel_rfl
theorem eqEnd (n : Int) (w : World) : (binOp .neq 31 (.agg #[.int .u8 7, .string ⟨#[]⟩, .int .i64 n]) (.agg #[.int .u8 7, .string ⟨#[]⟩, .int .i64 n])).run Try.prog w = .ok (.bool false) w := by simp [go_sem]
theorem eqgEnd (n : Int) (x y : Operand) (w : World) : (eqGuard .neq 31 x y (.agg #[.int .u8 7, .string ⟨#[]⟩, .int .i64 n]) (.agg #[.int .u8 7, .string ⟨#[]⟩, .int .i64 n])).run Try.prog w = .ok () w := by simp [go_sem]
set_option maxHeartbeats 8000000 in
theorem LexBack_any (s : ByteArray) (w : World) (hm : s.size ≤ maxLen) : Calls Try.prog 3 #[.string s] w fun e w' => e = .returned (.bool true) ∧ Below w.heap.size w w' := by
  have hm' := hm
  unfold maxLen at hm
  by_cases h1 : s.size ≤ 70000
  · have g1 : decide ((70000 : Int) < (s.size : Int)) = false := by simp; omega
    have hback := back s.data.toList
    have hls : s.data.toList.length = s.size := by simp
    have hls0 : s.data.toList.length = s.size := by simp
    rw [hls] at hback
    have HT := Lib.hid (fun ww => Tokens_any s ww hm')
    clear hm'
    cases htk : tokensT s.data.toList with
    | error x =>
      obtain ⟨c, q⟩ := x
      rw [htk] at hback HT
      obtain ⟨hc0, hc1, hq⟩ := hback
      have n0 : ((c : Int) != 0) = true := by simp; omega
      have HQ := Lib.hid hq
      clear htk hq hls
      go_enter Try.func3, Try.ntmps3
      go_wp2_with fail
      refine (awake_any w).mono ?_
      rintro e w1 ⟨rfl, hb1⟩
      have HB1 := Lib.hid hb1
      clear hb1
      go_wp2_with fail
      refine (HT.out w1).mono ?_
      rintro e w2 (⟨out, tv, hR, _⟩ | ⟨c', q', hR, rfl, hb2⟩)
      · cases hR
      · injection hR with hR
        injection hR with hR1 hR2
        subst hR1 hR2
        have HB2 : Hid (Below w.heap.size w w2) := HB1.out.trans (hb2.mono HB1.out.size)
        clear hb2 HB1
        have q0 : decide ((q : Int) ≥ (0 : Int)) = true := by simp
        by_cases hq : q < s.size
        · have q1 : decide ((q : Int) < (s.size : Int)) = true := by simp; omega
          go_wp2_with fail
          go_ret
          exact ⟨rfl, HB2.out.alloc HB2.out.size _⟩
        · have q1 : decide ((q : Int) < (s.size : Int)) = false := by simp; omega
          have q2 : decide ((65536 : Int) < (s.size : Int)) = true := by have := HQ.out; simp; omega
          go_wp2_with fail
          go_ret
          exact ⟨rfl, HB2.out.alloc HB2.out.size _⟩
    | ok out =>
      rw [htk] at hback HT
      obtain ⟨us, hout, hlies, hle, hs16, hw⟩ := hback
      have hsh : ∀ t ∈ us, t.text.length ≤ 65536 := fun t ht => by have := (hle t ht).2; omega
      have HSH := Lib.hid hsh
      have HKD : Hid (∀ t ∈ us, t.kind = 1 ∨ t.kind = 2 ∨ t.kind = 6 ∨ t.kind = 9) := fun t ht => (hle t ht).1
      have HLIES := Lib.hid hlies
      have HLAST : Hid (out[us.length]? = some ⟨7, [], s.size⟩) := by
        show _ = _
        rw [hout, List.getElem?_append_right (Nat.le_refl _)]
        simp
      have HGET : Hid (∀ k t, us[k]? = some t → out[k]? = some t) := fun k t h => by
        rw [hout, List.getElem?_append_left (List.getElem?_eq_some_iff.1 h).1]; exact h
      have hlen : out.length = us.length + 1 := by rw [hout]; simp
      have HW := Lib.hid hw
      have HAL : Hid (∀ m e, alikeB us m → alikeB out (m ++ [⟨7, [], e⟩])) := by
        intro m e h
        unfold alikeB at h ⊢
        rw [hout, List.map_append, List.map_append, h]
        rfl
      clear hlies hle hw hout htk hsh
      obtain ⟨i0, hi, hz0, hz1, hz2⟩ := info_parts Try.infoByte
      have HI := Lib.hid hi
      have HZ := Lib.hid (And.intro hz0 (And.intro hz1 hz2))
      clear hi hz0 hz1 hz2
      go_enter Try.func3, Try.ntmps3
      go_wp2_with fail
      refine (awake_any w).mono ?_
      rintro e w1 ⟨rfl, hb1⟩
      have HB1 := Lib.hid hb1
      clear hb1
      go_wp2_with fail
      refine (HT.out w1).mono ?_
      rintro e w2 (⟨out', tv, hR, rfl, hown, hout, hb2⟩ | ⟨c', q', hR, _⟩)
      · injection hR with hR
        subst hR
        have HB2 : Hid (Below w.heap.size w w2) := HB1.out.trans (hb2.mono HB1.out.size)
        obtain ⟨ao, c, rfl, htka⟩ := toks_of_own hown
        clear hb2 hown HB1
        obtain ⟨g, rfl, hgl, c0, c1, c2⟩ := htka.at_ us.length _ HLAST.out
        have hcl := htka.len
        have hcc := htka.cap
        unfold maxLen at hcc
        have HALK : Hid (∀ (vs : List Tok) (bo : Option Addr) (d : Nat) (ww : World), ToksAt ww (some ⟨g, 0, none⟩) c out → ToksAt ww bo d vs → alikeB out vs → Calls Try.prog 7 #[.slice (some ⟨g, 0, none⟩) (us.length + 1) c, .slice bo vs.length d] ww fun e w' => e = .returned (.bool true) ∧ Below ww.heap.size ww w') := by
          intro vs bo d ww h1 h2 h3
          have := alike_yes out vs _ _ c d ww h1 h2 h3
          rw [hlen] at this
          exact this
        rw [hlen] at hcl hout
        have HTKA := Lib.hid htka
        rw [hlen]
        clear htka hlen hls HLAST
        have c0' : w2.cell? ⟨g, us.length * 3, none⟩ = some (.int .u8 7) := c0
        have c1' : w2.cell? ⟨g, us.length * 3 + 1, none⟩ = some (.string ⟨#[]⟩) := c1
        have c2' : w2.cell? ⟨g, us.length * 3 + 2, none⟩ = some (.int .i64 (s.size : Int)) := c2
        clear c0 c1 c2
        obtain ⟨m, hm2⟩ : ∃ m, us.length = m := ⟨_, rfl⟩
        rw [hm2] at c0' c1' c2' hcl hout HALK ⊢
        have HM := Lib.hid hm2
        clear hm2
        have hng : ¬ g = w2.heap.size := by omega
        have EQ := fun n W => eqEnd n W
        have EG := fun n x y W => eqgEnd n x y W
        have HBF : Hid (Below w2.heap.size w2 (w2.alloc (.cells #[.int .i64 0, .int .i64 0] 26))) := (Below.refl _ _).alloc (Nat.le_refl _) _
        have hz : (w2.alloc (.cells #[.int .i64 0, .int .i64 0] 26)).heap.size = w2.heap.size + 1 := by simp
        have HTK2 := Lib.hid (HTKA.out.under HBF.out)
        go_upto_region 10 with fail
        generalize w2.alloc (.cells #[.int .i64 0, .int .i64 0] 26) = W1 at *
        have HWZ := Lib.hid hz
        clear hz c0' c1' c2' EQ EG
        have HW0 : Hid (Ws W1 W1 5 (.slice none 0 0) []) := ⟨World.ownsRow_nil _ _ _ _, Below.refl _ _⟩
        go_wp2_with fail
        go_loopg [5, 6, 7] m (fun gg v5 v6 v7 wr => ∃ (k p : Nat), k ≤ m ∧ gg = m - k ∧ v6 = .int .i64 (p : Int) ∧ v7 = .int .i64 (k : Int) ∧ p ≤ s.size ∧ Lies s.data.toList p (us.drop k) ∧ Ws W1 wr 5 v5 (writtenB (us.take k)))
        case atStart => exact ⟨0, 0, by omega, rfl, rfl, rfl, by omega, HLIES.out, HW0.out⟩
        case round =>
          obtain ⟨k, p, hk, hgk, rfl, rfl, hps, hlie, hW⟩ := hrel
          have HGK := Lib.hid hgk
          have hl0 : (writtenB (us.take k)).length ≤ 70000 * 65539 := by
            have h1 := written_le (us.take k) (fun t ht => HSH.out t (List.mem_of_mem_take ht))
            have h2 : (us.take k).length ≤ 70000 := by rw [List.length_take]; omega
            exact Nat.le_trans h1 (Nat.mul_le_mul_right 65539 h2)
          have HL1 : Hid ((writtenB (us.take k)).length + 300000 ≤ 140737488355328) := Nat.le_trans (Nat.add_le_add_right hl0 _) (by decide)
          clear hl0
          have hws := hW.bel.size
          have HW1 := Lib.hid hW
          have HLI := Lib.hid hlie
          clear hgk hW HW0 hlie
          by_cases hlt : k < m
          · have hku : k < us.length := by have := HM.out; omega
            obtain ⟨t, ht⟩ : ∃ t, us[k]? = some t := ⟨_, List.getElem?_eq_getElem hku⟩
            have hdrop : us.drop k = t :: us.drop (k + 1) := by
              rw [List.drop_eq_getElem_cons hku]
              congr 1
              have := (List.getElem?_eq_getElem hku).symm.trans ht
              injection this
            have hlie := HLI.out
            rw [hdrop] at hlie
            obtain ⟨p1, p2, p3, p4⟩ := lies_cons hlie
            have HLN := Lib.hid p4
            obtain ⟨g', hg', hgl', d0, d1, d2⟩ := (HTK2.out.under HW1.out.bel).at_ k t (HGET.out k t ht)
            obtain rfl : g = g' := by injection hg' with hg'; injection hg'
            have HSN := Lib.hid (written_snoc us k t ht)
            have htl := HSH.out t (List.mem_of_getElem? ht)
            have hkd := HKD.out t (List.mem_of_getElem? ht)
            have hsl : (spell t.kind t.text).length ≤ 65538 := by have := spell_len t.kind t.text; omega
            obtain ⟨x, hx⟩ : ∃ x, mkS t.text = x := ⟨_, rfl⟩
            obtain ⟨y, hy⟩ : ∃ y, mkS (spell t.kind t.text) = y := ⟨_, rfl⟩
            have hxs : x.size ≤ 65536 := by rw [← hx]; simpa using htl
            have hys : y.size = (spell t.kind t.text).length := by rw [← hy]; simp
            have hex : s.extract t.place (t.place + y.size) = y := by
              rw [Lib.extract_eq, Nat.add_sub_cancel_left, hys, p3, ← hy]; rfl
            rw [hls0] at p2
            rw [hx] at d1
            have HX := Lib.hid hx
            have HY := Lib.hid hy
            have HEX := Lib.hid hex
            have hyb : y.size ≤ 65538 := by omega
            have HYS := Lib.hid hys
            have hpl : t.place + y.size ≤ s.size := by rw [hys]; exact p2
            clear hx hy hex hys ht hg' hgl' hlie p2 p3 p4 hdrop hsl
            go_upto_block 2 with fail
            go_cut [8] (fun v8 wz => v8 = .string y ∧ wr = wz)
            case first =>
              clear hpl
              rcases hkd with h5 | h5 | h5 | h5
              · have e1 : ((t.kind : Int) == 1) = true := by simp [h5]
                have HS : Hid ((⟨#[37]⟩ : ByteArray) ++ x = y) := by
                  show _ = _
                  rw [← HX.out, ← HY.out, h5, show (⟨#[37]⟩ : ByteArray) = mkS [37] from rfl, mkS_append]
                  rfl
                clear h5
                go_wp2_with fail
                go_meet
                exact ⟨by rw [HS.out], rfl⟩
              · have e1 : ((t.kind : Int) == 1) = false := by simp [h5]
                have e9 : ((t.kind : Int) == 9) = false := by simp [h5]
                have HS : Hid (x = y) := by
                  show _ = _
                  rw [← HX.out, ← HY.out, h5]
                  rfl
                clear h5
                go_wp2_with fail
                go_meet
                exact ⟨by rw [← HS.out], rfl⟩
              · have e1 : ((t.kind : Int) == 1) = false := by simp [h5]
                have e9 : ((t.kind : Int) == 9) = false := by simp [h5]
                have HS : Hid (x = y) := by
                  show _ = _
                  rw [← HX.out, ← HY.out, h5]
                  rfl
                clear h5
                go_wp2_with fail
                go_meet
                exact ⟨by rw [← HS.out], rfl⟩
              · have e1 : ((t.kind : Int) == 1) = false := by simp [h5]
                have e9 : ((t.kind : Int) == 9) = true := by simp [h5]
                have HS : Hid ((⟨#[123]⟩ : ByteArray) ++ x ++ ⟨#[125]⟩ = y) := by
                  show _ = _
                  rw [← HX.out, ← HY.out, h5, show (⟨#[123]⟩ : ByteArray) = mkS [123] from rfl, show (⟨#[125]⟩ : ByteArray) = mkS [125] from rfl, mkS_append, mkS_append]
                  rfl
                clear h5
                go_wp2_with fail
                go_meet
                exact ⟨by rw [HS.out], rfl⟩
            case rest =>
              obtain ⟨rfl, rfl⟩ := hcut
              have HO := Lib.hid HW1.out.own
              have hacc : ∃ acc, writtenB (us.take k) = acc := ⟨_, rfl⟩
              obtain ⟨acc, hacc⟩ := hacc
              rw [hacc] at HO HL1
              have HACC := Lib.hid hacc
              clear hacc d0 d1
              have hp1 : (p : Int) ≤ (t.place : Int) := by omega
              have b1 : decide ((t.place : Int) < (p : Int)) = false := by simp; omega
              have b2 : decide ((s.size : Int) < (t.place : Int) + (y.size : Int)) = false := by simp; omega
              have b3 : (t.place : Int) + (y.size : Int) ≤ (s.size : Int) := by omega
              have b4 : ((t.place : Int) + (y.size : Int)).toNat = t.place + y.size := by omega
              have b5 : (t.place : Int) ≤ (t.place : Int) + (y.size : Int) := by omega
              have b6 : (0 : Int) ≤ (t.place : Int) + (y.size : Int) := by omega
              have hex := HEX.out
              go_upto_region 24 with fail
              clear hex b3 b4 b5 b6
              go_wp2_with (at_builtin; refine Lib.wpList_append_own_string _ rfl _ _ 32 9 rfl W1.heap.size 5 i0 Try.underlying32 Try.underlying9 HI.out HZ.out.1 HZ.out.2.1 HZ.out.2.2 _ _ _ rfl HO.out y rfl ?c3 ?c4 ?c5 ?_)
              case c3 => have := HL1.out; unfold maxLen; omega
              case c4 => have := HL1.out; omega
              case c5 => omega
              intro v1 w4 ho4 hg4 _
              have HG4 : Hid (Below W1.heap.size wr w4) := by show Below _ _ _; exact (Below.refl _ _).grown hg4 (by omega) (fun g hh => (HO.out.lt g hh).1)
              have hw4 := hg4.size
              have HO4 := Lib.hid ho4
              clear ho4 hg4
              go_wp2_with (at_builtin; refine wpList_append_own _ rfl _ _ 32 rfl W1.heap.size 5 i0 (.int .u8 0) 1 1 Try.underlying32 HI.out HZ.out.1 HZ.out.2.1 HZ.out.2.2 rfl (by decide) _ _ _ rfl (HO4.out.alloc _) ⟨w4.heap.size, 0, none⟩ 1 1 [.int .u8 32] rfl rfl ?e1 ?e2 ?e3 ?e4 ?e5 ?_)
              case e1 =>
                intro j u hj
                match j, hj with
                | 0, hj => simp at hj; subst hj; simp [Addr.add]
              case e2 => intro u hu; simp at hu; subst hu; rfl
              case e3 => have := HL1.out; unfold maxLen; omega
              case e4 => have := HL1.out; omega
              case e5 => simp; omega
              intro v2 w5 ho5 hg5 _
              have HWS : Hid (Ws W1 w5 5 v2 (writtenB (us.take (k + 1)))) := by
                refine ⟨?_, ?_⟩
                · rw [HSN.out, HACC.out]
                  have h1 : (acc ++ spell t.kind t.text ++ [32]).length = acc.length + y.size + 1 := by rw [← HY.out]; simp; omega
                  have h2 : Lib.byteCells (acc ++ spell t.kind t.text ++ [32]) = Lib.byteCells acc ++ Lib.strCells y ++ [.int .u8 32] := by
                    rw [← HY.out, strCells_mk]; simp [Lib.byteCells]
                  rw [h1, h2, List.append_assoc]
                  exact ho5
                · refine (HW1.out.bel.trans HG4.out).trans ?_
                  exact ((Below.refl W1.heap.size w4).alloc (by omega) _).grown hg5 (by simp; omega) (fun g hh => (HO4.out.lt g hh).1)
              clear ho5 hg5
              go_wp2_with fail
              go_roundg (m - (k + 1))
              case rel => exact ⟨k + 1, t.place + y.size, by omega, rfl, by go_num, by go_num, hpl, by rw [HYS.out]; exact HLN.out, HWS.out⟩
              case measure => rw [HGK.out]; omega
          · have hkm : k = m := by omega
            have HK : Hid (us.take k = us) := by show _ = _; rw [hkm, ← HM.out, List.take_length]
            have hw1 := HW1.out
            rw [HK.out] at hw1 HL1
            have HW2 := Lib.hid hw1
            clear hw1 HLI HW1
            obtain ⟨acc, hacc⟩ : ∃ acc, writtenB us = acc := ⟨_, rfl⟩
            rw [hacc] at HW2 HL1 HW
            obtain ⟨S, hS⟩ : ∃ S, mkS acc = S := ⟨_, rfl⟩
            have HX : Hid (S.data.toList = acc) := by show _ = _; rw [← hS]; simp
            have hSz : S.size = acc.length := by rw [← hS]; simp
            have hxs : S.size ≤ maxLen := by have := HL1.out; unfold maxLen; omega
            have HXS := Lib.hid hxs
            have HSA : Hid (S = ⟨acc.toArray⟩) := hS.symm
            have HSZ := Lib.hid hSz
            clear hxs hS hSz hacc
            have HB3 : Hid (Below w.heap.size w wr) := (HB2.out.trans (HBF.out.mono HB2.out.size)).trans (HW2.out.bel.mono (by have := HWZ.out; have := HB2.out.size; omega))
            have HTKR := Lib.hid (HTK2.out.under HW2.out.bel)
            have hlow : (acc.length : Int) = (S.size : Int) := by rw [HSZ.out]
            rcases nil_form HW2.out.own with ⟨hv, h0⟩ | ⟨g2, cc, hv⟩
            · subst hv
              have hacc : acc = [] := List.eq_nil_of_length_eq_zero h0
              have hcv : ∀ W, (convert 32 9 (.slice none 0 0)).run Try.prog W = .ok (.string S) W := fun W => by
                have := Lib.run_convert_nil_bytes (P := Try.prog) W 32 9 5 0 Try.underlying32 Try.underlying5 Try.underlying9
                rw [HSA.out, hacc]; exact this
              have hacc0 : Hid (acc.length = 0) := h0
              clear hacc h0 hlow
              go_wp2_with fail
              refine (Tokens_any S wr HXS.out).mono ?_
              by_cases hxl : S.size ≤ 65536
              · skip
                obtain ⟨mm, ee, h1, h2⟩ := HW.out (by rw [← HSZ.out]; exact hxl)
                rw [HX.out, h1]
                have HAL2 : Hid (alikeB out (mm ++ [⟨7, [], ee⟩])) := HAL.out mm ee h2
                clear h1 h2
                generalize mm ++ [(⟨7, [], ee⟩ : Tok)] = vs at *
                rintro e w4 (⟨out2, tv, hR, rfl, hown, hout2, hb4⟩ | ⟨c', q', hR, _⟩)
                · injection hR with hR
                  subst hR
                  obtain ⟨bo, d, rfl, htk2⟩ := toks_of_own hown
                  have hcl2 := htk2.len
                  have hcc2 := htk2.cap
                  unfold maxLen at hcc2
                  have HTK3 := Lib.hid htk2
                  have HB4 := Lib.hid hb4
                  clear hb4 hown htk2
                  have HCA : Hid (∀ ww, Below w4.heap.size w4 ww → Calls Try.prog 7 #[.slice (some ⟨g, 0, none⟩) (m + 1) c, .slice bo vs.length d] ww fun e w' => e = .returned (.bool true) ∧ Below ww.heap.size ww w') := by
                    intro ww hww
                    exact HALK.out vs bo d ww (HTKR.out.under (HB4.out.trans (hww.mono HB4.out.size))) (HTK3.out.under hww) HAL2.out
                  go_wp2_with fail
                  refine (HCA.out _ ((Below.refl _ _).alloc (Nat.le_refl _) _)).mono ?_
                  rintro e w5 ⟨rfl, hb5⟩
                  have HB5 : Hid (Below w.heap.size w w5) := ((HB3.out.trans (HB4.out.mono HB3.out.size)).alloc ((HB3.out.trans (HB4.out.mono HB3.out.size)).size) (.cells #[.int .i64 0, .int .i64 0] 26)).trans (hb5.mono (((HB3.out.trans (HB4.out.mono HB3.out.size)).alloc ((HB3.out.trans (HB4.out.mono HB3.out.size)).size) (.cells #[.int .i64 0, .int .i64 0] 26)).size))
                  clear hb5
                  go_wp2_with fail
                  go_ret
                  exact ⟨rfl, HB5.out⟩
                · cases hR
              · exact absurd (show S.size ≤ 65536 from by have h9 := HSZ.out; have h8 : acc.length = 0 := hacc0.out; omega) hxl
            · subst hv
              have hcv : (convert 32 9 (.slice (some ⟨g2, 0, none⟩) acc.length cc)).run Try.prog wr = .ok (.string S) wr := by
                rw [HSA.out]
                exact run_convert_bytes_back wr 32 9 5 ⟨g2, 0, none⟩ cc acc Try.underlying32 Try.underlying5 Try.underlying9 (fun j hj => HW2.out.own.cells (g := g2) rfl j _ (by simp [Lib.byteCells, hj]))
              obtain ⟨na, hna⟩ : ∃ na, acc.length = na := ⟨_, rfl⟩
              rw [hna] at hcv hlow ⊢
              go_wp2_with fail
              refine (Tokens_any S wr HXS.out).mono ?_
              by_cases hxl : S.size ≤ 65536
              · have gx : decide ((65536 : Int) < (na : Int)) = false := by simp; omega
                obtain ⟨mm, ee, h1, h2⟩ := HW.out (by rw [← HSZ.out]; exact hxl)
                rw [HX.out, h1]
                have HAL2 : Hid (alikeB out (mm ++ [⟨7, [], ee⟩])) := HAL.out mm ee h2
                clear h1 h2
                generalize mm ++ [(⟨7, [], ee⟩ : Tok)] = vs at *
                rintro e w4 (⟨out2, tv, hR, rfl, hown, hout2, hb4⟩ | ⟨c', q', hR, _⟩)
                · injection hR with hR
                  subst hR
                  obtain ⟨bo, d, rfl, htk2⟩ := toks_of_own hown
                  have hcl2 := htk2.len
                  have hcc2 := htk2.cap
                  unfold maxLen at hcc2
                  have HTK3 := Lib.hid htk2
                  have HB4 := Lib.hid hb4
                  clear hb4 hown htk2
                  have HCA : Hid (∀ ww, Below w4.heap.size w4 ww → Calls Try.prog 7 #[.slice (some ⟨g, 0, none⟩) (m + 1) c, .slice bo vs.length d] ww fun e w' => e = .returned (.bool true) ∧ Below ww.heap.size ww w') := by
                    intro ww hww
                    exact HALK.out vs bo d ww (HTKR.out.under (HB4.out.trans (hww.mono HB4.out.size))) (HTK3.out.under hww) HAL2.out
                  go_wp2_with fail
                  refine (HCA.out _ ((Below.refl _ _).alloc (Nat.le_refl _) _)).mono ?_
                  rintro e w5 ⟨rfl, hb5⟩
                  have HB5 : Hid (Below w.heap.size w w5) := ((HB3.out.trans (HB4.out.mono HB3.out.size)).alloc ((HB3.out.trans (HB4.out.mono HB3.out.size)).size) (.cells #[.int .i64 0, .int .i64 0] 26)).trans (hb5.mono (((HB3.out.trans (HB4.out.mono HB3.out.size)).alloc ((HB3.out.trans (HB4.out.mono HB3.out.size)).size) (.cells #[.int .i64 0, .int .i64 0] 26)).size))
                  clear hb5
                  go_wp2_with fail
                  go_ret
                  exact ⟨rfl, HB5.out⟩
                · cases hR
              · have gx : decide ((65536 : Int) < (na : Int)) = true := by simp; omega
                rintro e w4 (⟨out2, tv, hR, rfl, hown, hout2, hb4⟩ | ⟨c', q', hR, rfl, hb4⟩)
                · obtain ⟨bo, d, rfl, htk2⟩ := toks_of_own hown
                  have HB4 : Hid (Below w.heap.size w w4) := HB3.out.trans (hb4.mono HB3.out.size)
                  clear hb4 hown htk2 hR
                  go_wp2_with fail
                  go_ret
                  exact ⟨rfl, HB4.out.alloc HB4.out.size _⟩
                · have HB4 : Hid (Below w.heap.size w w4) := HB3.out.trans (hb4.mono HB3.out.size)
                  clear hb4 hR
                  go_wp2_with fail
                  go_ret
                  exact ⟨rfl, HB4.out.alloc HB4.out.size _⟩
      · cases hR
  · have g1 : decide ((70000 : Int) < (s.size : Int)) = true := by simp; omega
    clear hm'
    go_enter Try.func3, Try.ntmps3
    go_wp2_with fail
    refine (awake_any w).mono ?_
    rintro e w1 ⟨rfl, hb1⟩
    have HB1 := Lib.hid hb1
    clear hb1
    go_wp2_with fail
    go_ret
    exact ⟨rfl, HB1.out⟩
end Go.Proofs.Ytaopbjdicpjfkaa
